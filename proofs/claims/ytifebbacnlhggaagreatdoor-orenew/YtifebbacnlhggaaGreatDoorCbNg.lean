/-
  A rule's Sigma, of Shift and Diff.
-/
import Derived.Test.YtifebbacnlhggaaGreatDoorBwGkVp
import Derived.Test.YtifebbacnlhggaaGreatDoorHx
import Derived.Test.YtifebbacnlhggaaGreatDoorFpCdDeGa
import Derived.Deep.DeepFit
import Derived.Test.YtifebbacnlhggaaGreatDoorVzCcGlPy
import Derived.Test.YtifebbacnlhggaaGreatDoorHfCaHwDg
import Derived.Test.YtifebbacnlhggaaGreatDoorDcUmUoDmDvPmHuVsVt
namespace Go.Proofs.YtifebbacnlhggaaGreatDoor
open Go.RowKit
set_option linter.unusedVariables false
set_option linter.unusedSimpArgs false

set_option maxHeartbeats 2000000 in
set_option maxRecDepth 100000 in
/-- Sigma of Diff. -/
theorem oSigma_diff {w : World} {g : Nat} {e : Ent} (h : RuleAt w g 2 e) {K : Nat} {p : Option Addr} {n nc : Nat} {es : List Ent} {zs : List Int} (hP : PA w K p n nc es zs) (hn : n ≤ 1000) (hK : K ≤ 1000) :
    Calls Tryz.prog 16 #[.pointer (some ⟨g, 0, none⟩), .slice p n nc] w (PnP (tr zs) K w) := by
  have hc := oAlg_any h
  clear h
  go_enter Tryz.func16, Tryz.ntmps16
  go_wp2_with fail
  go_fit hc
  rintro r w1 ⟨rfl, hb⟩
  have hd := uNorm_any K p n nc es zs w1 (hP.below hb) (by omega) hK
  clear hc
  go_wp2_with fail
  go_fit hd
  rintro r w2 ⟨p1, n1, es1, rfl, h1, hb2⟩
  have HR' : Hid (PnP (tr zs) K w (.returned (.slice p1 n1 n1)) w2) := ⟨p1, n1, es1, rfl, h1.mono hb.size, bnext' hb hb2⟩
  clear hd h1 hb2
  go_wp2
  go_ret
  exact HR'.out
set_option maxHeartbeats 2000000 in
set_option maxRecDepth 100000 in
/-- Sigma of Shift. -/
theorem oSigma_shift {w : World} {g : Nat} {e : Ent} (h : RuleAt w g 1 e) {K : Nat} {p : Option Addr} {n nc : Nat} {es : List Ent} {zs : List Int} (hP : PA w K p n nc es zs) (hn : n ≤ 1000) (hM : K + tlen zs * (tlen zs * 3) ≤ 800) :
    Calls Tryz.prog 16 #[.pointer (some ⟨g, 0, none⟩), .slice p n nc] w (PnP (shr 1 (tlen zs) (tr zs)) (K + tlen zs * (tlen zs * 3)) w) := by
  have hc := oAlg_any h
  clear h
  have HM := (show Hid _ from hM)
  have HP := (show Hid (PA w K p n nc es zs) from hP)
  clear hM hP
  go_enter Tryz.func16, Tryz.ntmps16
  go_wp2_with fail
  go_fit hc
  rintro r w1 ⟨rfl, hb⟩
  clear hc
  go_wp2_with fail
  go_fit (Of_e 1 w1 (by decide) (by decide))
  rintro r w2 ⟨u, rfl, hN, hb2⟩
  have hB2 := bnext' hb hb2
  have hd := uShift_any (HP.out.below hB2) (hN.ev (by decide)) hn (by decide) HM.out
  clear hN
  go_wp2_with fail
  go_fit hd
  rintro r w3 ⟨p1, n1, es1, rfl, h1, hb3⟩
  have HR' : Hid (PnP (shr 1 (tlen zs) (tr zs)) (K + tlen zs * (tlen zs * 3)) w (.returned (.slice p1 n1 n1)) w3) := ⟨p1, n1, es1, rfl, h1.mono hB2.size, bnext' hB2 hb3⟩
  clear hd h1 hb3 hB2 hb2 hb
  go_wp2
  go_ret
  exact HR'.out
end Go.Proofs.YtifebbacnlhggaaGreatDoor
/-
  Sigma and Delta of all three algebras, of the program and of the reference, told alike.
-/
namespace Go.Proofs.YtifebbacnlhggaaGreatDoor
open Go.RowKit
set_option linter.unusedVariables false
set_option linter.unusedSimpArgs false

/-- Sigma of an algebra; Delta. -/
def SGM (al y : Int) (zs : List Int) : List Int := if al = 1 then coz 1 (tr zs) else if al = 3 then dlz y zs else tr zs
def DLM (al : Int) (zs : List Int) : List Int := if al = 2 then derz (tr zs) else []
theorem SGM_len (al y : Int) (zs : List Int) : (SGM al y zs).length ≤ zs.length := by
  unfold SGM
  split
  · have h1 : (coz 1 (tr zs)).length ≤ (tr zs).length := by
      rw [coz, length_tr]
      refine Nat.le_trans (tlen_le _) ?_
      simp
    rw [length_tr] at h1
    exact Nat.le_trans h1 (tlen_le zs)
  · split
    · exact length_dlz _ _
    · rw [length_tr]; exact tlen_le zs
theorem DLM_len (al : Int) (zs : List Int) : (DLM al zs).length ≤ zs.length := by
  unfold DLM
  split
  · rw [length_derz, length_tr]
    have := tlen_le zs
    omega
  · exact Nat.zero_le _
theorem SGM_lt {al y : Int} {zs : List Int} {K : Nat} (hz : ∀ t, ((gx zs t).natAbs : Int) < pw K) (hy : (y.natAbs : Int) < pw 1) (t : Nat) : ((gx (SGM al y zs) t).natAbs : Int) < pw (K + zs.length * 2) := by
  have hl := tlen_le zs
  unfold SGM
  split
  · rw [gx_coz]
    have h1 := co_lt (a := 1) (K := K) (L := 1) (by decide) (tr zs) (fun t => by rw [gx_tr]; exact hz t) t
    have h2 := pw_mono (show K + (tr zs).length * (1 + 1) ≤ K + zs.length * 2 by rw [length_tr]; omega)
    omega
  · split
    · rw [gx_dlz]
      exact dl_lt hy zs hz t
    · rw [gx_tr]
      have h2 := pw_mono (show K ≤ K + zs.length * 2 by omega)
      have := hz t
      omega
theorem DLM_lt {al : Int} {zs : List Int} {K : Nat} (hz : ∀ t, ((gx zs t).natAbs : Int) < pw K) (hn : zs.length ≤ 1000) (t : Nat) : ((gx (DLM al zs) t).natAbs : Int) < pw (K + zs.length * 2) := by
  have hl := tlen_le zs
  unfold DLM
  split
  · rcases Nat.lt_or_ge t ((tr zs).length - 1) with h | h
    · rw [gx_derz _ _ h, gx_tr]
      rw [length_tr] at h
      have h1 := hz (t + 1)
      have h2 := pw_mono (show K + 1 ≤ K + zs.length * 2 by omega)
      rw [pw_succ] at h2
      have h3 : ((((t : Int) + 1) * gx zs (t + 1)).natAbs : Int) = ((t : Int) + 1) * ((gx zs (t + 1)).natAbs : Int) := by
        rw [Int.natAbs_mul, Int.natCast_mul, Int.natAbs_of_nonneg (by omega)]
      rw [h3]
      have h4 : ((t : Int) + 1) * ((gx zs (t + 1)).natAbs : Int) ≤ 1000 * ((gx zs (t + 1)).natAbs : Int) := Int.mul_le_mul_of_nonneg_right (by omega) (by omega)
      have h5 := pw_pos K
      omega
    · rw [gx_past _ _ (by rw [length_derz]; exact Nat.le_refl _) t h]
      exact pw_pos _
  · simp [gx]
    exact pw_pos _
theorem nrm_ext {a b : List Int} (ha : tlen a = a.length) (hb : tlen b = b.length) (h : ∀ j, gx a j = gx b j) : a = b := by
  have h1 := tr_same h
  rwa [tr_self ha, tr_self hb] at h1
theorem tr_tr (zs : List Int) : tr (tr zs) = tr zs := tr_self (by rw [tlen_tr, length_tr])
theorem SGM_tr (al y : Int) (zs : List Int) : SGM al y (tr zs) = SGM al y zs := by
  unfold SGM
  rw [tr_tr]
  split
  · rfl
  · split
    · exact nrm_ext (dlz_nrm _ _) (dlz_nrm _ _) fun j => by rw [gx_dlz, gx_dlz, dl_pow, dl_pow, gx_tr]
    · rfl
theorem DLM_tr (al : Int) (zs : List Int) : DLM al (tr zs) = DLM al zs := by
  unfold DLM
  rw [tr_tr]
theorem PN.fit {B : Nat} {w : World} {K M : Nat} {p : Option Addr} {n : Nat} {es : List Ent} {zs : List Int} (h : PN B w K p n es zs) (hz : ∀ t, ((gx zs t).natAbs : Int) < pw M) : PN B w M p n es zs := ⟨h.el, h.zl, h.nrm, h.pl, h.fr, fun j hj => (h.ev j hj).fit (hz j)⟩
theorem PnP.fit {zs : List Int} {K M : Nat} {w : World} {e : Ending} {w' : World} (h : PnP zs K w e w') (hz : ∀ t, ((gx zs t).natAbs : Int) < pw M) : PnP zs M w e w' := by
  obtain ⟨p, n, es, a, b, c⟩ := h
  exact ⟨p, n, es, a, b.fit hz, c⟩
/-- A rule with its q. -/
structure RuleQ (w : World) (g : Nat) (al y : Int) : Prop where
  a : al = 1 ∨ al = 2 ∨ al = 3
  r : ∃ e, RuleAt w g al e ∧ EV w 1 y e
  q : al = 3 → y ≠ 0
theorem RuleQ.below {w w' : World} {g : Nat} {al y : Int} (h : RuleQ w g al y) (hb : Below w.heap.size w w') : RuleQ w' g al y := by
  obtain ⟨a, ⟨e, b, c⟩, d⟩ := h
  exact ⟨a, ⟨e, b.below hb, c.below hb⟩, d⟩
theorem RuleQ.bd {w : World} {g : Nat} {al y : Int} (h : RuleQ w g al y) : (y.natAbs : Int) < pw 1 := by
  obtain ⟨-, ⟨e, b, c⟩, -⟩ := h
  exact c.bd
theorem oSigma_all {w : World} {g : Nat} {al y : Int} (h : RuleQ w g al y) {K : Nat} {p : Option Addr} {n nc : Nat} {es : List Ent} {zs : List Int} (hP : PA w K p n nc es zs) (hn : n ≤ 15) (hK : K ≤ 60) :
    Calls Tryz.prog 16 #[.pointer (some ⟨g, 0, none⟩), .slice p n nc] w (PnP (SGM al y zs) (K + n * 2) w) := by
  have hl := tlen_le zs
  have hz := hP.zl
  have hlt := SGM_lt (al := al) (y := y) hP.gbd h.bd
  rw [hz] at hlt
  obtain ⟨ha, ⟨e, h1, h2⟩, h3⟩ := h
  have e1 : SGM 1 y zs = coz 1 (tr zs) := by unfold SGM; rw [if_pos rfl]
  have e2 : SGM 2 y zs = tr zs := by unfold SGM; rw [if_neg (by decide), if_neg (by decide)]
  have e3 : SGM 3 y zs = dlz y zs := by unfold SGM; rw [if_neg (by decide), if_pos rfl]
  rcases ha with rfl | rfl | rfl
  · have h4 := coz_shr 1 (tr zs) (by rw [tlen_tr, length_tr])
    rw [length_tr] at h4
    have h5 : tlen zs * (tlen zs * 3) ≤ 15 * (15 * 3) := Nat.mul_le_mul (by omega) (by omega)
    have h6 := oSigma_shift h1 hP (by omega) (by omega)
    rw [← h4, ← e1] at h6
    exact h6.mono fun r w' hr => hr.fit hlt
  · have h6 := oSigma_diff h1 hP (by omega) (by omega)
    rw [← e2] at h6
    exact h6.mono fun r w' hr => hr.fit hlt
  · have h6 := oSigma_q h1 h2 hP (by omega) (by omega) (by omega) (h3 rfl)
    rw [← e3] at h6
    exact h6.mono fun r w' hr => hr.fit hlt
theorem oDelta_all {w : World} {g : Nat} {al y : Int} (h : RuleQ w g al y) {K : Nat} {p : Option Addr} {n nc : Nat} {es : List Ent} {zs : List Int} (hP : PA w K p n nc es zs) (hn : n ≤ 15) (hK : K ≤ 60) :
    Calls Tryz.prog 19 #[.pointer (some ⟨g, 0, none⟩), .slice p n nc] w (PnP (DLM al zs) (K + n * 2) w) := by
  have hz := hP.zl
  have hlt := DLM_lt (al := al) hP.gbd (by omega)
  rw [hz] at hlt
  obtain ⟨ha, ⟨e, h1, h2⟩, h3⟩ := h
  rcases Int.decEq al 2 with h4 | h4
  · have h6 := oDelta_none h1 h4 p n nc K
    have e1 : DLM al zs = [] := by unfold DLM; rw [if_neg h4]
    rw [← e1] at h6
    exact h6.mono fun r w' hr => hr.fit hlt
  · subst h4
    have h6 := oDelta_diff h1 hP (by omega) (by omega)
    have e1 : DLM 2 zs = derz (tr zs) := by unfold DLM; rw [if_pos rfl]
    rw [← e1] at h6
    exact h6.mono fun r w' hr => hr.fit hlt
/-- A polynomial of the reference that is answered, wherever it lies. -/
def PrC (zs : List Int) (N : Nat) (w : World) (e : Ending) (w' : World) : Prop :=
  ∃ p n nc es, e = .returned (.slice p n nc) ∧ PR w' N p n nc es zs ∧ Below w.heap.size w w'
theorem PrP.c {zs : List Int} {N M : Nat} {w : World} {e : Ending} {w' : World} (h : PrP zs N w e w') (hz : ∀ t, ((gx zs t).natAbs : Int) < pw M) : PrC zs (2 * M) w e w' := by
  obtain ⟨p, n, es, a, b, -, -, c⟩ := h
  exact ⟨p, n, n, es, a, b.tight hz, c⟩
theorem rSigma_all {w : World} {al y : Int} {u : Ent} {M N K : Nat} (ha : al = 1 ∨ al = 2 ∨ al = 3) (hq : al = 3 → RE w M y u ∧ y ≠ 0) (hY : (y.natAbs : Int) < pw 1) {p : Option Addr} {n nc : Nat} {es : List Ent} {zs : List Int} (h : PR w N p n nc es zs) (ht : tlen zs = zs.length) (hn : n ≤ 15) (hN : N ≤ 200) (hN4 : 4 ≤ N) (hM : M ≤ 200) (hX : ∀ i, ((gx zs i).natAbs : Int) < pw K) (hK : K + n * 2 + 1 ≤ 80) :
    Calls Tryz.prog 17 #[.agg #[.int .i64 al, .bool u.s, .slice u.p u.n u.c], .slice p n nc] w (PrC (SGM al y zs) (2 * (K + n * 2)) w) := by
  have hz := h.zl
  have hlt := SGM_lt (al := al) (y := y) hX hY
  rw [hz] at hlt
  have e1 : SGM 1 y zs = coz 1 zs := by unfold SGM; rw [if_pos rfl, tr_self ht]
  have e2 : SGM 2 y zs = zs := by unfold SGM; rw [if_neg (by decide), if_neg (by decide), tr_self ht]
  have e3 : SGM 3 y zs = dlz y zs := by unfold SGM; rw [if_neg (by decide), if_pos rfl]
  rcases ha with rfl | rfl | rfl
  · have h6 := rSigma8_shift u.s u.p u.n u.c h (by omega) hN hN4 hX hK
    rw [← e1] at h6
    exact h6.mono fun r w' hr => hr.c hlt
  · refine (rSigma8_diff w u.s u.p u.n u.c p n nc).mono ?_
    rintro r w' ⟨rfl, hb⟩
    rw [e2] at hlt ⊢
    exact ⟨p, n, nc, es, rfl, (h.tight hlt).below hb, hb⟩
  · have h6 := rSigma8_q (hq rfl).1 h (by omega) hN hN4 hM hX hY (Nat.le_refl _) (hq rfl).2 (by omega)
    rw [← e3] at h6
    exact h6.mono fun r w' hr => hr.c hlt
theorem rDelta_all {w : World} {al : Int} {u : Ent} {N K : Nat} {p : Option Addr} {n nc : Nat} {es : List Ent} {zs : List Int} (h : PR w N p n nc es zs) (ht : tlen zs = zs.length) (hn : n ≤ 15) (hN : N ≤ 200) (hX : ∀ i, ((gx zs i).natAbs : Int) < pw K) :
    Calls Tryz.prog 20 #[.agg #[.int .i64 al, .bool u.s, .slice u.p u.n u.c], .slice p n nc] w (PrC (DLM al zs) (2 * (K + n * 2)) w) := by
  have hz := h.zl
  have hlt := DLM_lt (al := al) hX (by omega)
  rw [hz] at hlt
  rcases Int.decEq al 2 with h4 | h4
  · have h6 := rDelta8_none w al u.s u.p u.n u.c h4 p n nc 0
    have e1 : DLM al zs = [] := by unfold DLM; rw [if_neg h4]
    rw [← e1] at h6
    exact h6.mono fun r w' hr => hr.c hlt
  · subst h4
    have h6 := rDelta8_diff u.s u.p u.n u.c h (by omega) (by omega)
    have e1 : DLM 2 zs = tr (derz zs) := by
      unfold DLM; rw [if_pos rfl, tr_self ht]
      have h7 := derz_top zs
      rw [tr_self ht] at h7
      rw [tr_self]
      rw [h7, length_derz, ht]
    rw [← e1] at h6
    exact h6.mono fun r w' hr => hr.c hlt
end Go.Proofs.YtifebbacnlhggaaGreatDoor
