/-
  ashlarref9.Apply.
-/
import Derived.Test.YtifebbacnlhggaaGreatDoorKjDwNfNnEkEhEiElEmDxAxAzBlEeEaEc
import Derived.Deep.DeepFit
import Derived.Test.YtifebbacnlhggaaGreatDoorAvAwAy
import Derived.Test.YtifebbacnlhggaaGreatDoorApEpGiGj
import Derived.Test.YtifebbacnlhggaaGreatDoorNl
import Derived.Test.YtifebbacnlhggaaGreatDoorNm
import Derived.Test.YtifebbacnlhggaaGreatDoorCuOaOfJpRzCw
import Derived.Test.YtifebbacnlhggaaGreatDoorDjVkJoNcOnDpAa
namespace Go.Proofs.YtifebbacnlhggaaGreatDoor
open Go.RowKit
set_option linter.unusedVariables false
set_option linter.unusedSimpArgs false

set_option maxHeartbeats 4000000 in
set_option maxRecDepth 100000 in
/-- ashlarref9.Apply. -/
theorem rApply9_any {w : World} {B T N E D N2 M : Nat} {x : List (List Int)} {h : Hdr} {f : Option Addr} {fn fc : Nat} {fs : List Ent} {zs : List Int} {q : Int} {e0 : Ent} (H : HR D (EY N E) w B T x h) (G : PR w N2 f fn fc fs zs) (hT : T ≤ w.heap.size) (hq : RE w M q e0) (hD : D ≤ 1000000) (hE : E ≤ 1000000) (hN : N ≤ 1000) (hN2 : N2 ≤ 1000) (hM : M ≤ 1000) (hfn : fn ≤ 1000000) (hfb : pb zs ≤ 1000000000) (b1 : SzB x) :
    Calls Tryz.prog 35 #[.slice h.p h.n h.c, .slice f fn fc, .agg #[.bool e0.s, .slice e0.p e0.n e0.c]] w fun e w' => e = .returned (.int .i64 (tms [rszO x + 1, rszD x + ((fn : Int) - 1) + 3, sms [rszB x, (pb zs : Int), pmf (pmf (rszO x + 1) ((fn : Int) - 1 + 2)) ((zb q : Int) + 8)]])) ∧ Below w.heap.size w w' := by
  have h1 := fun w' (hb : Below w.heap.size w w') => rSize8_any ((lasts_HR (lasts_EY N E)).below H hT hb) (Nat.le_trans hT hb.size) hD hE hN
  have h3 := fun w' (hb : Below w.heap.size w w') => rBits_e (hq.below hb) hM
  have h4 := fun w' => rpDeg_any f fn fc w' (by omega)
  have h5 := fun w' (hb : Below w.heap.size w w') => rpBits_any (G.below hb) hN2 (by omega)
  obtain ⟨p, n, nc⟩ := h
  simp only at h1 h3 ⊢
  clear H G hT hq
  unfold SzB at b1
  have hg0 : -1 ≤ (fn : Int) - 1 ∧ (fn : Int) - 1 ≤ 1000000 := by omega
  have hl0 : 0 ≤ (pb zs : Int) ∧ (pb zs : Int) ≤ 1000000000 := by omega
  generalize rszO x = r at *
  generalize rszD x = d at *
  generalize rszB x = k at *
  generalize (fn : Int) - 1 = g at *
  generalize (pb zs : Int) = l at *
  have hW : Below w.heap.size w (w.alloc (.cells #[.bool e0.s, .slice e0.p e0.n e0.c] 30)) := (Below.refl _ _).alloc (Nat.le_refl _) _
  have c0 : (w.alloc (.cells #[.bool e0.s, .slice e0.p e0.n e0.c] 30)).cell? ⟨w.heap.size, 0, none⟩ = some (.bool e0.s) := by simp [go_sem]
  have c1 : (w.alloc (.cells #[.bool e0.s, .slice e0.p e0.n e0.c] 30)).cell? ⟨w.heap.size, 1, none⟩ = some (.slice e0.p e0.n e0.c) := by simp [go_sem]
  go_enter Tryz.func35, Tryz.ntmps35
  go_wp2_with fail
  generalize w.alloc (.cells #[.bool e0.s, .slice e0.p e0.n e0.c] 30) = W at *
  go_fit (h1 W hW)
  rintro e1 w1 ⟨rfl, hb1⟩
  have hB1 := bnext' hW hb1
  have h3' := h3 w1 hB1
  have d0' := cell_later hb1 c0
  have d1' := cell_later hb1 c1
  go_wp2_with fail
  go_fit h3'
  rintro e1 w2 ⟨rfl, hzb, hb2⟩
  have hB2 := bnext' hB1 hb2
  have hm : 0 ≤ (zb q : Int) ∧ (zb q : Int) ≤ 1000000 := by omega
  clear hzb h1 h3 h3' hb1 hb2 hB1 c0 c1 d0' d1' hW
  generalize hmm : (zb q : Int) = m at *
  have HMM : Hid ((zb q : Int) = m) := hmm
  clear hmm
  go_wp2_with fail
  go_fit (h4 w2)
  rintro e1 w3 ⟨rfl, hb3⟩
  have hB3 := bnext' hB2 hb3
  obtain ⟨⟨r0, r1⟩, ⟨d0, d1⟩, k0, k1⟩ := b1
  obtain ⟨m0, m1⟩ := hm
  obtain ⟨g0, g1⟩ := hg0
  obtain ⟨l0, l1⟩ := hl0
  have v1 : wrap64 (r + 1) = r + 1 := by unfold wrap64; omega
  have v2 : wrap64 (d + g) = d + g := by unfold wrap64; omega
  have v3 : wrap64 (d + g + 3) = d + g + 3 := by unfold wrap64; omega
  have v4 : wrap64 (g + 2) = g + 2 := by unfold wrap64; omega
  have v5 : wrap64 (m + 8) = m + 8 := by unfold wrap64; omega
  have t1 : InT (r + 1) := inT_small (by omega) (by omega)
  have t2 : InI (g + 2) := inI_small (by omega) (by omega)
  have t4 : InI (m + 8) := inI_small (by omega) (by omega)
  have p2 := pmf_bd (r + 1) (g + 2) t1 t2
  have p3 := pmf_bd (pmf (r + 1) (g + 2)) (m + 8) p2 t4
  have h5' := h5 w3 hB3
  clear h4 h5 hB2 hb3
  go_wp2_with fail
  go_fit h5'
  rintro e1 w4 ⟨rfl, hb4⟩
  have hB4 := bnext' hB3 hb4
  clear h5' hb4 hB3
  go_wp2_with fail
  go_fit (rBy0_any (r + 1) (g + 2) t1 t2)
  rintro e1 w5 ⟨rfl, hb5⟩
  have hB5 := bnext' hB4 hb5
  go_wp2_with fail
  go_fit (rBy0_any (pmf (r + 1) (g + 2)) (m + 8) p2 t4)
  rintro e1 w6 ⟨rfl, hb6⟩
  have hB6 := bnext' hB5 hb6
  clear hB4 hB5 hb5 hb6
  generalize hx2 : pmf (pmf (r + 1) (g + 2)) (m + 8) = x2 at *
  have HX2 : Hid (pmf (pmf (r + 1) (g + 2)) (m + 8) = x2) := hx2
  clear hx2
  generalize hx3 : pmf (r + 1) (g + 2) = x3 at *
  have HX3 : Hid (pmf (r + 1) (g + 2) = x3) := hx3
  clear hx3
  have hrd : Rd (w6.alloc (.cells #[.int .i64 k, .int .i64 l, .int .i64 x2] 3)) (some ⟨w6.heap.size, 0, none⟩) .i64 [k, l, x2] := rd_lit w6 [k, l, x2] 3
  have hin : ∀ y ∈ [k, l, x2], InT y := (List.forall_mem_cons.2 ⟨inT_small (by omega) (by omega), (List.forall_mem_cons.2 ⟨inT_small (by omega) (by omega), (List.forall_mem_cons.2 ⟨p3, (List.forall_mem_nil _)⟩)⟩)⟩)
  go_wp2_with fail
  go_fit (rsum_lit [k, l, x2] 3 rfl (by decide) hrd hin)
  rintro e1 w7 ⟨rfl, hb7⟩
  have hB7 : Below w.heap.size w w7 := bnext' hB6 (bnext' ((Below.refl _ _).alloc (Nat.le_refl _) _) hb7)
  have hsI : InI (sms [k, l, x2]) := sms_in fun y hy => ⟨(hin y hy).1, by have := (hin y hy).2; omega⟩
  clear hrd hb7 hB6 hin
  generalize hx4 : sms [k, l, x2] = x4 at *
  have HX4 : Hid (sms [k, l, x2] = x4) := hx4
  clear hx4
  have hrd : Rd (w7.alloc (.cells #[.int .i64 (r + 1), .int .i64 (d + g + 3), .int .i64 x4] 3)) (some ⟨w7.heap.size, 0, none⟩) .i64 [r + 1, d + g + 3, x4] := rd_lit w7 [r + 1, d + g + 3, x4] 3
  go_wp2_with fail
  go_fit (rtimes_lit [r + 1, d + g + 3, x4] 3 rfl (by decide) hrd (List.forall_mem_cons.2 ⟨inI_small (by omega) (by omega), (List.forall_mem_cons.2 ⟨inI_small (by omega) (by omega), (List.forall_mem_cons.2 ⟨hsI, (List.forall_mem_nil _)⟩)⟩)⟩))
  rintro e1 w8 ⟨rfl, hb8⟩
  have HB8 : Hid (Below w.heap.size w w8) := bnext' hB7 (bnext' ((Below.refl _ _).alloc (Nat.le_refl _) _) hb8)
  clear hrd hb8 hB7
  go_wp2
  go_ret
  refine ⟨?_, HB8.out⟩
  rw [HMM.out, HX3.out, HX2.out, HX4.out]
  rfl
end Go.Proofs.YtifebbacnlhggaaGreatDoor
/-
  Plain: the program's estimates are the reference's.
-/
namespace Go.Proofs.YtifebbacnlhggaaGreatDoor
open Go.RowKit
set_option linter.unusedVariables false
set_option linter.unusedSimpArgs false

theorem pmf_one {a : Int} (h : InT a) : pmf 1 a = a := by
  unfold pmf
  rw [Int.one_mul]
  have := h.2
  omega
theorem pms_three {a b c : Int} (h : InT a) : pms [a, b, c] = pmf (pmf a b) c := by
  show pmf (pmf (pmf 1 a) b) c = _
  rw [pmf_one h]
theorem sms_small1 {a b : Int} (h0 : 0 ≤ a) (h1 : 0 ≤ b) (h2 : a + b ≤ 4611686018427387904) : sms [a, b] = a + b := by
  show smf (smf 0 a) b = _
  unfold smf
  omega
/-- Apply's estimate. -/
theorem eapply_ref {r d k g l m : Int} (hr : 0 ≤ r ∧ r ≤ 1000000) (hd : 0 ≤ d ∧ d ≤ 1000000) (hg : -1 ≤ g ∧ g ≤ 1000000) (hm : 0 ≤ m ∧ m ≤ 1000000) :
    tms [sms [r, 1], sms [d, g + 3], sms [k, l, pms [sms [r, 1], g + 2, sms [m, 8]]]] = tms [r + 1, d + g + 3, sms [k, l, pmf (pmf (r + 1) (g + 2)) (m + 8)]] := by
  rw [sms_small1 (a := r) hr.1 (by decide) (by omega), sms_small1 (a := d) hd.1 (by omega) (by omega), sms_small1 (a := m) hm.1 (by decide) (by omega), pms_three ⟨by omega, by omega⟩, show d + (g + 3) = d + g + 3 by omega]
end Go.Proofs.YtifebbacnlhggaaGreatDoor
/-
  Plain: the program's estimates of Divide, Common are the reference's.
-/
namespace Go.Proofs.YtifebbacnlhggaaGreatDoor
open Go.RowKit
set_option linter.unusedVariables false
set_option linter.unusedSimpArgs false

end Go.Proofs.YtifebbacnlhggaaGreatDoor
/-
  Estimates of operators that are cut: the program's and the reference's.
-/
namespace Go.Proofs.YtifebbacnlhggaaGreatDoor
open Go.RowKit
set_option linter.unusedVariables false
set_option linter.unusedSimpArgs false

theorem szO_oz (z : List (List Int)) : max ((olen z : Int) - 1) 0 = rszO (oz z) := by
  rw [rszO, length_oz]
  split <;> omega
theorem oz_nil {z : List (List Int)} (h : olen z = 0) : oz z = [] := by rw [oz, h]; rfl
theorem szD_oz (z : List (List Int)) : max (odeg z) 0 = rszD (oz z) := by
  rw [rszD, length_oz, ← odeg_oz]
  split
  · rename_i h
    rw [oz_nil h]
    rfl
  · rename_i h
    rw [odeg_oz]
    have h0 : 0 < olen z := by omega
    have hl : olen z ≤ z.length := olen_le z
    have h1 := odeg_take z (olen z - 1) (by omega)
    have h2 : tlen (gt z (olen z - 1)) ≠ 0 := by
      intro e
      have h3 := tlen_top (z.map fun z => (tlen z : Int)) h0
      rw [gx_tlens] at h3
      exact h3 (by show (tlen (gt z (olen z - 1)) : Int) = 0; rw [e]; rfl)
    have h5 : ∀ k, olen z - 1 + 1 + k ≤ z.length → 0 ≤ odeg (z.take (olen z - 1 + 1 + k)) := by
      intro k
      induction k with
      | zero => intro _; rw [Nat.add_zero, h1]; omega
      | succ k ih =>
        intro hk
        have := ih (by omega)
        rw [← Nat.add_assoc, odeg_take z _ (by omega)]
        omega
    have h6 := h5 (z.length - olen z) (by omega)
    rw [show olen z - 1 + 1 + (z.length - olen z) = z.length by omega, List.take_length] at h6
    omega
theorem szB_oz (z : List (List Int)) : (obit z : Int) = rszB (oz z) := by
  rw [rszB, length_oz, ← obit_oz]
  split
  · rename_i h
    rw [oz_nil h]
    rfl
  · rfl
theorem szb_op {D E K : Nat} {w : World} {B T : Nat} {z : List (List Int)} {h : Hdr} (H : HR D (EZ K E) w B T z h) (hD : D ≤ 1000000) (hE : E ≤ 1000000) (hK : K ≤ 1000) : SzB (oz z) := by
  unfold SzB
  rw [← szO_oz, ← szD_oz, ← szB_oz]
  have hlen := hr_len H
  obtain ⟨hs, k⟩ := H
  have h1 := olen_le z
  have h2 := k.tl
  have h3 := k.few
  have h4 := odeg_bd z hlen z.length (Nat.le_refl _)
  have h5 := obit_bd (E := 32 * K) z (fun j hj => by
    obtain ⟨fs, a, -⟩ := k.ev j (by omega)
    exact pb_few a) z.length (Nat.le_refl _)
  rw [List.take_length] at h4 h5
  omega
section
variable {D E K N lo lo' D' E' : Nat} {X Y : Nat → Prop} {w v : World} {z y : List (List Int)} {h g : Hdr} {zq : Int} {uq un : Ent}
theorem szb_at (k : Lies (EOp D E K) lo X w z h) (hD : D ≤ 1000000) (hE : E ≤ 1000000) (hK : K ≤ 1000) : SzB (oz z) := by
  obtain ⟨B, T, h1, h2, -, -⟩ := k
  exact szb_op h1 hD hE hK
def vApply (x : List (List Int)) (f : List Int) (q : Int) : Int := tms [rszO x + 1, rszD x + ((tlen f : Int) - 1) + 3, sms [rszB x, (pb f : Int), pmf (pmf (rszO x + 1) ((tlen f : Int) - 1 + 2)) ((zb q : Int) + 8)]]
theorem rapply_at {l : List (List Int)} {F : Nat} {zf : List Int} {hf : Hdr} (k : Lies (EOr D E N) lo X w l h) (kf : ∃ lo X, Lies (EY N F) lo X w (tr zf) hf) (kq : ∃ lo X, RnX N lo X w zq un) (b1 : SzB l) (hb : Below w.heap.size w v) (hD : D ≤ 1000000) (hE : E ≤ 1000000) (hN : N ≤ 1000) (hF : F ≤ 100000) (hfb : pb zf ≤ 1000000) :
    Calls Tryz.prog 35 #[.slice h.p h.n h.c, .slice hf.p hf.n hf.c, .agg #[.bool un.s, .slice un.p un.n un.c]] v fun e w' => e = .returned (.int .i64 (vApply l zf zq)) ∧ Below v.heap.size v w' := by
  obtain ⟨_, _, kq⟩ := kq
  obtain ⟨_, _, kf⟩ := kf
  obtain ⟨B, T, h1, h2, -, -⟩ := k.below (lOr _ _ _) hb
  obtain ⟨B2, T2, ⟨fs, a, b, c, d, -, -⟩, -⟩ := kf.below (lEY _ _) hb
  have hn : hf.n = tlen zf := by rw [← c, tlen_tr]
  have := rApply9_any h1 a h2 (kq.1.below hb) hD hE hN hN hN (by omega) (by rw [pb_trim]; omega) b1
  rw [pb_trim] at this
  unfold vApply
  rwa [← hn]
end
end Go.Proofs.YtifebbacnlhggaaGreatDoor
/-
  OreApply's walk.
-/
namespace Go.Proofs.YtifebbacnlhggaaGreatDoor
open Go.RowKit
set_option linter.unusedVariables false
set_option linter.unusedSimpArgs false
/-- The two estimates are one. -/
theorem est_eq {w : World} {D E K M : Nat} {B T : Nat} {zss : List (List Int)} {h : Hdr} (H : HR D (EZ K E) w B T zss h) (hD : D ≤ 1000000) (hE : E ≤ 1000000) (hK : K ≤ 1000) {p : Option Addr} {n nc : Nat} {es : List Ent} {zs : List Int} (hP : PA w M p n nc es zs) (hn : n ≤ 1000000) {y : Int} (hy : zb y ≤ 1000000) : estA zss zs y = vApply (oz zss) zs y := by
  have b1 := szb_op H hD hE hK
  have h1 := tlen_le zs
  have h2 := hP.zl
  rw [estA, szO_oz, szD_oz, szB_oz, eapply_ref b1.1 b1.2.1 ⟨by omega, by omega⟩ ⟨by omega, by omega⟩]
  rfl
theorem Ozs_len {al y : Int} {cs : List (List Int)} {f : List Int} (hf : f.length ≤ 7) (hc : ∀ j, (gt cs j).length ≤ 4) : ∀ i, (Ozs al y cs f i).length ≤ 11
  | 0 => by simp [Ozs]
  | i + 1 => by
    have h0 := Ozs_len (al := al) (y := y) hf hc i
    have h1 := len_add (Ozs al y cs f i) (mulp (tr (gt cs i)) (Fit al y f i))
    have h2 := mulp_le (tr (gt cs i)) (Fit al y f i)
    have h3 := length_tr (gt cs i)
    have h4 := tlen_le (gt cs i)
    have h5 := Fit_len al y f i
    have h6 := hc i
    rw [Ozs]
    omega
/-- What OreApply holds of its variables. -/
structure ApS (w v : World) (g gq : Nat) (al y : Int) (zss : List (List Int)) (ha : Hdr) (zs : List Int) (hf : Hdr) (xe : Ent) : Prop where
  a : Lies (EOp 5 4 2) 0 (fun _ => False) v zss ha
  f : Lies (EZ 2 7) 0 (fun _ => False) v zs hf
  r : RuleQ v g al y
  x : RE v 2 y xe
  c0 : v.cell? ⟨gq, 0, none⟩ = some (.int .i64 al)
  c1 : v.cell? ⟨gq, 1, none⟩ = some (.bool xe.s)
  c2 : v.cell? ⟨gq, 2, none⟩ = some (.slice xe.p xe.n xe.c)
  b : Below w.heap.size w v
theorem ApS.later {w v v' : World} {g gq : Nat} {al y : Int} {zss : List (List Int)} {ha : Hdr} {zs : List Int} {hf : Hdr} {xe : Ent} (k : ApS w v g gq al y zss ha zs hf xe) (hb : Below v.heap.size v v') : ApS w v' g gq al y zss ha zs hf xe :=
  ⟨k.a.below (lOp _ _ _) hb, k.f.below (lEZ _ _) hb, k.r.below hb, k.x.below hb, cell_later hb k.c0, cell_later hb k.c1, cell_later hb k.c2, bnext' k.b hb⟩
section
variable {w v : World} {g gq : Nat} {al y : Int} {zss : List (List Int)} {ha : Hdr} {zs : List Int} {hf hu hg : Hdr} {xe : Ent}
theorem ApS.from8 (k : ApS w v g gq al y zss ha zs hf xe) : Calls Tryz.prog 26 #[.slice ha.p ha.n ha.c] v fun e w' => ∃ h : Hdr, e = .returned (.slice h.p h.n h.c) ∧ Lies (EOr 5 4 4) 0 (fun _ => False) w' (oz zss) h ∧ Below v.heap.size v w' := by
  refine (from8_ax (X := fun _ => False) (lo := 0) k.a (Below.refl _ _) (fun c hc => hc.elim) (Nat.zero_le _) (by decide) (by decide) (by decide)).mono ?_
  rintro e w' ⟨_, rfl, ⟨h, rfl, h1⟩, hb⟩
  exact ⟨h, rfl, h1, hb⟩
theorem ApS.from3 (k : ApS w v g gq al y zss ha zs hf xe) : Calls Tryz.prog 18 #[.slice hf.p hf.n hf.c] v fun e w' => ∃ h : Hdr, e = .returned (.slice h.p h.n h.c) ∧ Lies (EY 4 7) 0 (fun _ => False) w' (tr zs) h ∧ Below v.heap.size v w' := by
  refine (from3_ax (X := fun _ => False) (lo := 0) k.f (Below.refl _ _) (fun c hc => hc.elim) (Nat.zero_le _) (by decide) (by decide)).mono ?_
  rintro e w' ⟨_, rfl, ⟨h, rfl, h1⟩, hb⟩
  exact ⟨h, rfl, h1, hb⟩
theorem ApS.apply (k : ApS w v g gq al y zss ha zs hf xe) : Calls Tryz.prog 34 #[.pointer (some ⟨g, 0, none⟩), .slice ha.p ha.n ha.c, .slice hf.p hf.n hf.c] v (ApP al y zss zs v) := by
  obtain ⟨B, T, h1, h2, -, -⟩ := k.a
  obtain ⟨B', T', ⟨fs, k1, k2, -, -⟩, -⟩ := k.f
  exact oApply_any k.r h1 h2 k1 k2
theorem ApS.len (k : ApS w v g gq al y zss ha zs hf xe) (i : Nat) : (Ozs al y zss zs i).length ≤ 11 := by
  obtain ⟨B, T, h1, h2, -, -⟩ := k.a
  obtain ⟨B', T', ⟨fs, k1, k2, -, -⟩, -⟩ := k.f
  exact Ozs_len (by rw [k1.zl]; exact k2) (hr_len h1) i
theorem ApS.est (k : ApS w v g gq al y zss ha zs hf xe) : estA zss zs y = vApply (oz zss) zs y := by
  obtain ⟨B, T, h1, h2, -, -⟩ := k.a
  obtain ⟨B', T', ⟨fs, k1, k2, -, -⟩, -⟩ := k.f
  obtain ⟨e, h3, h4⟩ := k.r.r
  exact est_eq h1 (by decide) (by decide) (by decide) k1 (by omega) (by have := zb_le h4; omega)
theorem ApS.rest (k : ApS w v g gq al y zss ha zs hf xe) (ku : Lies (EOr 5 4 4) 0 (fun _ => False) v (oz zss) hu) (kg : Lies (EY 4 7) 0 (fun _ => False) v (tr zs) hg) : Calls Tryz.prog 35 #[.slice hu.p hu.n hu.c, .slice hg.p hg.n hg.c, .agg #[.bool xe.s, .slice xe.p xe.n xe.c]] v fun e w' => e = .returned (.int .i64 (estA zss zs y)) ∧ Below v.heap.size v w' := by
  rw [k.est]
  obtain ⟨B', T', ⟨fs, k1, k2, -, -⟩, -⟩ := k.f
  exact rapply_at ku ⟨_, _, kg⟩ ⟨0, fun _ => False, re_wide k.x (by decide), fun _ _ _ => ⟨Nat.zero_le _, fun h => h⟩⟩ (szb_at k.a (by decide) (by decide) (by decide)) (Below.refl _ _) (by decide) (by decide) (by decide) (by decide) (by have := pb_le k1 (by omega); omega)
theorem ApS.rapply (k : ApS w v g gq al y zss ha zs hf xe) (ku : Lies (EOr 5 4 4) 0 (fun _ => False) v (oz zss) hu) (kg : Lies (EY 4 7) 0 (fun _ => False) v (tr zs) hg) : Calls Tryz.prog 36 #[.agg #[.int .i64 al, .bool xe.s, .slice xe.p xe.n xe.c], .slice hu.p hu.n hu.c, .slice hg.p hg.n hg.c] v (PrC (Ozs al y zss zs (olen zss)) 124 v) := by
  obtain ⟨B, T, h1, h2, -, -⟩ := ku
  obtain ⟨B', T', ⟨fs, k1, k2, k3, k4, -⟩, -⟩ := kg
  have h3 := rApply_any k.r.a k.x k.r.q k.r.bd h1 h2 k1 (by rw [tlen_tr, length_tr]) k4
  obtain ⟨hs, h4⟩ := h1
  have h6 : Ozs al y (oz zss) (tr zs) hu.n = Ozs al y zss zs (olen zss) := by
    rw [show hu.n = olen zss by rw [← h4.tl, length_oz]]
    exact Ozs_congr (tr_tr zs) (olen zss) (fun j hj => by rw [gt_oz, tr_tr])
  rw [h6] at h3
  exact h3
end
set_option maxHeartbeats 4000000 in
set_option maxRecDepth 100000 in
theorem OreApply_walk {w : World} {al : Int} {e : Ent} {p : Option Addr} {n nc : Nat} {hs0 : List Hdr} {q : Option Addr} {m mc : Nat} {es0 : List Ent} (he : RawE w e) (h : RZ w p n nc hs0) (k : PZ w q m mc es0) (hal : -9223372036854775808 ≤ al ∧ al ≤ 9223372036854775807) :
    Calls Tryz.prog 6 #[.int .i64 al, .agg #[.bool e.s, .slice e.p e.n e.c], .slice p n nc, .slice q m mc] w fun r w' => r = .returned (.bool true) ∧ Below w.heap.size w w' := by
  have HX : Hid (RawE w e ∧ RZ w p n nc hs0 ∧ PZ w q m mc es0) := ⟨he, h, k⟩
  clear h he k
  have hW0 : Below w.heap.size w (w.alloc (.cells #[.bool e.s, .slice e.p e.n e.c] 24)) := (Below.refl _ _).alloc (Nat.le_refl _) _
  have hBx : Bx (w.alloc (.cells #[.bool e.s, .slice e.p e.n e.c] 24)) w.heap.size (.bool e.s) (.slice e.p e.n e.c) := Bx.new _ _ _ rfl
  go_enter Tryz.func6, Tryz.ntmps6
  go_wp2_with fail
  go_fit (begun8_any _)
  rintro e1 W ⟨rfl, hb1⟩
  have hW := bnext' hW0 hb1
  have HBx : Hid (Bx W w.heap.size (.bool e.s) (.slice e.p e.n e.c)) := hBx.later hb1
  clear hBx hb1 hW0
  go_wp2_with fail
  go_fit (few8_any (HX.out.2.1.below hW))
  rintro r w1 ⟨ha, zss, rfl, -, hA1, hb1⟩
  have hB1 := bnext' hW hb1
  have HA1 : Hid (Lies (EOp 5 4 2) 0 (fun _ => False) w1 zss ha) := ⟨_, _, hA1, Nat.le_refl _, Nat.zero_le _, fun _ h => h.elim⟩
  clear hA1
  dsimp only [Hdr.val]
  go_wp2_with fail
  go_fit (cut3_ax (X := fun _ => False) (lo := 0) HX.out.2.2 hB1 (fun c hc => hc.elim) (Nat.zero_le _) 7 2 (by decide) (by decide))
  rintro r w2 ⟨_, rfl, ⟨hf, zs, rfl, hF2⟩, hb2⟩
  have hB2 := bnext' hB1 hb2
  have HS : Hid (Lies (EOp 5 4 2) 0 (fun _ => False) w2 zss ha ∧ Lies (EZ 2 7) 0 (fun _ => False) w2 zs hf) := ⟨HA1.out.below (lOp _ _ _) hb2, hF2⟩
  have hc := HBx.out.later (bnext' hb1 hb2)
  have x0 : w2.cell? ⟨w.heap.size, 0, none⟩ = some (.bool e.s) := hc.c0
  have x1 : w2.cell? ⟨w.heap.size, 1, none⟩ = some (.slice e.p e.n e.c) := hc.c1
  have hru := lRule_any (HX.out.1.below hB2) hal
  clear hF2 hb1 hb2 HA1 hW hB1 HBx hc
  go_wp2_with fail
  go_fit hru
  rintro r w3 ⟨hR, hb3⟩
  have hB3 := bnext' hB2 hb3
  clear hru x0 x1
  rcases hR with rfl | ⟨g, y, xe, rfl, hRQ, hRE⟩
  · have HB : Hid (Below w.heap.size w w3) := hB3
    clear HS hB2 hb3 hB3
    go_wp2_with fail
    go_ret
    exact ⟨rfl, bel_al HB.out⟩
  have hal4 := bel_al (o := .cells #[.int .i64 al, .bool xe.s, .slice xe.p xe.n xe.c] 40) (Below.refl w3.heap.size w3)
  have hb4 := bnext' hb3 hal4
  have NS : Hid (ApS w (w3.alloc (.cells #[.int .i64 al, .bool xe.s, .slice xe.p xe.n xe.c] 40)) g w3.heap.size al y zss ha zs hf xe) := ⟨HS.out.1.below (lOp _ _ _) hb4, HS.out.2.below (lEZ _ _) hb4, hRQ.below hal4, hRE.below hal4, by simp [go_sem], by simp [go_sem], by simp [go_sem], bnext' hB2 hb4⟩
  clear HS hb3 hRQ hRE hB2 HX hal4 hb4 hB3
  go_wp2_with fail
  generalize w3.alloc (.cells #[.int .i64 al, .bool xe.s, .slice xe.p xe.n xe.c] 40) = W4 at *
  generalize w3.heap.size = gq at *
  go_fit NS.out.from8
  rintro r w5 ⟨hu, rfl, hU, hb5⟩
  have NS5 : Hid (ApS w w5 g gq al y zss ha zs hf xe ∧ Lies (EOr 5 4 4) 0 (fun _ => False) w5 (oz zss) hu) := ⟨NS.out.later hb5, hU⟩
  clear NS hU hb5
  go_wp2_with fail
  go_fit NS5.out.1.from3
  rintro r w6 ⟨hg, rfl, hG, hb6⟩
  have NS6 : Hid (ApS w w6 g gq al y zss ha zs hf xe ∧ Lies (EOr 5 4 4) 0 (fun _ => False) w6 (oz zss) hu ∧ Lies (EY 4 7) 0 (fun _ => False) w6 (tr zs) hg) := ⟨NS5.out.1.later hb6, NS5.out.2.below (lOr _ _ _) hb6, hG⟩
  clear NS5 hG hb6
  go_wp2_with fail
  go_fit NS6.out.1.apply
  rintro r w7 ⟨hbig, hok, hb7⟩
  have NS7 : Hid (ApS w w7 g gq al y zss ha zs hf xe ∧ Lies (EOr 5 4 4) 0 (fun _ => False) w7 (oz zss) hu ∧ Lies (EY 4 7) 0 (fun _ => False) w7 (tr zs) hg) := ⟨NS6.out.1.later hb7, NS6.out.2.1.below (lOr _ _ _) hb7, NS6.out.2.2.below (lEY _ _) hb7⟩
  clear NS6 hb7
  have hes := NS7.out.1.rest NS7.out.2.1 NS7.out.2.2
  have k1 := NS7.out.1.c1
  have k2 := NS7.out.1.c2
  by_cases hE : 1048576 < estA zss zs y
  · have hr := hbig hE
    subst hr
    clear hbig hok
    generalize estA zss zs y = ES at *
    go_wp2_with fail
    go_fit hes
    rintro r w8 ⟨rfl, hb8⟩
    have HB : Hid (Below w.heap.size w w8) := bnext' NS7.out.1.b hb8
    clear hes k1 k2 NS7 hb8
    go_wp2_with fail
    go_ret
    exact ⟨rfl, HB.out⟩
  · obtain ⟨p8, m8, f8, rfl, hPN⟩ := hok hE
    clear hbig hok
    have hE' : estA zss zs y ≤ 1048576 := by omega
    generalize estA zss zs y = ES at *
    go_wp2_with fail
    go_fit hes
    rintro r w8 ⟨rfl, hb8⟩
    have NS8 : Hid (ApS w w8 g gq al y zss ha zs hf xe ∧ Lies (EOr 5 4 4) 0 (fun _ => False) w8 (oz zss) hu ∧ Lies (EY 4 7) 0 (fun _ => False) w8 (tr zs) hg ∧ PN w6.heap.size w8 310 p8 m8 f8 (Ozs al y zss zs (olen zss))) := ⟨NS7.out.1.later hb8, NS7.out.2.1.below (lOr _ _ _) hb8, NS7.out.2.2.below (lEY _ _) hb8, hPN.below hb8⟩
    clear hes k1 k2 NS7 hb8 hPN
    have k0 := NS8.out.1.c0
    have k1 := NS8.out.1.c1
    have k2 := NS8.out.1.c2
    have hra := NS8.out.1.rapply NS8.out.2.1 NS8.out.2.2.1
    go_wp2_with fail
    go_fit hra
    rintro r w9 ⟨p9, n9, c9, e9, rfl, hR9, hb9⟩
    have his := rpIs3 (NS8.out.2.2.2.below hb9) hR9 (by decide) (by decide) (by have := NS8.out.2.2.2.zl; have := NS8.out.1.len (olen zss); omega)
    have hB9 := bnext' NS8.out.1.b hb9
    clear hra k0 k1 k2 hR9 hb9
    go_wp2_with fail
    go_fit his
    rintro r w10 ⟨rfl, hb10⟩
    have HB : Hid (Below w.heap.size w w10) := bnext' hB9 hb10
    clear his hb10 hB9 NS8
    go_wp2
    go_ret
    exact ⟨rfl, HB.out⟩
end Go.Proofs.YtifebbacnlhggaaGreatDoor
/-
  What an argument of type api.Int is, read as data.
-/
namespace Go.Proofs.YtifebbacnlhggaaGreatDoor
open Go.ChangeShapes Go.WideShapes Go.ChangeAt Go.RowKit Go.Joins
set_option linter.unusedVariables false
set_option linter.unusedSimpArgs false

theorem cellsInt : Tryz.prog.cellsOf 24 = 2 := by kernel_rfl
theorem cellsLimb : Tryz.prog.cellsOf 81 = 1 := by kernel_rfl

/-- What an api.Int is, as an argument. -/
def IntArg (W : World) (v : Value) : Prop := ∃ (s : Bool) (pa : Option Addr) (n nc : Nat) (xs : List Int), v = .agg #[.bool s, .slice pa n nc] ∧ xs.length = n ∧ n ≤ nc ∧ nc ≤ maxLen ∧ Rd W pa .u32 xs ∧ U32 xs ∧ (pa = none → nc = 0)

set_option maxRecDepth 100000 in
theorem openInt {H : Type} {enc : TypeId × Value → H} {W : World} {base : Nat} {v0 : Value} {d0 : DataW H} {p0 : List MemPlace} (hv : Value.okWide Tryz.prog W .any base 24 v0)
    (h0 : DataW.Trod enc Tryz.prog W 0 (fun _ => true) true 24 v0 d0 p0) : IntArg W v0 := by
  obtain ⟨c0, c1, y0, y1, k, rfl, -, -, hy0, hy1⟩ := open_agg2 Tryz.underlying24 (by kernel_rfl) cellsInt hv h0
  obtain ⟨s, e0, -⟩ := DataW.trod_bool Tryz.underlying4 hy0
  simp only [List.cons.injEq, and_true] at e0
  subst e0
  rcases open_ints Tryz.underlying22 Tryz.underlying81 cellsLimb hy1 with ⟨hcs, -⟩ | ⟨a, len, cap, zs, hcs, -, hl, hm, hz, -, hcell, hwz⟩
  · simp only [List.cons.injEq, and_true] at hcs
    subst hcs
    exact ⟨s, none, 0, 0, [], rfl, rfl, Nat.le_refl _, Nat.zero_le _, Rd.nil, u32_nil, fun _ => rfl⟩
  · simp only [List.cons.injEq, and_true] at hcs
    subst hcs
    simp only [if_true] at hz
    refine ⟨s, some a, len, cap, zs.take len, rfl, by simp; omega, hl, hm, ?_, ?_, fun h => by cases h⟩
    · intro hp
      have hp' : 0 < zs.length := by simp at hp; omega
      obtain ⟨b, off, rfl, hc⟩ := ints_at hcell hp'
      refine ⟨b, off, rfl, fun j hj => ?_⟩
      have hj' : j < len ∧ j < zs.length := by simp at hj; omega
      rw [gx_take _ _ _ hj'.1]
      exact hc j hj'.2
    · refine u32_take (fun j => ?_) len
      by_cases hj : j < zs.length
      · have := hwz zs[j] (List.getElem_mem hj)
        rw [gx_mem zs j hj]
        have h4 : 0 ≤ zs[j] ∧ zs[j] ≤ 4294967295 := by
          simpa [Lit.wf, IntKind.min, IntKind.max, IntKind.signed, IntKind.bits] using this
        exact ⟨h4.1, by omega⟩
      · rw [gx_past zs _ (Nat.le_refl _) j (by omega)]; decide
end Go.Proofs.YtifebbacnlhggaaGreatDoor
/-
  An api.Op as an argument.
-/
namespace Go.Proofs.YtifebbacnlhggaaGreatDoor
open Go.ChangeShapes Go.WideShapes Go.ChangeAt Go.RowKit Go.Joins
set_option linter.unusedVariables false
set_option linter.unusedSimpArgs false

set_option maxRecDepth 100000 in
theorem openOp {H : Type} {enc : TypeId × Value → H} {W : World} {v0 : Value} {d0 : DataW H} {p0 : List MemPlace} {base : Nat} (hv : Value.okWide Tryz.prog W .any base 52 v0)
    (h0 : DataW.Trod enc Tryz.prog W 0 (fun _ => true) true 52 v0 d0 p0) : ∃ (p : Option Addr) (n nc : Nat) (hs : List Hdr), v0 = .slice p n nc ∧ RZ W p n nc hs := by
  obtain ⟨a0, len, cap, rfl⟩ := okWide_slice Tryz.underlying52 hv
  obtain ⟨fuel, hf⟩ := h0
  obtain ⟨-, h1, h2, h3, hs, h4, h5, h6⟩ := sliceT Tryz.underlying52 cellsP hf (E := fun h => ∃ es, PZ W h.p h.n h.c es) (fun fuel u y hy => polyT hy)
  exact ⟨a0, len, cap, hs, rfl, h4, h1, h2, h3, h5, h6⟩
end Go.Proofs.YtifebbacnlhggaaGreatDoor
