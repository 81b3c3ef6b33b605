/-
  A rule's Sigma, of Shift and Diff.
-/
import Derived.Test.YtejnhpjejcpekaaGreatDoorBwGkVpVzCcGlPyHfCaHwDg
import Derived.Test.YtejnhpjejcpekaaGreatDoorHx
import Derived.Test.YtejnhpjejcpekaaGreatDoorFyDdDvPmHuVyFpCdDe
import Derived.Deep.DeepFit
import Derived.Test.YtejnhpjejcpekaaGreatDoorApAqNrNaHdNb
import Derived.Test.YtejnhpjejcpekaaGreatDoorUlUmVsUoDmVtAfBpBnBoAh
import Derived.Test.YtejnhpjejcpekaaGreatDoorUaVgOnWhPn
namespace Go.Proofs.YtejnhpjejcpekaaGreatDoor
open Go.RowKit
set_option linter.unusedVariables false
set_option linter.unusedSimpArgs false
set_option maxHeartbeats 8000000
set_option maxRecDepth 100000 in
theorem oSigma_diff {w : World} {g : Nat} {e : Ent} (h : RuleAt w g 2 e) {K : Nat} {p : Option Addr} {n nc : Nat} {es : List Ent} {zs : List Int} (hP : PA w K p n nc es zs) (hn : n ≤ 1000) (hK : K ≤ 1000) :
    Calls Tryz.prog 63 #[.pointer (some ⟨g, 0, none⟩), .slice p n nc] w (PnP (tr zs) K w) := by
  have hc := oAlg_any h
  clear h
  go_enter Tryz.func63, Tryz.ntmps63
  go_wp2_with fail
  go_fit hc
  rintro r w1 ⟨rfl, hb⟩
  have hd := uNorm_any K p n nc es zs w1 (hP.below hb) (by omega) hK
  clear hc
  go_wp2_with fail
  go_fit hd
  rintro r w2 ⟨p1, n1, es1, rfl, h1, hb2⟩
  have HR' : Hid (PnP (tr zs) K w (.returned (.slice p1 n1 n1)) w2) := ⟨p1, n1, es1, rfl, h1.mono hb.size, bnext' hb hb2⟩
  clear hd h1 hb2
  go_wp2
  go_ret
  exact HR'.out
set_option maxRecDepth 100000 in
theorem oSigma_shift {w : World} {g : Nat} {e : Ent} (h : RuleAt w g 1 e) {K : Nat} {p : Option Addr} {n nc : Nat} {es : List Ent} {zs : List Int} (hP : PA w K p n nc es zs) (hn : n ≤ 1000) (hM : K + tlen zs * (tlen zs * 3) ≤ 800) :
    Calls Tryz.prog 63 #[.pointer (some ⟨g, 0, none⟩), .slice p n nc] w (PnP (shr 1 (tlen zs) (tr zs)) (K + tlen zs * (tlen zs * 3)) w) := by
  have hc := oAlg_any h
  clear h
  have HM := (show Hid _ from hM)
  have HP := (show Hid (PA w K p n nc es zs) from hP)
  clear hM hP
  go_enter Tryz.func63, Tryz.ntmps63
  go_wp2_with fail
  go_fit hc
  rintro r w1 ⟨rfl, hb⟩
  clear hc
  go_wp2_with fail
  go_fit (Of_e 1 w1 (by decide) (by decide))
  rintro r w2 ⟨u, rfl, hN, hb2⟩
  have hB2 := bnext' hb hb2
  have hd := uShift_any (HP.out.below hB2) (hN.ev (by decide)) hn (by decide) HM.out
  clear hN
  go_wp2_with fail
  go_fit hd
  rintro r w3 ⟨p1, n1, es1, rfl, h1, hb3⟩
  have HR' : Hid (PnP (shr 1 (tlen zs) (tr zs)) (K + tlen zs * (tlen zs * 3)) w (.returned (.slice p1 n1 n1)) w3) := ⟨p1, n1, es1, rfl, h1.mono hB2.size, bnext' hB2 hb3⟩
  clear hd h1 hb3 hB2 hb2 hb
  go_wp2
  go_ret
  exact HR'.out
def SGM (al y : Int) (zs : List Int) : List Int := if al = 1 then coz 1 (tr zs) else if al = 3 then dlz y zs else tr zs
def DLM (al : Int) (zs : List Int) : List Int := if al = 2 then derz (tr zs) else []
theorem SGM_nrm (al y : Int) (zs : List Int) : tlen (SGM al y zs) = (SGM al y zs).length := by
  unfold SGM
  split
  · exact coz_nrm _ _
  · split
    · exact dlz_nrm _ _
    · rw [tlen_tr, length_tr]
theorem DLM_nrm (al : Int) (zs : List Int) : tlen (DLM al zs) = (DLM al zs).length := by
  unfold DLM
  split
  · rw [derz_top, length_derz, length_tr]
  · rfl
theorem SGM_len (al y : Int) (zs : List Int) : (SGM al y zs).length ≤ zs.length := by
  unfold SGM
  split
  · have h1 : (coz 1 (tr zs)).length ≤ (tr zs).length := by
      rw [coz, length_tr]
      refine Nat.le_trans (tlen_le _) ?_
      simp
    rw [length_tr] at h1
    exact Nat.le_trans h1 (tlen_le zs)
  · split
    · exact length_dlz _ _
    · rw [length_tr]; exact tlen_le zs
theorem DLM_len (al : Int) (zs : List Int) : (DLM al zs).length ≤ zs.length := by
  unfold DLM
  split
  · rw [length_derz, length_tr]
    have := tlen_le zs
    omega
  · exact Nat.zero_le _
theorem SGM_lt {al y : Int} {zs : List Int} {K : Nat} (hz : ∀ t, ((gx zs t).natAbs : Int) < pw K) (hy : (y.natAbs : Int) < pw 1) (t : Nat) : ((gx (SGM al y zs) t).natAbs : Int) < pw (K + zs.length * 2) := by
  have hl := tlen_le zs
  unfold SGM
  split
  · rw [gx_coz]
    have h1 := co_lt (a := 1) (K := K) (L := 1) (by decide) (tr zs) (fun t => by rw [gx_tr]; exact hz t) t
    have h2 := pw_mono (show K + (tr zs).length * (1 + 1) ≤ K + zs.length * 2 by rw [length_tr]; omega)
    omega
  · split
    · rw [gx_dlz]
      exact dl_lt hy zs hz t
    · rw [gx_tr]
      have h2 := pw_mono (show K ≤ K + zs.length * 2 by omega)
      have := hz t
      omega
theorem DLM_lt {al : Int} {zs : List Int} {K : Nat} (hz : ∀ t, ((gx zs t).natAbs : Int) < pw K) (hn : zs.length ≤ 1000) (t : Nat) : ((gx (DLM al zs) t).natAbs : Int) < pw (K + zs.length * 2) := by
  have hl := tlen_le zs
  unfold DLM
  split
  · rcases Nat.lt_or_ge t ((tr zs).length - 1) with h | h
    · rw [gx_derz _ _ h, gx_tr]
      rw [length_tr] at h
      have h1 := hz (t + 1)
      have h2 := pw_mono (show K + 1 ≤ K + zs.length * 2 by omega)
      rw [pw_succ] at h2
      have h3 : ((((t : Int) + 1) * gx zs (t + 1)).natAbs : Int) = ((t : Int) + 1) * ((gx zs (t + 1)).natAbs : Int) := by
        rw [Int.natAbs_mul, Int.natCast_mul, Int.natAbs_of_nonneg (by omega)]
      rw [h3]
      have h4 : ((t : Int) + 1) * ((gx zs (t + 1)).natAbs : Int) ≤ 1000 * ((gx zs (t + 1)).natAbs : Int) := Int.mul_le_mul_of_nonneg_right (by omega) (by omega)
      have h5 := pw_pos K
      omega
    · rw [gx_past _ _ (by rw [length_derz]; exact Nat.le_refl _) t h]
      exact pw_pos _
  · simp [gx]
    exact pw_pos _
theorem nrm_ext {a b : List Int} (ha : tlen a = a.length) (hb : tlen b = b.length) (h : ∀ j, gx a j = gx b j) : a = b := by
  have h1 := tr_same h
  rwa [tr_self ha, tr_self hb] at h1
theorem tr_tr (zs : List Int) : tr (tr zs) = tr zs := tr_self (by rw [tlen_tr, length_tr])
theorem SGM_tr (al y : Int) (zs : List Int) : SGM al y (tr zs) = SGM al y zs := by
  unfold SGM
  rw [tr_tr]
  split
  · rfl
  · split
    · exact nrm_ext (dlz_nrm _ _) (dlz_nrm _ _) fun j => by rw [gx_dlz, gx_dlz, dl_pow, dl_pow, gx_tr]
    · rfl
theorem DLM_tr (al : Int) (zs : List Int) : DLM al (tr zs) = DLM al zs := by
  unfold DLM
  rw [tr_tr]
theorem PN.fit {B : Nat} {w : World} {K M : Nat} {p : Option Addr} {n : Nat} {es : List Ent} {zs : List Int} (h : PN B w K p n es zs) (hz : ∀ t, ((gx zs t).natAbs : Int) < pw M) : PN B w M p n es zs := ⟨h.el, h.zl, h.nrm, h.pl, h.fr, fun j hj => (h.ev j hj).fit (hz j)⟩
theorem PnP.fit {zs : List Int} {K M : Nat} {w : World} {e : Ending} {w' : World} (h : PnP zs K w e w') (hz : ∀ t, ((gx zs t).natAbs : Int) < pw M) : PnP zs M w e w' := by
  obtain ⟨p, n, es, a, b, c⟩ := h
  exact ⟨p, n, es, a, b.fit hz, c⟩
structure RuleQ (w : World) (g : Nat) (al y : Int) : Prop where
  a : al = 1 ∨ al = 2 ∨ al = 3
  r : ∃ e, RuleAt w g al e ∧ EV w 1 y e
  q : al = 3 → y ≠ 0
theorem RuleQ.below {w w' : World} {g : Nat} {al y : Int} (h : RuleQ w g al y) (hb : Below w.heap.size w w') : RuleQ w' g al y := by
  obtain ⟨a, ⟨e, b, c⟩, d⟩ := h
  exact ⟨a, ⟨e, b.below hb, c.below hb⟩, d⟩
theorem RuleQ.bd {w : World} {g : Nat} {al y : Int} (h : RuleQ w g al y) : (y.natAbs : Int) < pw 1 := by
  obtain ⟨-, ⟨e, b, c⟩, -⟩ := h
  exact c.bd
theorem oSigma_all {w : World} {g : Nat} {al y : Int} (h : RuleQ w g al y) {K : Nat} {p : Option Addr} {n nc : Nat} {es : List Ent} {zs : List Int} (hP : PA w K p n nc es zs) (hn : n ≤ 15) (hK : K ≤ 60) :
    Calls Tryz.prog 63 #[.pointer (some ⟨g, 0, none⟩), .slice p n nc] w (PnP (SGM al y zs) (K + n * 2) w) := by
  have hl := tlen_le zs
  have hz := hP.zl
  have hlt := SGM_lt (al := al) (y := y) hP.gbd h.bd
  rw [hz] at hlt
  obtain ⟨ha, ⟨e, h1, h2⟩, h3⟩ := h
  have e1 : SGM 1 y zs = coz 1 (tr zs) := by unfold SGM; rw [if_pos rfl]
  have e2 : SGM 2 y zs = tr zs := by unfold SGM; rw [if_neg (by decide), if_neg (by decide)]
  have e3 : SGM 3 y zs = dlz y zs := by unfold SGM; rw [if_neg (by decide), if_pos rfl]
  rcases ha with rfl | rfl | rfl
  · have h4 := coz_shr 1 (tr zs) (by rw [tlen_tr, length_tr])
    rw [length_tr] at h4
    have h5 : tlen zs * (tlen zs * 3) ≤ 15 * (15 * 3) := Nat.mul_le_mul (by omega) (by omega)
    have h6 := oSigma_shift h1 hP (by omega) (by omega)
    rw [← h4, ← e1] at h6
    exact h6.mono fun r w' hr => hr.fit hlt
  · have h6 := oSigma_diff h1 hP (by omega) (by omega)
    rw [← e2] at h6
    exact h6.mono fun r w' hr => hr.fit hlt
  · have h6 := oSigma_q h1 h2 hP (by omega) (by omega) (by omega) (h3 rfl)
    rw [← e3] at h6
    exact h6.mono fun r w' hr => hr.fit hlt
theorem oDelta_all {w : World} {g : Nat} {al y : Int} (h : RuleQ w g al y) {K : Nat} {p : Option Addr} {n nc : Nat} {es : List Ent} {zs : List Int} (hP : PA w K p n nc es zs) (hn : n ≤ 15) (hK : K ≤ 60) :
    Calls Tryz.prog 64 #[.pointer (some ⟨g, 0, none⟩), .slice p n nc] w (PnP (DLM al zs) (K + n * 2) w) := by
  have hz := hP.zl
  have hlt := DLM_lt (al := al) hP.gbd (by omega)
  rw [hz] at hlt
  obtain ⟨ha, ⟨e, h1, h2⟩, h3⟩ := h
  rcases Int.decEq al 2 with h4 | h4
  · have h6 := oDelta_none h1 h4 p n nc K
    have e1 : DLM al zs = [] := by unfold DLM; rw [if_neg h4]
    rw [← e1] at h6
    exact h6.mono fun r w' hr => hr.fit hlt
  · subst h4
    have h6 := oDelta_diff h1 hP (by omega) (by omega)
    have e1 : DLM 2 zs = derz (tr zs) := by unfold DLM; rw [if_pos rfl]
    rw [← e1] at h6
    exact h6.mono fun r w' hr => hr.fit hlt
theorem callSigma (args : Array Value) (w' : World) : Sem.run Tryz.prog (callFunc 63 args) w' = .ok (.enter 63 args) w' := by
  have h1 : ¬ Tryz.f63.name = "runtime.NumGoroutine" := of_decide_eq_false (by kernel_rfl)
  have h2 : ¬ Tryz.f63.body = none := fun h => by cases h
  simp only [callFunc, Tryz.func63, go_sem]
  simp [h1, h2, go_sem]
theorem callDelta (args : Array Value) (w' : World) : Sem.run Tryz.prog (callFunc 64 args) w' = .ok (.enter 64 args) w' := by
  have h1 : ¬ Tryz.f64.name = "runtime.NumGoroutine" := of_decide_eq_false (by kernel_rfl)
  have h2 : ¬ Tryz.f64.body = none := fun h => by cases h
  simp only [callFunc, Tryz.func64, go_sem]
  simp [h1, h2, go_sem]
def omp (f : List Int → List Int) (zss : List (List Int)) : List (List Int) := (List.range (olen zss)).map fun i => f (gt zss i)
theorem omp_tr (f : List Int → List Int) (hf : ∀ z, tlen (f z) = (f z).length) (zss : List (List Int)) : ((List.range (olen zss)).map fun i => tr (f (gt zss i))) = omp f zss := by
  unfold omp
  congr 1
  funext i
  exact tr_self (hf _)
theorem eachL {w : World} {g J : Nat} {al y : Int} (hr : RuleQ w g al y) {B T K E D : Nat} {zss : List (List Int)} {h : Hdr} (H : HR D (EZ K E) w B T zss h) (hT : T ≤ w.heap.size) (hD : D ≤ 1000) (hE : E ≤ 15) (hK : K ≤ 60) (hE0 : ∀ args w', Sem.run Tryz.prog (callFunc J args) w' = .ok (.enter J args) w') (f : List Int → List Int) (hfn : ∀ z, tlen (f z) = (f z).length) (hfl : ∀ z, (f z).length ≤ z.length) (hft : ∀ z, f (tr z) = f z)
    (hJ : ∀ (v : World) (p : Option Addr) (n nc : Nat) (es : List Ent) (zf : List Int), RuleQ v g al y → PA v K p n nc es zf → n ≤ 15 → K ≤ 60 → Calls Tryz.prog J #[.pointer (some ⟨g, 0, none⟩), .slice p n nc] v (PnP (f zf) (K + n * 2) v)) :
    Calls Tryz.prog 205 #[.slice h.p h.n h.c, .func (.func J) #[.pointer (some ⟨g, 0, none⟩)] #[]] w (OpP (omp f zss) (K + E * 2) E w) := by
  have hlen := hr_len H
  have h1 := oEachM_gen (lo := w.heap.size) (base := w.heap.size) (K' := K + E * 2) (E' := E) H hT (Nat.le_refl _) hD (by omega) (by omega) (by omega) (by omega) J (.pointer (some ⟨g, 0, none⟩)) hE0 (fun i => f (gt zss i)) (fun _ v => Below w.heap.size w v) (fun i w1 w2 a b => a.trans b) (Below.refl _ _) (fun wq i p n es hi hk hI hP hn => by
    refine (hJ wq p n n es (tr (gt zss i)) (hr.below hI) (hP.pa (by omega) (by omega)) (by omega) hK).mono ?_
    rintro r w' ⟨p1, n1, e1, rfl, h2, h3⟩
    rw [hft] at h2
    have h4 := h2.zl
    have h5 := hfl (gt zss i)
    have h6 := hlen i
    exact ⟨p1, n1, n1, e1, rfl, (h2.wider (by omega)).pa (by omega) (by omega), by omega, bnext' hI h3, Kq.of h3⟩) (fun i hi => Nat.le_trans (hfl _) (hlen i))
  rw [omp_tr f hfn] at h1
  refine h1.mono ?_
  rintro r w' ⟨p, hs, rfl, h2, h3, h4⟩
  exact ⟨p, hs, rfl, h2, h3⟩
theorem eachSigma {w : World} {g : Nat} {al y : Int} (hr : RuleQ w g al y) {B T K E D : Nat} {zss : List (List Int)} {h : Hdr} (H : HR D (EZ K E) w B T zss h) (hT : T ≤ w.heap.size) (hD : D ≤ 1000) (hE : E ≤ 15) (hK : K ≤ 60) :
    Calls Tryz.prog 205 #[.slice h.p h.n h.c, .func (.func 63) #[.pointer (some ⟨g, 0, none⟩)] #[]] w (OpP (omp (SGM al y) zss) (K + E * 2) E w) :=
  eachL hr H hT hD hE hK callSigma (SGM al y) (SGM_nrm al y) (SGM_len al y) (SGM_tr al y) (fun v p n nc es zf a b c d => oSigma_all a b c d)
theorem eachDelta {w : World} {g : Nat} {al y : Int} (hr : RuleQ w g al y) {B T K E D : Nat} {zss : List (List Int)} {h : Hdr} (H : HR D (EZ K E) w B T zss h) (hT : T ≤ w.heap.size) (hD : D ≤ 1000) (hE : E ≤ 15) (hK : K ≤ 60) :
    Calls Tryz.prog 205 #[.slice h.p h.n h.c, .func (.func 64) #[.pointer (some ⟨g, 0, none⟩)] #[]] w (OpP (omp (DLM al) zss) (K + E * 2) E w) :=
  eachL hr H hT hD hE hK callDelta (DLM al) (DLM_nrm al) (DLM_len al) (DLM_tr al) (fun v p n nc es zf a b c d => oDelta_all a b c d)
theorem val_midz {A xs : List Int} {o : Nat} (h : o + xs.length ≤ A.length) (hz : ∀ j, o ≤ j → gx A j = 0) : val (mid A o xs) = val A + pw o * val xs := by
  have hl : (A.take o).length = o := by simp; omega
  have z1 : val (A.drop (o + xs.length)) = 0 := val_zeros _ fun j => by rw [gx_drop]; exact hz _ (by omega)
  have z2 : val (A.drop o) = 0 := val_zeros _ fun j => by rw [gx_drop]; exact hz _ (by omega)
  have e := val_drop_take A o (by omega)
  rw [z2, Int.mul_zero, Int.add_zero] at e
  rw [mid, val_append, val_append, z1, hl, e]
  simp
theorem gx_midz {A xs : List Int} {o : Nat} (h : o + xs.length ≤ A.length) (hz : ∀ j, o ≤ j → gx A j = 0) (j : Nat) (hj : o + xs.length ≤ j) : gx (mid A o xs) j = 0 := by
  rw [mid, row_gx A xs o j h hj]
  exact hz j (by omega)
theorem u32_midz {A xs : List Int} {o : Nat} (hA : U32 A) (hx : U32 xs) : U32 (mid A o xs) := u32_append (u32_append (u32_take hA o) hx) (u32_drop hA _)
def pkf (W : Nat) (f : Nat → Int) : Nat → Int
  | 0 => 0
  | k + 1 => pkf W f k + f k * pw (W * k)
theorem pkf_congr (W : Nat) {f g : Nat → Int} : ∀ k, (∀ j, j < k → f j = g j) → pkf W f k = pkf W g k
  | 0, _ => rfl
  | k + 1, h => by rw [pkf, pkf, pkf_congr W k fun j hj => h j (by omega), h k (by omega)]
theorem pkf_zero (W : Nat) : ∀ k, pkf W (fun _ => 0) k = 0
  | 0 => rfl
  | k + 1 => by rw [pkf, pkf_zero W k]; simp
theorem pkf_add (W : Nat) (f g : Nat → Int) : ∀ k, pkf W (fun j => f j + g j) k = pkf W f k + pkf W g k
  | 0 => rfl
  | k + 1 => by
    rw [pkf, pkf, pkf, pkf_add W f g k, Int.add_mul]
    omega
theorem pkf_more (W : Nat) (f : Nat → Int) (k : Nat) (h : ∀ j, k ≤ j → f j = 0) : ∀ m, pkf W f (k + m) = pkf W f k
  | 0 => rfl
  | m + 1 => by rw [← Nat.add_assoc, pkf, pkf_more W f k h m, h (k + m) (by omega)]; simp
theorem pkf_shift (W : Nat) (z : Int) (f : Nat → Int) (i : Nat) : ∀ k, pkf W (fun t => if i ≤ t then z * f (t - i) else 0) (i + k) = z * pw (W * i) * pkf W f k
  | 0 => by
    have h : ∀ j, j < i + 0 → (fun t => if i ≤ t then z * f (t - i) else 0) j = (fun _ => 0) j := fun j hj => by simp; omega
    rw [pkf_congr W _ h, pkf_zero, pkf, Int.mul_zero]
  | k + 1 => by
    rw [← Nat.add_assoc, pkf, pkf_shift W z f i k, pkf]
    simp only [Nat.le_add_right, if_true, Nat.add_sub_cancel_left]
    rw [Nat.mul_add, pw_add, Int.mul_add]
    congr 1
    rw [Int.mul_assoc, Int.mul_assoc, ← Int.mul_assoc (f k), Int.mul_comm (f k), Int.mul_assoc (pw (W * i))]
theorem pkf_mul (W : Nat) (zs ys : List Int) (T : Nat) : ∀ i, i + ys.length ≤ T + 1 → pkf W (ps zs ys i) T = pkf W (gx zs) i * pkf W (gx ys) ys.length
  | 0, _ => by
    show pkf W (fun _ => 0) T = _
    rw [pkf_zero, pkf, Int.zero_mul]
  | i + 1, h => by
    have h1 : ∀ j, j < T → ps zs ys (i + 1) j = (fun t => ps zs ys i t + (if i ≤ t then gx zs i * gx ys (t - i) else 0)) j := fun j _ => rfl
    have hT : T = i + (T - i) := by omega
    have hk : pkf W (gx ys) (T - i) = pkf W (gx ys) ys.length := by
      have := pkf_more W (gx ys) ys.length (fun j hj => gx_past ys _ (Nat.le_refl _) j hj) (T - i - ys.length)
      rwa [show ys.length + (T - i - ys.length) = T - i by omega] at this
    have hs := pkf_shift W (gx zs i) (gx ys) i (T - i)
    rw [← hT, hk] at hs
    rw [pkf_congr W T h1, pkf_add, pkf_mul W zs ys T i (by omega), hs, pkf, Int.add_mul]
def tlf (W : Nat) (d : Nat → Int) : Nat → Nat → Int
  | 0, _ => 0
  | k + 1, i => d i + pw W * tlf W d k (i + 1)
theorem tlf_pkf (W : Nat) (d : Nat → Int) : ∀ k i, pkf W d i + pw (W * i) * tlf W d k i = pkf W d (i + k)
  | 0, i => by simp [tlf]
  | k + 1, i => by
    have h := tlf_pkf W d k (i + 1)
    rw [show i + (k + 1) = i + 1 + k by omega, ← h, tlf, pkf, Nat.mul_add, Nat.mul_one, pw_add, Int.mul_add]
    have e : pw (W * i) * d i = d i * pw (W * i) := Int.mul_comm _ _
    have e2 : pw (W * i) * (pw W * tlf W d k (i + 1)) = pw (W * i) * pw W * tlf W d k (i + 1) := (Int.mul_assoc _ _ _).symm
    omega
theorem tlf_all (W : Nat) (d : Nat → Int) (n : Nat) : tlf W d n 0 = pkf W d n := by
  have := tlf_pkf W d n 0
  rw [Nat.zero_add, Nat.mul_zero, pw_zero, Int.one_mul, pkf, Int.zero_add] at this
  exact this
theorem digit_step {Q c d R X : Int} (hc : c = 0 ∨ c = 1) (hX : 0 < X) (h : Q + c = d + X * R) (hd : 2 * (d.natAbs : Int) < X) :
    (X ≤ 2 * (Q % X + c) → Q % X + c - X = d ∧ Q / X + 1 = R) ∧ (¬ X ≤ 2 * (Q % X + c) → Q % X + c = d ∧ Q / X = R) := by
  have h1 := Int.mul_ediv_add_emod Q X
  have h2 := Int.emod_nonneg Q (show X ≠ 0 by omega)
  have h3 := Int.emod_lt_of_pos Q hX
  have hk : Q % X + c = d + X * (R - Q / X) := by rw [Int.mul_sub]; omega
  obtain ⟨k, hkk⟩ : ∃ k, k = R - Q / X := ⟨_, rfl⟩
  rw [← hkk] at hk
  have k0 : 0 ≤ k := by
    rcases Int.lt_or_le k 0 with hn | hn
    · have := Int.mul_le_mul_of_nonneg_left (show k ≤ -1 by omega) (Int.le_of_lt hX)
      omega
    · exact hn
  have k1 : k ≤ 1 := by
    rcases Int.lt_or_le 1 k with hn | hn
    · have := Int.mul_le_mul_of_nonneg_left (show 2 ≤ k by omega) (Int.le_of_lt hX)
      omega
    · exact hn
  rcases (show k = 0 ∨ k = 1 by omega) with e | e
  · rw [e, Int.mul_zero] at hk
    exact ⟨fun h => by omega, fun h => ⟨by omega, by omega⟩⟩
  · rw [e, Int.mul_one] at hk
    exact ⟨fun h => ⟨by omega, by omega⟩, fun h => by omega⟩
theorem val_digit {L : List Int} (h : U32 L) (k W : Nat) : val ((L.drop k).take W) = (val L / pw k) % pw W := by
  rcases Nat.lt_or_ge L.length k with hk | hk
  · have e : L.drop k = [] := List.drop_eq_nil_of_le (by omega)
    have h1 := val_lt h
    have h2 := val_nonneg h
    have h3 := pw_mono (Nat.le_of_lt hk)
    rw [e, List.take_nil, Int.ediv_eq_zero_of_lt h2 (by omega)]
    simp [val]
  · have e := val_drop_take L k hk
    have hl : (L.take k).length = k := by simp; omega
    have h1 := val_lt (u32_take h k)
    have h2 := val_nonneg (u32_take h k)
    rw [hl] at h1
    have e1 : val L / pw k = val (L.drop k) := by
      rw [e, Int.add_mul_ediv_left _ _ (by have := pw_pos k; omega), Int.ediv_eq_zero_of_lt h2 h1, Int.zero_add]
    rw [e1]
    have hD := u32_drop h k
    generalize L.drop k = D at *
    rcases Nat.lt_or_ge D.length W with hw | hw
    · rw [List.take_of_length_le (by omega), Int.emod_eq_of_lt (val_nonneg hD)]
      have := val_lt hD
      have := pw_mono (Nat.le_of_lt hw)
      omega
    · have e2 := val_drop_take D W hw
      have hl2 : (D.take W).length = W := by simp; omega
      have h3 := val_lt (u32_take hD W)
      rw [hl2] at h3
      rw [e2, Int.add_mul_emod_self_left, Int.emod_eq_of_lt (val_nonneg (u32_take hD W)) h3]
theorem pw_div (A : Int) (i W : Nat) : A / pw (W * (i + 1)) = A / pw (W * i) / pw W := by
  rw [Nat.mul_add, Nat.mul_one, pw_add, Int.ediv_ediv_of_nonneg (Int.le_of_lt (pw_pos _))]
theorem pw_twoP (W : Nat) : pw W = 2 ^ (32 * W) := by
  unfold pw
  rw [Int.pow_mul]
  rfl
theorem zb_half {c : Int} {W : Nat} (h0 : 0 ≤ c) (hW : 1 ≤ W) : 32 * W ≤ zb c ↔ pw W ≤ 2 * c := by
  obtain ⟨a, b, d⟩ := zb_ib c
  have e : (c.natAbs : Int) = c := by omega
  rw [e] at b d
  rw [pw_twoP, show 32 * W = 32 * W - 1 + 1 by omega, Int.pow_succ]
  constructor
  · intro h
    rcases d with d | d
    · omega
    · have := p2_mono (show 32 * W - 1 ≤ zb c - 1 by omega)
      omega
  · intro h
    rcases Nat.lt_or_ge (zb c) (32 * W - 1 + 1) with h1 | h1
    · have := p2_mono (show zb c ≤ 32 * W - 1 by omega)
      omega
    · omega
end Go.Proofs.YtejnhpjejcpekaaGreatDoor
