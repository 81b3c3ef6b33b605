/-
  Sums stay below the top.
-/
import Derived.Test.YtifebbacnlhggaaGreatDoorAyNlEkEhEiElEmDxAxAzBl
import Derived.Deep.DeepFit
import Derived.Test.YtifebbacnlhggaaGreatDoorNwNkOrAv
import Derived.Test.YtifebbacnlhggaaGreatDoorVkJoNcDpAaEpGiGj
import Derived.Test.YtifebbacnlhggaaGreatDoorAw
import Derived.Test.YtifebbacnlhggaaGreatDoorKqNtNuNv
import Derived.Test.YtifebbacnlhggaaGreatDoorAf
import Derived.Test.YtifebbacnlhggaaGreatDoorEqFy
namespace Go.Proofs.YtifebbacnlhggaaGreatDoor
open Go.RowKit
set_option linter.unusedVariables false
set_option linter.unusedSimpArgs false
set_option maxHeartbeats 8000000
theorem pmf_one {a : Int} (h : InT a) : pmf 1 a = a := by
  unfold pmf
  rw [Int.one_mul]
  have := h.2
  omega
theorem pms_two {a b : Int} (h : InT a) : pms [a, b] = pmf a b := by
  show pmf (pmf 1 a) b = _
  rw [pmf_one h]
theorem pms_three {a b c : Int} (h : InT a) : pms [a, b, c] = pmf (pmf a b) c := by
  show pmf (pmf (pmf 1 a) b) c = _
  rw [pmf_one h]
theorem sms_small1 {a b : Int} (h0 : 0 ≤ a) (h1 : 0 ≤ b) (h2 : a + b ≤ 4611686018427387904) : sms [a, b] = a + b := by
  show smf (smf 0 a) b = _
  unfold smf
  omega
theorem sms_small2 {a b c : Int} (h0 : 0 ≤ a) (h1 : 0 ≤ b) (h3 : 0 ≤ c) (h2 : a + b + c ≤ 4611686018427387904) : sms [a, b, c] = a + b + c := by
  show smf (smf (smf 0 a) b) c = _
  unfold smf
  omega
theorem pmf_in {a b : Int} (ha : 0 ≤ a) (hb : 0 ≤ b) : 0 ≤ pmf a b ∧ pmf a b ≤ 4611686018427387904 := by
  have := Int.mul_nonneg ha hb
  unfold pmf
  omega
theorem emul_ref {r d k s e l m : Int} (hr : 0 ≤ r ∧ r ≤ 1000000) (hd : 0 ≤ d ∧ d ≤ 1000000) (hk : 0 ≤ k ∧ k ≤ 1000000000) (hs : 0 ≤ s ∧ s ≤ 1000000) (he : 0 ≤ e ∧ e ≤ 1000000) (hl : 0 ≤ l ∧ l ≤ 1000000000) (hm : 0 ≤ m) :
    tms [sms [r, 1], sms [s, 1], sms [d, e, 2], sms [k, l, sms [pms [sms [r, 1], sms [e, 1]], pms [r, sms [e, 1], m]], 8]] = tms [r + 1, s + 1, d + e + 2, sms [k, l, pmf (r + 1) (e + 1), pmf (pmf r (e + 1)) m, 8]] := by
  rw [sms_small1 (a := r) hr.1 (by decide) (by omega), sms_small1 (a := s) hs.1 (by decide) (by omega), sms_small1 (a := e) he.1 (by decide) (by omega), sms_small2 (a := d) hd.1 he.1 (by decide) (by omega), pms_two ⟨by omega, by omega⟩, pms_three ⟨by omega, by omega⟩]
  have p1 := pmf_in (a := r + 1) (b := e + 1) (by omega) (by omega)
  have p2 := pmf_in (a := r) (b := e + 1) (by omega) (by omega)
  have p3 := pmf_in (a := pmf r (e + 1)) (b := m) p2.1 hm
  generalize pmf (r + 1) (e + 1) = x at *
  generalize pmf (pmf r (e + 1)) m = y at *
  have e1 : sms [k, l, sms [x, y], 8] = sms [k, l, x, y, 8] := by
    show smf (smf (smf (smf 0 k) l) (smf (smf 0 x) y)) 8 = smf (smf (smf (smf (smf 0 k) l) x) y) 8
    unfold smf
    omega
  rw [e1]
theorem szO_oz (z : List (List Int)) : max ((olen z : Int) - 1) 0 = rszO (oz z) := by
  rw [rszO, length_oz]
  split <;> omega
theorem oz_nil {z : List (List Int)} (h : olen z = 0) : oz z = [] := by rw [oz, h]; rfl
theorem szD_oz (z : List (List Int)) : max (odeg z) 0 = rszD (oz z) := by
  rw [rszD, length_oz, ← odeg_oz]
  split
  · rename_i h
    rw [oz_nil h]
    rfl
  · rename_i h
    rw [odeg_oz]
    have h0 : 0 < olen z := by omega
    have hl : olen z ≤ z.length := olen_le z
    have h1 := odeg_take z (olen z - 1) (by omega)
    have h2 : tlen (gt z (olen z - 1)) ≠ 0 := by
      intro e
      have h3 := tlen_top (z.map fun z => (tlen z : Int)) h0
      rw [gx_tlens] at h3
      exact h3 (by show (tlen (gt z (olen z - 1)) : Int) = 0; rw [e]; rfl)
    have h5 : ∀ k, olen z - 1 + 1 + k ≤ z.length → 0 ≤ odeg (z.take (olen z - 1 + 1 + k)) := by
      intro k
      induction k with
      | zero => intro _; rw [Nat.add_zero, h1]; omega
      | succ k ih =>
        intro hk
        have := ih (by omega)
        rw [← Nat.add_assoc, odeg_take z _ (by omega)]
        omega
    have h6 := h5 (z.length - olen z) (by omega)
    rw [show olen z - 1 + 1 + (z.length - olen z) = z.length by omega, List.take_length] at h6
    omega
theorem szB_oz (z : List (List Int)) : (obit z : Int) = rszB (oz z) := by
  rw [rszB, length_oz, ← obit_oz]
  split
  · rename_i h
    rw [oz_nil h]
    rfl
  · rfl
theorem szb_op {D E K : Nat} {w : World} {B T : Nat} {z : List (List Int)} {h : Hdr} (H : HR D (EZ K E) w B T z h) (hD : D ≤ 1000000) (hE : E ≤ 1000000) (hK : K ≤ 1000) : SzB (oz z) := by
  unfold SzB
  rw [← szO_oz, ← szD_oz, ← szB_oz]
  have hlen := hr_len H
  obtain ⟨hs, k⟩ := H
  have h1 := olen_le z
  have h2 := k.tl
  have h3 := k.few
  have h4 := odeg_bd z hlen z.length (Nat.le_refl _)
  have h5 := obit_bd (E := 32 * K) z (fun j hj => by
    obtain ⟨fs, a, -⟩ := k.ev j (by omega)
    exact pb_few a) z.length (Nat.le_refl _)
  rw [List.take_length] at h4 h5
  omega
section
variable {D E K N lo lo' D' E' : Nat} {X Y : Nat → Prop} {w v : World} {z y : List (List Int)} {h g : Hdr} {zq : Int} {uq un : Ent}
theorem szb_at (k : Lies (EOp D E K) lo X w z h) (hD : D ≤ 1000000) (hE : E ≤ 1000000) (hK : K ≤ 1000) : SzB (oz z) := by
  obtain ⟨B, T, h1, h2, -, -⟩ := k
  exact szb_op h1 hD hE hK
theorem inI_of {x : Int} {m : Int} (h : 0 ≤ x ∧ x ≤ m) (hm : m ≤ 9223372036854775807) : InI x := ⟨h.1, by omega⟩
def vMul (x y : List (List Int)) (q : Int) : Int := tms [rszO x + 1, rszO y + 1, rszD x + rszD y + 2, sms [rszB x, rszB y, pmf (rszO x + 1) (rszD y + 1), pmf (pmf (rszO x) (rszD y + 1)) (zb q : Int), 8]]
theorem rmul_at {l m : List (List Int)} (k : Lies (EOr D E N) lo X w l h) (k2 : Lies (EOr D E N) lo' Y w m g) (kq : ∃ lo X, RnX N lo X w zq un) (b1 : SzB l) (b2 : SzB m) (hb : Below w.heap.size w v) (hD : D ≤ 1000000) (hE : E ≤ 1000000) (hN : N ≤ 1000) :
    Calls Tryz.prog 28 #[.slice h.p h.n h.c, .slice g.p g.n g.c, .agg #[.bool un.s, .slice un.p un.n un.c]] v fun e w' => e = .returned (.int .i64 (vMul l m zq)) ∧ Below v.heap.size v w' := by
  obtain ⟨_, _, kq⟩ := kq
  obtain ⟨B, T, h1, h2, -, -⟩ := k.below (lOr _ _ _) hb
  obtain ⟨B2, T2, h3, h4, -, -⟩ := k2.below (lOr _ _ _) hb
  exact rMul9_any h1 h3 h2 h4 (kq.1.below hb) hD hE hN hN hN b1 b2
end
def MlP (al y : Int) (zss yss : List (List Int)) (w : World) (r : Ending) (w' : World) : Prop :=
  (1048576 < vMul (oz zss) (oz yss) y → r = .returned (.tuple #[.slice none 0 0, .int .i64 4])) ∧ (¬ 1048576 < vMul (oz zss) (oz yss) y → ∃ q m hs, r = .returned (.tuple #[.slice q m m, .int .i64 0]) ∧ NO w.heap.size w' 300 8 (Pzs al y zss yss (olen zss)) q m hs) ∧ Below w.heap.size w w'
set_option maxRecDepth 100000 in
theorem oMul_any {w : World} {g : Nat} {al y : Int} (hr : RuleQ w g al y) {B T B2 T2 : Nat} {zss yss : List (List Int)} {h k : Hdr} (H : HR 5 (EZ 2 4) w B T zss h) (hT : T ≤ w.heap.size) (G : HR 5 (EZ 2 4) w B2 T2 yss k) (hT2 : T2 ≤ w.heap.size) :
    Calls Tryz.prog 27 #[.pointer (some ⟨g, 0, none⟩), .slice h.p h.n h.c, .slice k.p k.n k.c] w (MlP al y zss yss w) := by
  have ha0 : ¬ al = 0 := by have := hr.a; omega
  have ha1 : (al == 0) = false := by rw [beq_eq_false_iff_ne]; exact ha0
  obtain ⟨e, hR, hE⟩ := hr.r
  have hAl := oAlg_any hR
  have HX : Hid (RuleQ w g al y ∧ RuleAt w g al e ∧ EV w 1 y e) := ⟨hr, hR, hE⟩
  have sA := szb_op H (by decide) (by decide) (by decide)
  have sB := szb_op G (by decide) (by decide) (by decide)
  have hzb := zb_le hE
  have hsz := fun v (hb : Below w.heap.size w v) => osize_any ((lasts_HR (lasts_EZ 2 4)).below H hT hb) (Nat.le_trans hT hb.size) (by decide) (by decide) (by decide)
  have hsz2 := fun v (hb : Below w.heap.size w v) => osize_any ((lasts_HR (lasts_EZ 2 4)).below G hT2 hb) (Nat.le_trans hT2 hb.size) (by decide) (by decide) (by decide)
  have HP : Hid (∀ v, Below w.heap.size w v → Calls Tryz.prog 62 #[.slice h.p h.n h.c, .slice k.p k.n k.c, .func (.func 16) #[.pointer (some ⟨g, 0, none⟩)] #[], .func (.func 19) #[.pointer (some ⟨g, 0, none⟩)] #[]] v fun r w' => ∃ q n hs, r = .returned (.slice q n n) ∧ NO v.heap.size w' 300 8 (Pzs al y zss yss (olen zss)) q n hs ∧ Below v.heap.size v w') := fun v hb => oproduct_any (hr.below hb) ((lasts_HR (lasts_EZ 2 4)).below H hT hb) (Nat.le_trans hT hb.size) ((lasts_HR (lasts_EZ 2 4)).below G hT2 hb) (Nat.le_trans hT2 hb.size)
  have HV : Hid (tms [sms [rszO (oz zss), 1], sms [rszO (oz yss), 1], sms [rszD (oz zss), rszD (oz yss), 2], sms [rszB (oz zss), rszB (oz yss), sms [pms [sms [rszO (oz zss), 1], sms [rszD (oz yss), 1]], pms [rszO (oz zss), sms [rszD (oz yss), 1], (zb y : Int)]], 8]] = vMul (oz zss) (oz yss) y) := by
    show _ = _
    rw [emul_ref sA.1 sA.2.1 sA.2.2 sB.1 sB.2.1 sB.2.2 (by omega)]
    rfl
  have HI : Hid (InI (rszO (oz zss)) ∧ InI (rszD (oz zss)) ∧ InI (rszB (oz zss)) ∧ InI (rszO (oz yss)) ∧ InI (rszD (oz yss)) ∧ InI (rszB (oz yss)) ∧ InI (zb y : Int)) := ⟨inI_of sA.1 (by decide), inI_of sA.2.1 (by decide), inI_of sA.2.2 (by decide), inI_of sB.1 (by decide), inI_of sB.2.1 (by decide), inI_of sB.2.2 (by decide), ⟨by omega, by omega⟩⟩
  simp only [szO_oz, szD_oz, szB_oz] at hsz hsz2
  obtain ⟨hp, hn, hc⟩ := h
  obtain ⟨kp, kn, kc⟩ := k
  dsimp only at hsz hsz2 HP ⊢
  clear hr H hT G hT2 hR hE sA sB hzb
  generalize hES : vMul (oz zss) (oz yss) y = ES at *
  have HES : Hid (vMul (oz zss) (oz yss) y = ES) := hES
  clear hES
  generalize rszO (oz zss) = a1 at *
  generalize rszD (oz zss) = a2 at *
  generalize rszB (oz zss) = a3 at *
  generalize rszO (oz yss) = b1 at *
  generalize rszD (oz yss) = b2 at *
  generalize rszB (oz yss) = b3 at *
  go_enter Tryz.func27, Tryz.ntmps27
  go_wp2_with fail
  go_fit hAl
  rintro r w1 ⟨rfl, hb1⟩
  clear hAl
  go_wp2_with fail
  have HB1 : Hid (Below w.heap.size w w1) := hb1
  have k0 := (HX.out.2.1.below hb1).c0
  have k1 := (HX.out.2.1.below hb1).c1
  have k2 := (HX.out.2.1.below hb1).c2
  have hq1 := HX.out.2.2.below hb1
  go_region_held3 (fun w' => w'.cell? ⟨g, 0, none⟩ = some (.int .i64 al) ∧ w'.cell? ⟨g, 1, none⟩ = some (.bool e.s) ∧ w'.cell? ⟨g, 2, none⟩ = some (.slice e.p e.n e.c)) (first | with_reducible exact ⟨k0, k1, k2⟩ | with_reducible exact ⟨p0, p1, p2⟩ | with_reducible exact ⟨q0, q1, q2⟩ | with_reducible exact ⟨s0, s1, s2⟩ | with_reducible exact ⟨t0, t1, t2⟩ | (simp [go_sem, *]; done))
    (first
      | (go_at_call_of 60 (Value.slice hp hn hc); go_fit (hsz _ (bnext' HB1.out (Below.refl _ _).drew)); rintro r v1 ⟨rfl, hv1⟩; have hV1 := undrew hv1; have p0 := cell_later hV1 k0; have p1 := cell_later hV1 k1; have p2 := cell_later hV1 k2)
      | (go_at_call_of 60 (Value.slice kp kn kc); go_fit (hsz2 v1 (bnext' HB1.out hV1)); rintro r v2 ⟨rfl, hv2⟩; have hV2 := bnext' hV1 hv2; have q0 := cell_later hv2 p0; have q1 := cell_later hv2 p1; have q2 := cell_later hv2 p2)
      | (go_at_call 61; go_fit (Bits_ev (hq1.below hV2)); rintro r v4 ⟨rfl, hv4⟩; have hV4 := bnext' hV2 hv4; have s0 := cell_later hv4 q0; have s1 := cell_later hv4 q1; have s2 := cell_later hv4 q2)
      | (go_at_call 59; go_fit (eMul_any v4 a1 a2 a3 b1 b2 b3 (zb y) HI.out.1 HI.out.2.1 HI.out.2.2.1 HI.out.2.2.2.1 HI.out.2.2.2.2.1 HI.out.2.2.2.2.2.1 HI.out.2.2.2.2.2.2); rintro r v5 ⟨rfl, hv5⟩; have hV5 := bnext' hV4 hv5; have t0 := cell_later hv5 s0; have t1 := cell_later hv5 s1; have t2 := cell_later hv5 s2))
  have hz := HV.out
  rw [hz]
  have HB : Hid (Below w.heap.size w v5) := bnext' HB1.out hV5
  have hpr := HP.out v5 HB.out
  clear hz HV HI hsz hsz2 hv1 hv2 hv4 hv5 hV1 hV2 hV4 hV5 p0 p1 p2 q0 q1 q2 s0 s1 s2 t0 t1 t2 k0 k1 k2 HX HB1 hb1 hq1 HP
  by_cases hbig : 1048576 < ES
  · go_wp2_with fail
    exact bodyPost_ret (v := .tuple #[.slice none 0 0, .int .i64 4]) (by simp [results, Tryz.results27, go_sem]) rfl ⟨fun _ => rfl, fun h => absurd hbig (by rw [← HES.out]; exact h), HB.out⟩
  have hbig' : ES ≤ 1048576 := by omega
  go_wp2_with fail
  go_fit hpr
  rintro r w6 ⟨q6, n6, hs6, rfl, hN6, hb6⟩
  have HF : Hid (NO w.heap.size w6 300 8 (Pzs al y zss yss (olen zss)) q6 n6 hs6 ∧ Below w.heap.size w w6) := ⟨hN6.mono HB.out.size, bnext' HB.out hb6⟩
  clear hpr hN6 hb6
  go_wp2_with fail
  exact bodyPost_ret (v := .tuple #[.slice q6 n6 n6, .int .i64 0]) (by simp [results, Tryz.results27, go_sem]) rfl ⟨fun h => absurd h (by rw [HES.out]; omega), fun _ => ⟨q6, n6, hs6, rfl, HF.out.1⟩, HF.out.2⟩
def HBr (w : World) (g : Nat) (hs : List Hdr) : Prop := w.heap[g]? = some (.cells (hs.map Hdr.val).toArray 44 (0, 0))
section
variable {w w' : World} {g : Nat} {hs : List Hdr}
theorem HBr.lt (h : HBr w g hs) : g < w.heap.size := (Array.getElem?_eq_some_iff.1 h).1
theorem HBr.cell (h : HBr w g hs) (j : Nat) (hj : j < hs.length) : w.cell? ⟨g, j, none⟩ = some (gh hs j).val := by
  simp only [World.cell?]
  rw [h]
  simp [gh, hj]
theorem HBr.frozen (h : HBr w g hs) (j : Nat) : w.frozen? ⟨g, j, none⟩ = false := frozen_of_row w g j _ _ h
theorem HBr.below {B : Nat} (h : HBr w g hs) (hb : Below B w w') (hg : g < B) : HBr w' g hs := (hb.block g hg).trans h
end
theorem mk_refs (n : Nat) (h : n ≤ 1000000000) (w : World) : (Instr.makeSlice 57 (.int .i64 n) (.int .i64 n)).run Tryz.prog w =
    .ok (.slice (some ⟨w.heap.size, 0, none⟩) n n) (w.alloc (.cells ((hzs n).map Hdr.val).toArray 44)) := by
  have hi := info_refP
  cases hq : Tryz.prog.info? 44 with
  | none => rw [hq] at hi; cases hi
  | some i =>
    rw [hq] at hi
    simp only [Option.map_some, Option.some.injEq, Prod.mk.injEq] at hi
    obtain ⟨h1, h2, h3⟩ := hi
    have hr := run_make (P := Tryz.prog) w 57 44 i (.slice none 0 0) Tryz.underlying57 hq h1 .i64 .i64 n n (by omega) (Int.le_refl _) (by rw [h3]; omega) (by omega)
    rw [Int.toNat_natCast, h2, Nat.mul_one] at hr
    rw [hr]
    exact congrArg (fun c => Result.ok (Value.slice (some ⟨w.heap.size, 0, none⟩) n n) (w.alloc (.cells c 44))) (made_hz n)
theorem HBr.set {w : World} {g : Nat} {hs : List Hdr} (h : HBr w g hs) (j : Nat) (v : Hdr) : HBr (w.setCell ⟨g, j, none⟩ v.val) g (hs.set j v) := by
  unfold HBr
  rw [heap_setCell_same w g j _ _ _ h]
  simp [List.map_set]
def Asg (al y : Int) (b : List (List Int)) (j : Nat) : List Int := if j = 0 then [] else tr (pz (· + ·) [] (SGM al y (gt b (j - 1))))
def Ful (al y : Int) (b : List (List Int)) (j : Nat) : List Int := tr (pz (· + ·) (Asg al y b j) (DLM al (gt b j)))
def Vst (al y : Int) (b : List (List Int)) (i j : Nat) : List Int := if j < i then Ful al y b j else if j = i then Asg al y b j else []
theorem Asg_lt {al y : Int} {b : List (List Int)} {K : Nat} (hb : ∀ j t, ((gx (gt b j) t).natAbs : Int) < pw K) (hE : ∀ j, (gt b j).length ≤ 4) (hy : (y.natAbs : Int) < pw 1) (j t : Nat) : ((gx (Asg al y b j) t).natAbs : Int) < pw (K + 8) := by
  unfold Asg
  split
  · exact pw_pos _
  · rw [gx_tr, gx_pz0 _ rfl]
    have h1 := SGM_lt (al := al) (hb (j - 1)) hy t
    have h2 := pw_mono (show K + (gt b (j - 1)).length * 2 ≤ K + 8 by have := hE (j - 1); omega)
    have h3 : gx ([] : List Int) t = 0 := rfl
    rw [h3, Int.zero_add]
    omega
theorem Ful_lt {al y : Int} {b : List (List Int)} {K : Nat} (hb : ∀ j t, ((gx (gt b j) t).natAbs : Int) < pw K) (hE : ∀ j, (gt b j).length ≤ 4) (hy : (y.natAbs : Int) < pw 1) (j t : Nat) : ((gx (Ful al y b j) t).natAbs : Int) < pw (K + 9) := by
  unfold Ful
  rw [gx_tr, gx_pz0 _ rfl]
  have h1 := Asg_lt (al := al) hb hE hy j t
  have h2 := DLM_lt (al := al) (hb j) (by have := hE j; omega) t
  have h3 := pw_mono (show K + (gt b j).length * 2 ≤ K + 8 by have := hE j; omega)
  have h4 : pw (K + 9) = 4294967296 * pw (K + 8) := pw_succ (K + 8)
  omega
theorem len_pz4 {a b : List Int} (ha : a.length ≤ 4) (hb : b.length ≤ 4) : (tr (pz (· + ·) a b)).length ≤ 4 := by
  rw [length_tr]
  refine Nat.le_trans (tlen_le _) ?_
  simp [pz]
  omega
theorem Asg_len {al y : Int} {b : List (List Int)} (hE : ∀ j, (gt b j).length ≤ 4) (j : Nat) : (Asg al y b j).length ≤ 4 := by
  unfold Asg
  split
  · decide
  · exact len_pz4 (by decide) (Nat.le_trans (SGM_len _ _ _) (hE _))
theorem Ful_len {al y : Int} {b : List (List Int)} (hE : ∀ j, (gt b j).length ≤ 4) (j : Nat) : (Ful al y b j).length ≤ 4 := len_pz4 (Asg_len hE j) (Nat.le_trans (DLM_len _ _) (hE _))
theorem Vst_nrm (al y : Int) (b : List (List Int)) (i j : Nat) : tlen (Vst al y b i j) = (Vst al y b i j).length := by
  have nt : ∀ l : List Int, tlen (tr l) = (tr l).length := fun l => by rw [tlen_tr, length_tr]
  unfold Vst Ful Asg
  split
  · exact nt _
  · split
    · split
      · rfl
      · exact nt _
    · rfl
theorem otr_Vst {al y : Int} {b : List (List Int)} (hol : olen b = b.length) : otr ((List.range (b.length + 1)).map (Vst al y b b.length)) = otr (LXz al y b) := by
  have z0 : ∀ t, gx ([] : List Int) t = 0 := fun t => rfl
  refine otr_ext fun j => ?_
  have hr : tlen (gt ((List.range (b.length + 1)).map (Vst al y b b.length)) j) = (gt ((List.range (b.length + 1)).map (Vst al y b b.length)) j).length := by
    rw [gt_rngL]
    split
    · exact Vst_nrm _ _ _ _ _
    · rfl
  have hl : tlen (gt (LXz al y b) j) = (gt (LXz al y b) j).length := by
    unfold LXz opz
    rw [gt_rngL]
    split
    · rw [tlen_tr, length_tr]
    · rfl
  refine nrm_ext hr hl fun t => ?_
  rw [LXz, gx_gtopz _ rfl, gx_gtotr, gx_gtcons, gx_gtotr, gx_gtrng, omp, omp, gx_gtrng, gx_gtrng, hol]
  have hF : ∀ j t, gx (Asg al y b j) t = if j = 0 then 0 else gx (SGM al y (gt b (j - 1))) t := fun j t => by
    unfold Asg
    split
    · rfl
    · rw [gx_tr, gx_pz0 _ rfl, z0, Int.zero_add]
  unfold Vst Ful
  by_cases h1 : j < b.length
  · rw [if_pos (by omega), if_pos h1, if_pos h1, gx_tr, gx_pz0 _ rfl, hF]
    split
    · rfl
    · rw [if_pos (by omega)]
  · rw [if_neg h1, if_neg h1]
    by_cases h2 : j = b.length
    · rw [if_pos (by omega), if_pos h2, hF]
      split
      · rfl
      · rw [if_pos (by omega), Int.add_zero]
    · rw [if_neg (by omega)]
      split
      · rfl
      · rw [if_neg (by omega)]
        rfl
def Ax.prc (zs : List Int) (N : Nat) : Ax := ⟨fun _ v w => ∃ p n c es, v = .slice p n c ∧ PR w N p n c es zs, fun ⟨p, n, c, es, a, h⟩ hb => ⟨p, n, c, es, a, h.below hb⟩, fun h _ => h, fun h _ => h⟩
def Ax.eyn (zs : List Int) (N lo : Nat) : Ax := ⟨fun _ v w => ∃ p n es, v = .slice p n n ∧ PR w N p n n es zs ∧ Go.Proofs.YtifebbacnlhggaaGreatDoor.From lo p ∧ tlen zs = n ∧ ∀ j, j < n → 0 < (ge es j).n → Go.Proofs.YtifebbacnlhggaaGreatDoor.From lo (ge es j).p, fun ⟨p, n, es, a, h, k⟩ hb => ⟨p, n, es, a, h.below hb, k⟩, fun h _ => h, fun h _ => h⟩
end Go.Proofs.YtifebbacnlhggaaGreatDoor
