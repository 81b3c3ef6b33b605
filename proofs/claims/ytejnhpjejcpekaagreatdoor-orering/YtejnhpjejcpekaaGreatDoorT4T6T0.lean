/-
  (*ore.Rule).Mul, of operators that are products already.
-/
import Derived.Test.YtejnhpjejcpekaaGreatDoorAyNlEkEhEiElEmDxAxAzBlEeEaEcBuBvEjErNx
import Derived.Test.YtejnhpjejcpekaaGreatDoorT2T3
import Derived.Deep.DeepFit
import Derived.Test.YtejnhpjejcpekaaGreatDoorAiRzVdRtDhVeRsVfVcAjDqDrBmBqDuAkBrAl
namespace Go.Proofs.YtejnhpjejcpekaaGreatDoor
open Go.RowKit
set_option linter.unusedVariables false
set_option linter.unusedSimpArgs false
set_option maxHeartbeats 8000000
def MmP (al y : Int) (zss yss : List (List Int)) (w : World) (r : Ending) (w' : World) : Prop :=
  (1048576 < vMul (oz zss) (oz yss) y → r = .returned (.tuple #[.slice none 0 0, .int .i64 4])) ∧ (¬ 1048576 < vMul (oz zss) (oz yss) y → ∃ q m hs, r = .returned (.tuple #[.slice q m m, .int .i64 0]) ∧ NO w.heap.size w' 300 10 (Pzs al y zss yss (olen zss)) q m hs) ∧ Below w.heap.size w w'
set_option maxRecDepth 100000 in
theorem oMul_mid {w : World} {g : Nat} {al y : Int} (hr : RuleQ w g al y) {B T B2 T2 : Nat} {zss yss : List (List Int)} {h k : Hdr} (H : HR 5 (EZ 12 5) w B T zss h) (hT : T ≤ w.heap.size) (G : HR 5 (EZ 12 5) w B2 T2 yss k) (hT2 : T2 ≤ w.heap.size) :
    Calls Tryz.prog 25 #[.pointer (some ⟨g, 0, none⟩), .slice h.p h.n h.c, .slice k.p k.n k.c] w (MmP al y zss yss w) := by
  have ha0 : ¬ al = 0 := by have := hr.a; omega
  have ha1 : (al == 0) = false := by rw [beq_eq_false_iff_ne]; exact ha0
  obtain ⟨e, hR, hE⟩ := hr.r
  have hAl := oAlg_any hR
  have HX : Hid (RuleQ w g al y ∧ RuleAt w g al e ∧ EV w 1 y e) := ⟨hr, hR, hE⟩
  have sA := szb_op H (by decide) (by decide) (by decide)
  have sB := szb_op G (by decide) (by decide) (by decide)
  have hzb := zb_le hE
  have hsz := fun v (hb : Below w.heap.size w v) => osize_any ((lasts_HR (lasts_EZ 12 5)).below H hT hb) (Nat.le_trans hT hb.size) (by decide) (by decide) (by decide)
  have hsz2 := fun v (hb : Below w.heap.size w v) => osize_any ((lasts_HR (lasts_EZ 12 5)).below G hT2 hb) (Nat.le_trans hT2 hb.size) (by decide) (by decide) (by decide)
  have HP : Hid (∀ v, Below w.heap.size w v → Calls Tryz.prog 62 #[.slice h.p h.n h.c, .slice k.p k.n k.c, .func (.func 63) #[.pointer (some ⟨g, 0, none⟩)] #[], .func (.func 64) #[.pointer (some ⟨g, 0, none⟩)] #[]] v fun r w' => ∃ q n hs, r = .returned (.slice q n n) ∧ NO v.heap.size w' 300 10 (Pzs al y zss yss (olen zss)) q n hs ∧ Below v.heap.size v w') := fun v hb => oproduct_mid (hr.below hb) ((lasts_HR (lasts_EZ 12 5)).below H hT hb) (Nat.le_trans hT hb.size) ((lasts_HR (lasts_EZ 12 5)).below G hT2 hb) (Nat.le_trans hT2 hb.size)
  have HV : Hid (tms [sms [rszO (oz zss), 1], sms [rszO (oz yss), 1], sms [rszD (oz zss), rszD (oz yss), 2], sms [rszB (oz zss), rszB (oz yss), sms [pms [sms [rszO (oz zss), 1], sms [rszD (oz yss), 1]], pms [rszO (oz zss), sms [rszD (oz yss), 1], (zb y : Int)]], 8]] = vMul (oz zss) (oz yss) y) := by
    show _ = _
    rw [emul_ref sA.1 sA.2.1 sA.2.2 sB.1 sB.2.1 sB.2.2 (by omega)]
    rfl
  have HI : Hid (InI (rszO (oz zss)) ∧ InI (rszD (oz zss)) ∧ InI (rszB (oz zss)) ∧ InI (rszO (oz yss)) ∧ InI (rszD (oz yss)) ∧ InI (rszB (oz yss)) ∧ InI (zb y : Int)) := ⟨inI_of sA.1 (by decide), inI_of sA.2.1 (by decide), inI_of sA.2.2 (by decide), inI_of sB.1 (by decide), inI_of sB.2.1 (by decide), inI_of sB.2.2 (by decide), ⟨by omega, by omega⟩⟩
  simp only [szO_oz, szD_oz, szB_oz] at hsz hsz2
  obtain ⟨hp, hn, hc⟩ := h
  obtain ⟨kp, kn, kc⟩ := k
  dsimp only at hsz hsz2 HP ⊢
  clear hr H hT G hT2 hR hE sA sB hzb
  generalize hES : vMul (oz zss) (oz yss) y = ES at *
  have HES : Hid (vMul (oz zss) (oz yss) y = ES) := hES
  clear hES
  generalize rszO (oz zss) = a1 at *
  generalize rszD (oz zss) = a2 at *
  generalize rszB (oz zss) = a3 at *
  generalize rszO (oz yss) = b1 at *
  generalize rszD (oz yss) = b2 at *
  generalize rszB (oz yss) = b3 at *
  go_enter Tryz.func25, Tryz.ntmps25
  go_wp2_with fail
  go_fit hAl
  rintro r w1 ⟨rfl, hb1⟩
  clear hAl
  go_wp2_with fail
  have HB1 : Hid (Below w.heap.size w w1) := hb1
  have k0 := (HX.out.2.1.below hb1).c0
  have k1 := (HX.out.2.1.below hb1).c1
  have k2 := (HX.out.2.1.below hb1).c2
  have hq1 := HX.out.2.2.below hb1
  go_region_held3 (fun w' => w'.cell? ⟨g, 0, none⟩ = some (.int .i64 al) ∧ w'.cell? ⟨g, 1, none⟩ = some (.bool e.s) ∧ w'.cell? ⟨g, 2, none⟩ = some (.slice e.p e.n e.c)) (first | with_reducible exact ⟨k0, k1, k2⟩ | with_reducible exact ⟨p0, p1, p2⟩ | with_reducible exact ⟨q0, q1, q2⟩ | with_reducible exact ⟨s0, s1, s2⟩ | with_reducible exact ⟨t0, t1, t2⟩ | (simp [go_sem, *]; done))
    (first
      | (go_at_call_of 60 (Value.slice hp hn hc); go_fit (hsz _ (bnext' HB1.out (Below.refl _ _).drew)); rintro r v1 ⟨rfl, hv1⟩; have hV1 := undrew hv1; have p0 := cell_later hV1 k0; have p1 := cell_later hV1 k1; have p2 := cell_later hV1 k2)
      | (go_at_call_of 60 (Value.slice kp kn kc); go_fit (hsz2 v1 (bnext' HB1.out hV1)); rintro r v2 ⟨rfl, hv2⟩; have hV2 := bnext' hV1 hv2; have q0 := cell_later hv2 p0; have q1 := cell_later hv2 p1; have q2 := cell_later hv2 p2)
      | (go_at_call 61; go_fit (Bits_ev (hq1.below hV2)); rintro r v4 ⟨rfl, hv4⟩; have hV4 := bnext' hV2 hv4; have s0 := cell_later hv4 q0; have s1 := cell_later hv4 q1; have s2 := cell_later hv4 q2)
      | (go_at_call 59; go_fit (eMul_any v4 a1 a2 a3 b1 b2 b3 (zb y) HI.out.1 HI.out.2.1 HI.out.2.2.1 HI.out.2.2.2.1 HI.out.2.2.2.2.1 HI.out.2.2.2.2.2.1 HI.out.2.2.2.2.2.2); rintro r v5 ⟨rfl, hv5⟩; have hV5 := bnext' hV4 hv5; have t0 := cell_later hv5 s0; have t1 := cell_later hv5 s1; have t2 := cell_later hv5 s2))
  have hz := HV.out
  rw [hz]
  have HB : Hid (Below w.heap.size w v5) := bnext' HB1.out hV5
  have hpr := HP.out v5 HB.out
  clear hz HV HI hsz hsz2 hv1 hv2 hv4 hv5 hV1 hV2 hV4 hV5 p0 p1 p2 q0 q1 q2 s0 s1 s2 t0 t1 t2 k0 k1 k2 HX HB1 hb1 hq1 HP
  by_cases hbig : 1048576 < ES
  · go_wp2_with fail
    exact bodyPost_ret (v := .tuple #[.slice none 0 0, .int .i64 4]) (by simp [results, Tryz.results25, go_sem]) rfl ⟨fun _ => rfl, fun h => absurd hbig (by rw [← HES.out]; exact h), HB.out⟩
  have hbig' : ES ≤ 1048576 := by omega
  go_wp2_with fail
  go_fit hpr
  rintro r w6 ⟨q6, n6, hs6, rfl, hN6, hb6⟩
  have HF : Hid (NO w.heap.size w6 300 10 (Pzs al y zss yss (olen zss)) q6 n6 hs6 ∧ Below w.heap.size w w6) := ⟨hN6.mono HB.out.size, bnext' HB.out hb6⟩
  clear hpr hN6 hb6
  go_wp2_with fail
  exact bodyPost_ret (v := .tuple #[.slice q6 n6 n6, .int .i64 0]) (by simp [results, Tryz.results25, go_sem]) rfl ⟨fun h => absurd h (by rw [HES.out]; omega), fun _ => ⟨q6, n6, hs6, rfl, HF.out.1⟩, HF.out.2⟩
theorem HR.up {D D' K K' E E' : Nat} {w : World} {B T : Nat} {l : List (List Int)} {h : Hdr} (H : HR D (EZ K E) w B T l h) (hD : D ≤ D') (hK : K ≤ K') (hE : E ≤ E') : HR D' (EZ K' E') w B T l h := by
  obtain ⟨hs, k⟩ := H
  exact ⟨hs, k.el, k.tl, k.cap, k.bnd, k.pn, Nat.le_trans k.few hD, k.hl, k.at_, fun j hj => by
    obtain ⟨fs, P, h1, h2, h3⟩ := k.ev j hj
    exact ⟨fs, ⟨P.el, P.zl, P.cap, P.bnd, P.pn, P.pl, fun i hi => by obtain ⟨xs, a, b, c⟩ := P.ev i hi; exact ⟨xs, a, b, by omega⟩⟩, by omega, h2, h3⟩⟩
theorem HR.none (w : World) (D K E B T : Nat) : HR D (EZ K E) w B T [] ⟨none, 0, 0⟩ := ⟨[], rfl, rfl, Nat.le_refl _, Nat.zero_le _, fun _ => rfl, Nat.zero_le _, fun h => absurd h (Nat.not_lt_zero _), (fun a ha => nomatch ha), fun j hj => absurd hj (Nat.not_lt_zero _)⟩
theorem HR.rows {D K E : Nat} {w : World} {B T : Nat} {l : List (List Int)} {h : Hdr} (H : HR D (EZ K E) w B T l h) : olen l ≤ D := by
  obtain ⟨hs, k⟩ := H
  have h1 := k.few
  have h2 := k.tl
  have h3 := olen_le l
  omega
theorem NO.small {B : Nat} {w : World} {K E K' E' : Nat} {l : List (List Int)} {p : Option Addr} {n : Nat} {hs : List Hdr} (h : NO B w K E l p n hs) (hz : ∀ j t, ((gx (gt l j) t).natAbs : Int) < pw K') (hE : ∀ j t, E' ≤ t → gx (gt l j) t = 0) : NO B w K' E' l p n hs :=
  ⟨h.el, h.tl, h.hl, h.fr, fun j hj => by
    obtain ⟨a, b, es, c⟩ := h.ev j hj
    have h1 := len_of_zero (by rw [c.nrm, c.zl]) (hE j)
    rw [c.zl] at h1
    exact ⟨a, h1, es, c.fit (hz j)⟩⟩
theorem olen_of {l : List (List Int)} {n : Nat} (h : ∀ k, n ≤ k → ∀ t, gx (gt l k) t = 0) : olen l ≤ n := by
  rcases Nat.lt_or_ge n (olen l) with h1 | h1
  · exfalso
    have h2 : gx (l.map fun z => (tlen z : Int)) (olen l - 1) ≠ 0 := tlen_top _ (by show 0 < olen l; omega)
    have h3 := olen_le l
    have h4 : gx (l.map fun z => (tlen z : Int)) (olen l - 1) = (tlen (gt l (olen l - 1)) : Int) := by
      have hlt : olen l - 1 < l.length := by omega
      simp [gx, gt, hlt]
    rw [h4] at h2
    have h5 := tlen_eq (gt l (olen l - 1)) 0 (fun j _ => h _ (by omega) j) (.inl rfl)
    omega
  · exact h1
theorem olen_same {a b : List (List Int)} (h : ∀ j t, gx (gt a j) t = gx (gt b j) t) : olen a = olen b := by
  have e1 : ∀ (x y : List (List Int)), (∀ j t, gx (gt x j) t = gx (gt y j) t) → olen x ≤ olen y := fun x y hxy => olen_of fun k hk t => by rw [hxy]; exact Sk.zero_past y k hk t
  exact Nat.le_antisymm (e1 a b h) (e1 b a fun j t => (h j t).symm)
theorem olen_otr' (l : List (List Int)) : olen (otr l) = olen l := olen_same fun j t => gx_gtotr l j t
theorem length_Pzs (al y : Int) (a b : List (List Int)) : ∀ n, (Pzs al y a b n).length = olen (Pzs al y a b n)
  | 0 => rfl
  | n + 1 => by
    have h1 : olen (otr (opz (· + ·) (Pzs al y a b n) (otr (Szs (gt a n) (Bzs al y b n))))) = (otr (opz (· + ·) (Pzs al y a b n) (otr (Szs (gt a n) (Bzs al y b n))))).length := by
      rw [olen_otr', length_otr]
    rw [Pzs, h1]
theorem oz_of {a b : List (List Int)} (h : ∀ j t, gx (gt a j) t = gx (gt b j) t) : oz a = oz b := by
  have h1 : ∀ j, tlen (gt a j) = tlen (gt b j) := fun j => tlen_same (h j)
  have h2 : olen a = olen b := olen_same h
  have h3 : ∀ j, gt (oz a) j = gt (oz b) j := fun j => by
    rw [gt_oz, gt_oz]
    exact tr_same (h j)
  refine List.ext_getElem ?_ fun j ha hb => ?_
  · rw [length_oz, length_oz, h2]
  · have h4 := h3 j
    simp only [gt, List.getD_eq_getElem?_getD, List.getElem?_eq_getElem ha, List.getElem?_eq_getElem hb, Option.getD_some] at h4
    exact h4
def MuR (D K E : Nat) (al y : Int) (zss yss : List (List Int)) (w : World) (r : Ending) (w' : World) : Prop :=
  ∃ L q m e B, r = .returned (.tuple #[.slice q m m, .int .i64 e]) ∧ HR D (EZ K E) w' B w'.heap.size L ⟨q, m, m⟩ ∧ (e = 0 ∨ e = 4) ∧ (e = 0 → L = Pzs al y zss yss (olen zss)) ∧ Below w.heap.size w w'
theorem mul_told {w : World} {g : Nat} {al y : Int} (hr : RuleQ w g al y) {B T B2 T2 : Nat} {zss yss : List (List Int)} {h k : Hdr} {D1 D2 E1 E2 K1 K2 D K E : Nat} (H : HR D1 (EZ K1 E1) w B T zss h) (hT : T ≤ w.heap.size) (G : HR D2 (EZ K2 E2) w B2 T2 yss k) (hT2 : T2 ≤ w.heap.size)
    (hD1 : D1 ≤ 5) (hD2 : D2 ≤ 5) (hE1 : E1 ≤ 5) (hE2 : E2 ≤ 5) (hK1 : K1 ≤ 12) (hK2 : K2 ≤ 12) (hD : D1 + D2 ≤ D + 1) (hE : E1 + E2 ≤ E + 1) (hK : K1 + (K2 + (D1 - 1) * (E2 + 1)) + 1 ≤ K) (hD' : D ≤ 900 := by decide) (hE' : E ≤ 1000 := by decide) (hK' : K ≤ 900 := by decide) :
    Calls Tryz.prog 25 #[.pointer (some ⟨g, 0, none⟩), .slice h.p h.n h.c, .slice k.p k.n k.c] w (MuR D K E al y zss yss w) := by
  have hv1 := hr_bd H
  have hv2 := hr_bd G
  have hl1 := hr_len H
  have hl2 := hr_len G
  have ho1 := H.rows
  have ho2 := G.rows
  have hy := hr.bd
  have ha := hr.a
  refine (oMul_mid hr (H.up hD1 hK1 hE1) hT (G.up hD2 hK2 hE2) hT2).mono ?_
  rintro r w' ⟨h1, h2, h3⟩
  by_cases hb : 1048576 < vMul (oz zss) (oz yss) y
  · have := h1 hb
    subst this
    exact ⟨[], none, 0, 4, 0, rfl, HR.none _ _ _ _ _ _, .inr rfl, fun h => absurd h (by decide), h3⟩
  · obtain ⟨q, m, hs, rfl, hN⟩ := h2 hb
    have hz : ∀ j t, ((gx (gt (Pzs al y zss yss (olen zss)) j) t).natAbs : Int) < pw K := fun j t => Sk.Pzs_tight hv1 hv2 hl1 hl2 (by omega) (by omega) hy (by omega) (Nat.le_trans (Nat.add_le_add_right (Nat.add_le_add_left (Nat.add_le_add_left (Nat.mul_le_mul_right _ (by omega)) _) _) _) hK) j t
    have hp : ∀ j t, E ≤ t → gx (gt (Pzs al y zss yss (olen zss)) j) t = 0 := fun j t ht => Sk.Pzs_past hl1 hl2 _ j t (by omega)
    have hN2 := hN.small hz hp
    have hrow : olen (Pzs al y zss yss (olen zss)) ≤ D := olen_of fun k hk t => by
      rcases Nat.eq_zero_or_pos (olen zss) with h0 | h0
      · rw [h0, Pzs]; exact Sk.gx_gtnil k t
      · exact Sk.Pzs_rows ha zss yss ho2 k (by omega) t
    have hm : m ≤ D := by
      rw [← hN2.tl, length_Pzs]
      exact hrow
    exact ⟨_, q, m, 0, _, rfl, (hN2.hr (by omega) (by omega) (by omega)).up hm (Nat.le_refl _) (Nat.le_refl _), .inl rfl, fun _ => rfl, h3⟩
end Go.Proofs.YtejnhpjejcpekaaGreatDoor
namespace Go.Proofs.YtejnhpjejcpekaaGreatDoor.Sk
open Go.Proofs.YtejnhpjejcpekaaGreatDoor
set_option linter.unusedVariables false
set_option linter.unusedSimpArgs false
theorem TT_far (u v : Int) : ∀ (p : List Int) (t : Nat), p.length ≤ t → TT u v 0 1 p t = 0
  | [], t, _ => rfl
  | c :: p, 0, h => by simp at h
  | c :: p, t + 1, h => by
    have h' : p.length ≤ t := by simpa using h
    rw [TT, fx, TT_far u v p t h', TT_far u v p (t + 1) (by omega), if_neg (by omega)]
    simp
theorem TT_inj {u v : Int} (hu : u ≠ 0) : ∀ (p : List Int), (∀ t, TT u v 0 1 p t = 0) → ∀ t, gx p t = 0
  | [], _, t => gx_nil t
  | c :: p, h, t => by
    have hS : ∀ k m, p.length ≤ m + k → TT u v 0 1 p m = 0 := fun k => by
      induction k with
      | zero => exact fun m hm => TT_far u v p m hm
      | succ k ih =>
        intro m hm
        have h1 := h (m + 1)
        rw [TT, fx, ih (m + 1) (by omega), if_neg (by omega)] at h1
        have h2 : u * TT u v 0 1 p m = 0 := by simpa using h1
        exact (Int.mul_eq_zero.1 h2).resolve_left hu
    have hz : ∀ m, TT u v 0 1 p m = 0 := fun m => hS p.length m (by omega)
    have h0 := h 0
    rw [TT, fx, hz 0, if_pos rfl] at h0
    have hc : c = 0 := by simpa using h0
    cases t with
    | zero => rw [gx_cons_zero, hc]
    | succ t => rw [gx_cons_succ]; exact TT_inj hu p hz t
theorem sm_one {F : Nat → Int} {k : Nat} : ∀ n, k < n → (∀ i, i < n → i ≠ k → F i = 0) → sm n F = F k
  | 0, h, _ => absurd h (Nat.not_lt_zero _)
  | n + 1, h, hF => by
    rw [sm]
    rcases Nat.lt_or_ge k n with h1 | h1
    · rw [sm_one n h1 (fun i hi => hF i (by omega)), hF n (by omega) (by omega), Int.add_zero]
    · have h2 : k = n := by omega
      subst h2
      rw [sm_zero, Int.zero_add]
      exact fun i hi => hF i (by omega) (by omega)
theorem cv_nz {a b : List Int} (ha : 0 < tlen a) (hb : 0 < tlen b) : cv (gx a) (gx b) (tlen a - 1 + (tlen b - 1)) ≠ 0 := by
  rw [cv, sm_one (k := tlen a - 1) _ (by omega)]
  · rw [show tlen a - 1 + (tlen b - 1) - (tlen a - 1) = tlen b - 1 by omega]
    exact Int.mul_ne_zero (tlen_top a ha) (tlen_top b hb)
  · intro i hi hne
    rcases Nat.lt_or_ge i (tlen a) with h1 | h1
    · rw [tlen_zero b _ (by omega), Int.mul_zero]
    · rw [tlen_zero a i h1, Int.zero_mul]
theorem nz_iff {l : List Int} : tlen l = 0 ↔ ∀ t, gx l t = 0 :=
  ⟨fun h t => tlen_zero l t (by omega), fun h => tlen_eq l 0 (fun j _ => h j) (.inl rfl)⟩
theorem lu_ne {al y : Int} (hq : al = 3 → y ≠ 0) : lu al y ≠ 0 := by
  unfold lu
  split
  · rename_i h; exact hq h
  · decide
theorem top_Bzs {al y : Int} (ha : al = 1 ∨ al = 2 ∨ al = 3) (hq : al = 3 → y ≠ 0) (b : List (List Int)) {n : Nat} (hn : olen b = n + 1) : ∀ i, 0 < tlen (gt (Bzs al y b i) (n + i))
  | 0 => by
    have h1 : gx (b.map fun z => (tlen z : Int)) (olen b - 1) ≠ 0 := tlen_top _ (by show 0 < olen b; omega)
    have h3 := olen_le b
    have h4 : gx (b.map fun z => (tlen z : Int)) (olen b - 1) = (tlen (gt b (olen b - 1)) : Int) := by
      have hlt : olen b - 1 < b.length := by omega
      simp [gx, gt, hlt]
    rw [h4, show olen b - 1 = n by omega] at h1
    show 0 < tlen (gt b n)
    omega
  | i + 1 => by
    have ih := top_Bzs ha hq b hn i
    rcases Nat.eq_zero_or_pos (tlen (gt (Bzs al y b (i + 1)) (n + (i + 1)))) with h0 | h0
    · exfalso
      have h1 := nz_iff.1 h0
      have h2 : ∀ t, TT (lu al y) (lv al) 0 1 (gt (Bzs al y b i) (n + i)) t = 0 := fun t => by
        have h3 := h1 t
        rw [gx_Bzs ha, lt1, if_neg (by omega), TT_zero _ _ _ 0 (Bzs_rows ha b (Nat.le_of_eq hn) i (n + (i + 1)) (by omega)), show n + (i + 1) - 1 = n + i by omega] at h3
        omega
      have h4 := nz_iff.2 (TT_inj (lu_ne hq) _ h2)
      omega
    · exact h0
theorem order_prod {al y : Int} (ha : al = 1 ∨ al = 2 ∨ al = 3) (hq : al = 3 → y ≠ 0) (a b : List (List Int)) (h1 : 0 < olen a) (h2 : 0 < olen b) : olen (Pzs al y a b (olen a)) + 1 = olen a + olen b := by
  obtain ⟨m, hm⟩ : ∃ m, olen a = m + 1 := ⟨olen a - 1, by omega⟩
  obtain ⟨n, hn⟩ : ∃ n, olen b = n + 1 := ⟨olen b - 1, by omega⟩
  have hle : olen (Pzs al y a b (olen a)) ≤ m + n + 1 := olen_of fun k hk t => Pzs_rows ha a b (Nat.le_of_eq hn) k (by omega) t
  have ht := top_Bzs ha hq b hn m
  have hta := top_Bzs ha hq a hm 0
  have hta' : 0 < tlen (gt a m) := hta
  rcases Nat.lt_or_ge (olen (Pzs al y a b (olen a))) (m + n + 1) with h | h
  · exfalso
    have h3 := zero_past (Pzs al y a b (olen a)) (n + m) (by omega) (tlen (gt a m) - 1 + (tlen (gt (Bzs al y b m) (n + m)) - 1))
    rw [gx_Pzs, sm_one (k := m) _ (by omega)] at h3
    · exact cv_nz hta' ht h3
    · intro i hi hne
      exact cv_zr (Bzs_rows ha b (Nat.le_of_eq hn) i (n + m) (by omega)) _ _
  · omega
end Go.Proofs.YtejnhpjejcpekaaGreatDoor.Sk
namespace Go.Proofs.YtejnhpjejcpekaaGreatDoor
theorem gx_add (a b : List (List Int)) (j t : Nat) : gx (gt (otr (opz (· + ·) a b)) j) t = gx (gt a j) t + gx (gt b j) t := by
  rw [gx_gtotr, gx_gtopz _ rfl]
theorem ring_one {al y : Int} (ha : al = 1 ∨ al = 2 ∨ al = 3) {a b c AB BC : List (List Int)} (h1 : AB = Pzs al y a b (olen a)) (h2 : BC = Pzs al y b c (olen b)) : oz (Pzs al y AB c (olen AB)) = oz (Pzs al y a BC (olen a)) := by
  subst h1 h2
  refine oz_of fun k t => ?_
  rw [← Sk.assoc_eq ha a b c (max (olen (Pzs al y a b (olen a))) (olen b + olen a)) (by omega) k t]
  exact (Sk.Pzs_more _ _ _ _ (Nat.le_refl _) (by omega) k t).symm
theorem ring_sum {al y : Int} (ha : al = 1 ∨ al = 2 ∨ al = 3) {a b c AB AC : List (List Int)} (h1 : AB = Pzs al y a b (olen a)) (h2 : AC = Pzs al y a c (olen a)) : oz (Pzs al y a (otr (opz (· + ·) b c)) (olen a)) = oz (otr (opz (· + ·) AB AC)) := by
  subst h1 h2
  refine oz_of fun k t => ?_
  rw [gx_add, Sk.right_sum ha (gx_add b c)]
theorem ring_left {al y : Int} {a b c AC BC : List (List Int)} (h1 : AC = Pzs al y a c (olen a)) (h2 : BC = Pzs al y b c (olen b)) : oz (Pzs al y (otr (opz (· + ·) a b)) c (olen (otr (opz (· + ·) a b)))) = oz (otr (opz (· + ·) AC BC)) := by
  subst h1 h2
  refine oz_of fun k t => ?_
  have hN : ∃ N, olen (otr (opz (· + ·) a b)) ≤ N ∧ olen a ≤ N ∧ olen b ≤ N := ⟨olen (otr (opz (· + ·) a b)) + olen a + olen b, by omega, by omega, by omega⟩
  obtain ⟨N, n1, n2, n3⟩ := hN
  rw [gx_add, ← Sk.Pzs_more _ _ _ N (Nat.le_refl _) n1, ← Sk.Pzs_more a _ _ N (Nat.le_refl _) n2, ← Sk.Pzs_more b _ _ N (Nat.le_refl _) n3, Sk.left_sum (gx_add a b)]
end Go.Proofs.YtejnhpjejcpekaaGreatDoor
