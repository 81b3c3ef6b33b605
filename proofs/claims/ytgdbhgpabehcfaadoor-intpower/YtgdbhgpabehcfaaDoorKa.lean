/-
  limbs.multiply of two sizes of one length, by halves too (Karatsuba); product.
-/
import Derived.Test.YtgdbhgpabehcfaaDoorWj
import Derived.Test.YtgdbhgpabehcfaaDoorGb
import Derived.Test.YtgdbhgpabehcfaaDoorCx
namespace Go.Proofs.YtgdbhgpabehcfaaDoor
open Go.RowKit
set_option linter.unusedVariables false
set_option linter.unusedSimpArgs false

set_option maxRecDepth 100000 in
set_option maxHeartbeats 1000000 in
/-- limbs.sum: the first is not the shorter. -/
theorem sum_ge (p q : Option Addr) (n nc m mc : Nat) (xs ys : List Int) (w : World) (hn : xs.length = n) (hm : ys.length = m) (hmn : m ≤ n) (hnb : n ≤ 1000000000)
    (hX : Rd w p .u32 xs) (hXu : U32 xs) (hY : Rd w q .u32 ys) (hYu : U32 ys) :
    Calls Tryd.prog 49 #[.slice p n nc, .slice q m mc] w fun e w' => ∃ zs, e = .returned (.slice (some ⟨w.heap.size, 0, none⟩) (n + 1) (n + 1)) ∧ zs.length = n + 1 ∧ U32 zs ∧ val zs = val xs + val ys ∧
      Row w' w.heap.size 56 .u32 zs ∧ Below w.heap.size w w' := by
  have hl' : ¬ (n : Int) < m := by omega
  have hmx : max (n : Int) (m : Int) = (n : Int) := by omega
  have hmk := mk_u32 (n + 1) (by omega)
  have ec : ((n + 1 : Nat) : Int) = (n : Int) + 1 := by omega
  rw [ec] at hmk
  clear ec
  have hcp := fun ty => copy_u32 ty w p n nc (n + 1) xs hX hn (by omega)
  have hlen : (xs ++ zeros 1).length = n + 1 := by simp [zeros]; omega
  go_enter Tryd.func49, Tryd.ntmps49
  go_wp2_with fail
  refine (addTo_any w.heap.size 0 (n + 1) (n + 1) (xs ++ zeros 1) q m mc ys _ (by omega) (by omega) (Nat.le_refl _) (Row.new w _ _ _) (u32_append hXu (u32_zeros _)) hm (by omega) (hY.alloc _) hYu (fun h => hY.off (Nat.le_refl _) (by omega))).mono ?_
  rintro e w' ⟨c, new, rfl, h1, h2, h3, h4, h5, h6, h7⟩
  go_wp2
  go_ret
  have hs := sum_top xs ys new n m (n + 1) c hn hm (by omega) (by omega) hXu hYu h2 h1 h3 h4 (by
    rw [h5, List.drop_zero, List.take_of_length_le (by omega), val_append, val_zero, Int.mul_zero, Int.add_zero])
  refine ⟨new, rfl, h1, h2, hs, ?_, ?_⟩
  · rw [List.take_zero, List.nil_append, Nat.zero_add, List.drop_of_length_le (by omega), List.append_nil] at h6
    exact h6
  · exact below_grown ((Below.refl _ _).alloc (Nat.le_refl _) _) h7 (by simp) (Nat.le_refl _)

/-- What multiply leaves. -/
def MPost (g o : Nat) (Z : List Int) (n : Nat) (V : Int) (w : World) (e : Ending) (w' : World) : Prop :=
  ∃ R, e = .returned (.tuple #[]) ∧ R.length = n + n ∧ U32 R ∧ val R = V ∧ Row w' g 56 .u32 (mid Z o R) ∧ w.grownBy w' (some g)
/-- multiply of two sizes of n limbs. -/
def MulEq (n : Nat) : Prop := ∀ (g o cap : Nat) (Z : List Int) (p q : Option Addr) (nc mc : Nat) (xs ys : List Int) (w : World),
    o + (n + n) ≤ Z.length → cap ≤ 1099511627776 → n + n ≤ cap → Row w g 56 .u32 Z → U32 Z → (Z.drop o).take (n + n) = zeros (n + n) → xs.length = n → ys.length = n → n ≤ nc → nc ≤ 1099511627776 → n ≤ mc → mc ≤ 1099511627776 →
    Rd w p .u32 xs → U32 xs → Rd w q .u32 ys → U32 ys → (0 < n → Off g p) → (0 < n → Off g q) →
    Calls Tryd.prog 62 #[.slice (some ⟨g, o, none⟩) (n + n) cap, .slice p n nc, .slice q n mc] w (MPost g o Z n (val xs * val ys) w)

theorem rd_drop {w : World} {b off : Nat} {k : IntKind} {xs : List Int} (h : Rd w (some ⟨b, off, none⟩) k xs) (j : Nat) : Rd w (some ⟨b, off + j, none⟩) k (xs.drop j) := fun hx => by
  have hl : j < xs.length := by simp at hx; omega
  obtain ⟨b', off', e, hc⟩ := h (by omega)
  cases e
  refine ⟨b, off + j, rfl, fun i hi => ?_⟩
  have := hc (j + i) (by simp at hi; omega)
  rw [gx_drop, Nat.add_assoc]; exact this

set_option maxRecDepth 100000 in
set_option maxHeartbeats 1000000 in
/-- limbs.product of two sizes of one length. -/
theorem product_eq (n : Nat) (hM : MulEq n) (p q : Option Addr) (nc mc : Nat) (xs ys : List Int) (w : World) (hn : n ≤ 10000000) (hx : xs.length = n) (hy : ys.length = n) (hxc : n ≤ nc) (hxc' : nc ≤ 1099511627776) (hyc : n ≤ mc) (hyc' : mc ≤ 1099511627776)
    (hX : Rd w p .u32 xs) (hXu : U32 xs) (hY : Rd w q .u32 ys) (hYu : U32 ys) :
    Calls Tryd.prog 37 #[.slice p n nc, .slice q n mc] w fun e w' => ∃ R, e = .returned (.slice (some ⟨w.heap.size, 0, none⟩) (n + n) (n + n)) ∧ R.length = n + n ∧ U32 R ∧ val R = val xs * val ys ∧ Row w' w.heap.size 56 .u32 R ∧ Below w.heap.size w w' := by
  have hmk := mk_u32 (n + n) (by omega)
  have ec : ((n + n : Nat) : Int) = (n : Int) + (n : Int) := by omega
  rw [ec] at hmk
  clear ec
  have hc := hM w.heap.size 0 (n + n) (zeros (n + n)) p q nc mc xs ys (w.alloc (.cells (ca .u32 (zeros (n + n))) 56)) (by rw [length_zeros]; omega) (by omega) (Nat.le_refl _) (Row.new w _ _ _) (u32_zeros _) (by rw [List.drop_zero, List.take_of_length_le (by rw [length_zeros]; omega)]) hx hy hxc hxc' hyc hyc' (hX.alloc _) hXu (hY.alloc _) hYu (fun h => hX.off (Nat.le_refl _) (by omega)) (fun h => hY.off (Nat.le_refl _) (by omega))
  clear hx hy hM
  go_enter Tryd.func37, Tryd.ntmps37
  go_wp2_with fail
  refine hc.mono ?_
  rintro e w' ⟨R, rfl, r1, r2, r3, r4, r5⟩
  have HR : Hid (R.length = n + n ∧ U32 R ∧ val R = val xs * val ys ∧ Row w' w.heap.size 56 .u32 (mid (zeros (n + n)) 0 R) ∧ (w.alloc (.cells (ca .u32 (zeros (n + n))) 56)).grownBy w' (some w.heap.size)) := ⟨r1, r2, r3, r4, r5⟩
  clear r1 r2 r3 r4 r5 hc hmk
  go_wp2
  go_ret
  obtain ⟨r1, r2, r3, r4, r5⟩ := HR.out
  rw [mid_zero _ _ (by rw [r1, length_zeros])] at r4
  exact ⟨R, rfl, r1, r2, r3, r4, below_grown ((Below.refl _ _).alloc (Nat.le_refl _) _) r5 (by simp) (Nat.le_refl _)⟩
theorem gx_mid (Z R : List Int) (o j : Nat) (h : o + R.length ≤ Z.length) : gx (mid Z o R) j = if o ≤ j ∧ j < o + R.length then gx R (j - o) else gx Z j := by
  by_cases hc : o ≤ j ∧ j < o + R.length
  · rw [if_pos hc]
    have := mid_gx Z R o (j - o) h (by omega)
    rwa [show o + (j - o) = j by omega] at this
  · rw [if_neg hc]
    rcases Nat.lt_or_ge j o with h1 | h1
    · unfold mid
      rw [List.append_assoc, gx_append_left _ _ _ (by simp; omega), gx_take _ _ _ h1]
    · exact row_gx Z R o j h (by omega)
theorem mid_sub (Z RR new : List Int) (o h : Nat) (ho : o + RR.length ≤ Z.length) (hn : h + new.length = RR.length) : mid (mid Z o RR) (o + h) new = mid Z o (RR.take h ++ new) := by
  have l1 := mid_length Z RR o ho
  have l2 : (RR.take h ++ new).length = RR.length := by simp; omega
  refine gx_ext _ _ (by rw [mid_length _ _ _ (by rw [l1]; omega), l1, mid_length _ _ _ (by rw [l2]; omega)]) fun j hj => ?_
  rw [gx_mid _ _ _ _ (by rw [l1]; omega), gx_mid _ _ _ _ ho, gx_mid _ _ _ _ (by rw [l2]; omega), l2]
  by_cases h1 : o + h ≤ j ∧ j < o + h + new.length
  · rw [if_pos h1, if_pos (by omega), gx_append_right _ _ _ (by simp; omega)]
    congr 1; simp; omega
  · rw [if_neg h1]
    by_cases h2 : o ≤ j ∧ j < o + RR.length
    · rw [if_pos h2, if_pos (by omega), gx_append_left _ _ _ (by simp; omega), gx_take _ _ _ (by omega)]
    · rw [if_neg h2, if_neg (by omega)]
/-- Karatsuba's sum. -/
theorem kara {xl xh yl yh P md : Int} (h : md + xl * yl + xh * yh = (xl + xh) * (yl + yh)) : xl * yl + P * P * (xh * yh) + P * md = (xl + P * xh) * (yl + P * yh) := by
  have e : md = xl * yh + xh * yl := by grind
  rw [e]; grind
theorem mid_drop_part (Z RR : List Int) (o h m : Nat) (ho : o + RR.length ≤ Z.length) (hm : h + m = RR.length) : ((mid Z o RR).drop (o + h)).take m = RR.drop h := by
  have l1 := mid_length Z RR o ho
  refine gx_ext _ _ (by simp [l1]; omega) fun j hj => ?_
  have hj' : j < m := by simp at hj; omega
  rw [gx_take _ _ _ hj', gx_drop, gx_drop, gx_mid _ _ _ _ ho, if_pos (by omega)]
  congr 1; omega
theorem no_carry {a b c P : Int} (h : a + P * c = b) (ha : 0 ≤ a) (hb : b < P) (hc0 : 0 ≤ c) (hc1 : c ≤ 1) : c = 0 := by
  rcases (show c = 0 ∨ c = 1 by omega) with e | e
  · exact e
  · subst e; omega
theorem no_lack {a b d c P : Int} (h : a + b = d + P * c) (ha : a < P) (hd : b ≤ d) (hc0 : 0 ≤ c) (hc1 : c ≤ 1) : c = 0 := by
  rcases (show c = 0 ∨ c = 1 by omega) with e | e
  · exact e
  · subst e; omega

theorem rd_take_part {w : World} {g o : Nat} {e : TypeId} {Z R : List Int} {j m : Nat} (h : Row w g e .u32 (mid Z o R)) (ho : o + R.length ≤ Z.length) (hm : j + m ≤ R.length) : Rd w (some ⟨g, o + j, none⟩) .u32 ((R.drop j).take m) := fun hx => by
  refine ⟨g, o + j, rfl, fun i hi => ?_⟩
  have hi' : i < m := by simp at hi; omega
  have := h.mid_cell ho (j + i) (by omega)
  rw [gx_take _ _ _ hi', gx_drop, Nat.add_assoc]; exact this
theorem mid_mid (Z R1 R2 : List Int) (o : Nat) (h : o + (R1.length + R2.length) ≤ Z.length) : mid (mid Z o R1) (o + R1.length) R2 = mid Z o (R1 ++ R2) := by
  have l1 := mid_length Z R1 o (by omega)
  refine gx_ext _ _ (by rw [mid_length _ _ _ (by rw [l1]; omega), l1, mid_length _ _ _ (by simp; omega)]) fun j hj => ?_
  rw [gx_mid _ _ _ _ (by rw [l1]; omega), gx_mid _ _ _ _ (by omega), gx_mid _ _ _ _ (by simp; omega), List.length_append]
  by_cases h1 : o + R1.length ≤ j ∧ j < o + R1.length + R2.length
  · rw [if_pos h1, if_pos (by omega), gx_append_right _ _ _ (by omega)]
    congr 1; omega
  · rw [if_neg h1]
    by_cases h2 : o ≤ j ∧ j < o + R1.length
    · rw [if_pos h2, if_pos (by omega), gx_append_left _ _ _ (by omega)]
    · rw [if_neg h2, if_neg (by omega)]
theorem u32_mid {Z R : List Int} {o : Nat} (hZ : U32 Z) (hR : U32 R) : U32 (mid Z o R) := u32_append (u32_append (u32_take hZ _) hR) (u32_drop hZ _)

set_option maxRecDepth 100000 in
set_option maxHeartbeats 8000000 in
/-- limbs.multiplyHalves. -/
theorem halves_any (n h : Nat) (hh : h = (n + 1) / 2) (hn80 : 80 ≤ n) (hnb : n ≤ 1000000) (ih : ∀ k, k < n → MulEq k)
    (g o cap : Nat) (Z : List Int) (b1 f1 b2 f2 : Nat) (nc mc : Nat) (xs ys : List Int) (w : World)
    (hz : o + (n + n) ≤ Z.length) (hcap : cap ≤ 1099511627776) (hnc : n + n ≤ cap) (hR : Row w g 56 .u32 Z) (hUZ : U32 Z) (hZ : (Z.drop o).take (n + n) = zeros (n + n)) (hx : xs.length = n) (hy : ys.length = n) (hxc : n ≤ nc) (hxc' : nc ≤ 1099511627776) (hyc : n ≤ mc) (hyc' : mc ≤ 1099511627776)
    (hX : Rd w (some ⟨b1, f1, none⟩) .u32 xs) (hXu : U32 xs) (hY : Rd w (some ⟨b2, f2, none⟩) .u32 ys) (hYu : U32 ys) (hg1 : b1 ≠ g) (hg2 : b2 ≠ g) :
    Calls Tryd.prog 88 #[.slice (some ⟨g, o, none⟩) (n + n) cap, .slice (some ⟨b1, f1, none⟩) n nc, .slice (some ⟨b2, f2, none⟩) n mc, .int .i64 h] w (MPost g o Z n (val xs * val ys) w) := by
  have hb1 : h < n := by omega
  have hb2 : h + 1 < n := by omega
  have hb3 : n ≤ h + h := by omega
  have hb4 : n - h < n := by omega
  have HL : Hid (h = (n + 1) / 2 ∧ xs.length = n ∧ ys.length = n) := ⟨hh, hx, hy⟩
  clear hh hx hy
  have e1 : 2 * (h : Int) ≤ (cap : Int) := by omega
  have e2 : 2 * (h : Int) ≤ (n : Int) + (n : Int) := by omega
  have e3 : (h : Int) ≤ (nc : Int) := by omega
  have e4 : (h : Int) ≤ (mc : Int) := by omega
  have e5 : (h : Int) ≤ (n : Int) := by omega
  have e6 : (h : Int) ≤ (n : Int) + (n : Int) := by omega
  have e7 : ¬ nc = h := by omega
  have e8 : ¬ mc = h := by omega
  have e9 : ¬ cap = h := by omega
  go_enter Tryd.func88, Tryd.ntmps88
  go_wp2
  go_quiet (fail)
  have hRq : Row (w.drewN nq) g 56 .u32 Z := hR
  have hXq : Rd (w.drewN nq) (some ⟨b1, f1, none⟩) .u32 xs := hX
  have hYq : Rd (w.drewN nq) (some ⟨b2, f2, none⟩) .u32 ys := hY
  have hgq : w.grownBy (w.drewN nq) (some g) := grownBy_drewN (grownBy_refl _ _) nq
  go_wp2
  generalize w.drewN nq = W at *
  rw [show n + n - 2 * h = (n - h) + (n - h) by omega]
  have m1 := ih h hb1 g o cap Z (some ⟨b1, f1, none⟩) (some ⟨b2, f2, none⟩) nc mc (xs.take h) (ys.take h)
  have HM : Hid (MulEq (n - h) ∧ MulEq (h + 1)) := ⟨ih (n - h) hb4, ih (h + 1) hb2⟩
  rw [show h + h = 2 * h by omega] at m1
  have hA1 := m1 W.drew (by omega) hcap (by omega) hRq.drew hUZ (by
    have : (Z.drop o).take (2 * h) = ((Z.drop o).take (n + n)).take (2 * h) := by rw [List.take_take, Nat.min_eq_left (by omega)]
    rw [this, hZ]
    simp [zeros]; omega) (by have := HL.out; simp; omega) (by have := HL.out; simp; omega) (by omega) hxc' (by omega) hyc' (hXq.take h).drew (u32_take hXu _) (hYq.take h).drew (u32_take hYu _) (fun _ a ha => by cases ha; exact hg1) (fun _ a ha => by cases ha; exact hg2)
  have HZ : Hid ((Z.drop o).take (n + n) = zeros (n + n)) := hZ
  clear m1 ih hZ
  go_region_held3 (fun _ => True) (trivial) ((go_at_call 62; refine hA1.mono ?_; rintro e w1 ⟨R1, rfl, r1, r2, r3, r4, r5⟩))
  have hX1 : Rd w1 (some ⟨b1, f1, none⟩) .u32 xs := hXq.drew.keptOff r5 (fun a ha => by cases ha; exact hg1)
  have hY1 : Rd w1 (some ⟨b2, f2, none⟩) .u32 ys := hYq.drew.keptOff r5 (fun a ha => by cases ha; exact hg2)
  have hG1 : w.grownBy w1 (some g) := grownBy_trans (grownBy_drew hgq) r5
  have hA2 := HM.out.1 g (o + 2 * h) (cap - 2 * h) (mid Z o R1) (some ⟨b1, f1 + h, none⟩) (some ⟨b2, f2 + h, none⟩) (nc - h) (mc - h) (xs.drop h) (ys.drop h) w1.drew (by rw [mid_length _ _ _ (by omega)]; omega) (by omega) (by omega) r4.drew (u32_mid hUZ r2) (by
    refine gx_ext _ _ (by simp [zeros, mid_length Z R1 o (by omega)]; omega) fun j hj => ?_
    have hj' : j < (n - h) + (n - h) := by simp at hj; omega
    rw [gx_take _ _ _ hj', gx_drop, gx_mid _ _ _ _ (by omega), if_neg (by omega), gx_zeros]
    have h1 := part_gx Z o (n + n) (2 * h + j) (by omega)
    rw [HZ.out, gx_zeros] at h1
    rw [h1]; congr 1; omega) (by have := HL.out; simp; omega) (by have := HL.out; simp; omega) (by omega) (by omega) (by omega) (by omega) (rd_drop hX1 h).drew (u32_drop hXu _) (rd_drop hY1 h).drew (u32_drop hYu _) (fun _ a ha => by cases ha; exact hg1) (fun _ a ha => by cases ha; exact hg2)
  have H1 : Hid (R1.length = h + h ∧ U32 R1 ∧ val R1 = val (xs.take h) * val (ys.take h)) := ⟨r1, r2, r3⟩
  clear r1 r2 r3 r4 r5 hRq hXq hYq hgq hA1 hR hX hY
  go_wp2
  go_region_held3 (fun _ => True) (trivial) ((go_at_call 62; refine hA2.mono ?_; rintro e w2 ⟨R2, rfl, r1, r2, r3, r4, r5⟩))
  have hX2 : Rd w2 (some ⟨b1, f1, none⟩) .u32 xs := hX1.drew.keptOff r5 (fun a ha => by cases ha; exact hg1)
  have hY2 : Rd w2 (some ⟨b2, f2, none⟩) .u32 ys := hY1.drew.keptOff r5 (fun a ha => by cases ha; exact hg2)
  have hG2 : w.grownBy w2 (some g) := grownBy_trans (grownBy_drew hG1) r5
  have hlen1 := H1.out.1
  rw [show o + 2 * h = o + R1.length by omega, mid_mid _ _ _ _ (by omega)] at r4
  have H2 : Hid (R2.length = (n - h) + (n - h) ∧ U32 R2 ∧ val R2 = val (xs.drop h) * val (ys.drop h) ∧ Row w2 g 56 .u32 (mid Z o (R1 ++ R2)) ∧ w.grownBy w2 (some g)) := ⟨r1, r2, r3, r4, hG2⟩
  clear r1 r2 r3 r4 r5 hA2 hX1 hY1 hG1 hG2 hlen1
  go_wp2
  have hs1 := fun W (hx : Rd W (some ⟨b1, f1, none⟩) .u32 xs) => sum_ge (some ⟨b1, f1, none⟩) (some ⟨b1, f1 + h, none⟩) h nc (n - h) (nc - h) (xs.take h) (xs.drop h) W (by have := HL.out; simp; omega) (by have := HL.out; simp; omega) (by omega) (by omega) (hx.take h) (u32_take hXu _) (rd_drop hx h) (u32_drop hXu _)
  have hs2 := fun W (hy : Rd W (some ⟨b2, f2, none⟩) .u32 ys) => sum_ge (some ⟨b2, f2, none⟩) (some ⟨b2, f2 + h, none⟩) h mc (n - h) (mc - h) (ys.take h) (ys.drop h) W (by have := HL.out; simp; omega) (by have := HL.out; simp; omega) (by omega) (by omega) (hy.take h) (u32_take hYu _) (rd_drop hy h) (u32_drop hYu _)
  have hs1' := hs1 w2.drew hX2.drew
  go_region_held3 (fun _ => True) (trivial) (first
    | (go_at_call_of 49 (Value.slice (some ⟨b1, f1, none⟩) h nc); refine hs1'.mono ?_; rintro e w3 ⟨S1, rfl, s1, s2, s3, s4, s5⟩)
    | (go_at_call_of 49 (Value.slice (some ⟨b2, f2, none⟩) h mc); refine (hs2 _ (hY2.drew.below s5)).mono ?_; rintro e w4 ⟨S2, rfl, t1, t2, t3, t4, t5⟩)
    | (go_at_call 37; refine (product_eq (h + 1) HM.out.2 (some ⟨w2.heap.size, 0, none⟩) (some ⟨w3.heap.size, 0, none⟩) (h + 1) (h + 1) S1 S2 _ (by omega) s1 t1 (Nat.le_refl _) (by omega) (Nat.le_refl _) (by omega) (s4.below t5 s4.lt).rd_all s2 t4.rd_all t2).mono ?_; rintro e w5 ⟨Md, rfl, u1, u2, u3, u4, u5⟩))
  have hb24 : Below w2.heap.size w2 w4 := bnext' (undrew s5) t5
  have hb25 : Below w2.heap.size w2 w5 := bnext' hb24 u5
  have hgm : g < w4.heap.size := Nat.lt_of_lt_of_le H2.out.2.2.2.1.lt hb24.size
  have H3 : Hid (Md.length = h + 1 + (h + 1) ∧ U32 Md ∧ val Md = (val (xs.take h) + val (xs.drop h)) * (val (ys.take h) + val (ys.drop h)) ∧ Row w5 w4.heap.size 56 .u32 Md ∧ Row w5 g 56 .u32 (mid Z o (R1 ++ R2)) ∧ w.grownBy w5 (some g) ∧ g < w4.heap.size ∧ w.heap.size ≤ w4.heap.size) := by
    refine ⟨u1, u2, by rw [u3, s3, t3], u4, H2.out.2.2.2.1.below hb25 H2.out.2.2.2.1.lt, grownBy_trans H2.out.2.2.2.2 (grownBy_below hb25 _), hgm, ?_⟩
    have := H2.out.2.2.2.2.size
    have := hb24.size
    omega
  clear hs1 hs2 hs1' s1 s2 s3 s4 s5 t1 t2 t3 t4 t5 u1 u2 u3 u4 u5 hb24 hb25 hX2 hY2 hgm
  generalize w4.heap.size = gm at *
  have hlo : Rd w5 (some ⟨g, o, none⟩) .u32 R1 := by
    have h1 := H1.out.1
    have h2 := H2.out.1
    have := rd_take_part (j := 0) (m := h + h) H3.out.2.2.2.2.1 (by simp; omega) (by simp; omega)
    rw [Nat.add_zero, List.drop_zero, ← h1, List.take_left] at this
    exact this
  have htf := takeFrom_any gm 0 (h + 1 + (h + 1)) (h + 1 + (h + 1)) Md (some ⟨g, o, none⟩) (2 * h) cap R1 w5 (by rw [H3.out.1]; omega) (by omega) (Nat.le_refl _) H3.out.2.2.2.1 H3.out.2.1 (by have := H1.out.1; omega) (by omega) hlo H1.out.2.1 (fun _ a ha => by cases ha; have := H3.out.2.2.2.2.2.2.1; show g ≠ gm; omega)
  clear hlo
  go_wp2_with fail
  refine htf.mono ?_
  clear htf
  rintro e w6 ⟨c1, N1, rfl, n1, n2, n3, n4, n5, n6, n7⟩
  rw [List.drop_zero, List.take_of_length_le (by rw [H3.out.1]; omega)] at n5
  have hM0 : Md.take 0 ++ N1 ++ Md.drop (0 + (h + 1 + (h + 1))) = N1 := by rw [List.take_zero, List.nil_append, Nat.zero_add, List.drop_of_length_le (by rw [H3.out.1]; omega), List.append_nil]
  rw [hM0] at n6
  have hxl := val_nonneg (u32_take hXu h)
  have hxh := val_nonneg (u32_drop hXu h)
  have hyl := val_nonneg (u32_take hYu h)
  have hyh := val_nonneg (u32_drop hYu h)
  have H4 : Hid (N1.length = h + 1 + (h + 1) ∧ U32 N1 ∧ val N1 + val (xs.take h) * val (ys.take h) = (val (xs.take h) + val (xs.drop h)) * (val (ys.take h) + val (ys.drop h)) ∧ Row w6 gm 56 .u32 N1 ∧ Row w6 g 56 .u32 (mid Z o (R1 ++ R2)) ∧ w.grownBy w6 (some g) ∧ g < gm) := by
    have hlt := val_lt n2
    rw [n1] at hlt
    have hmul : val (xs.take h) * val (ys.take h) ≤ (val (xs.take h) + val (xs.drop h)) * (val (ys.take h) + val (ys.drop h)) := Int.mul_le_mul (by omega) (by omega) hyl (by omega)
    rw [H3.out.2.2.1, H1.out.2.2] at n5
    have hc := no_lack n5 hlt hmul n3 n4
    rw [hc, Int.mul_zero, Int.add_zero] at n5
    have h7 := H3.out.2.2.2.2.2.2
    refine ⟨n1, n2, n5, n6, H3.out.2.2.2.2.1.kept n7 (fun e => by have := Option.some.inj e; omega), ?_, h7.1⟩
    have h8 := H3.out.2.2.2.2.2.1
    exact ⟨n7.os.trans h8.os, n7.tape.trans h8.tape, n7.output.trans h8.output, Nat.le_trans h8.size n7.size, fun i hi hne => (n7.block i (Nat.lt_of_lt_of_le hi h8.size) (fun e => by have := Option.some.inj e; omega)).trans (h8.block i hi hne)⟩
  have HGM : Hid (w.heap.size ≤ gm) := H3.out.2.2.2.2.2.2.2
  clear n1 n2 n3 n4 n5 n6 n7 hM0 H3
  have hhi : Rd w6 (some ⟨g, o + 2 * h, none⟩) .u32 R2 := by
    have h1 := H1.out.1
    have h2 := H2.out.1
    have := rd_take_part (j := 2 * h) (m := (n - h) + (n - h)) H4.out.2.2.2.2.1 (by simp; omega) (by simp; omega)
    rw [show (R1 ++ R2).drop (2 * h) = R2 by rw [show 2 * h = R1.length by omega]; exact List.drop_left, List.take_of_length_le (by omega)] at this
    exact this
  have htf := takeFrom_any gm 0 (h + 1 + (h + 1)) (h + 1 + (h + 1)) N1 (some ⟨g, o + 2 * h, none⟩) ((n - h) + (n - h)) (cap - 2 * h) R2 w6 (by rw [H4.out.1]; omega) (by omega) (Nat.le_refl _) H4.out.2.2.2.1 H4.out.2.1 H2.out.1 (by omega) hhi H2.out.2.1 (fun _ a ha => by cases ha; have := H4.out.2.2.2.2.2.2; show g ≠ gm; omega)
  clear hhi
  go_wp2_with fail
  refine htf.mono ?_
  clear htf
  rintro e w7 ⟨c2, N2, rfl, n1, n2, n3, n4, n5, n6, n7⟩
  rw [List.drop_zero, List.take_of_length_le (by rw [H4.out.1]; omega)] at n5
  have hM0 : N1.take 0 ++ N2 ++ N1.drop (0 + (h + 1 + (h + 1))) = N2 := by rw [List.take_zero, List.nil_append, Nat.zero_add, List.drop_of_length_le (by rw [H4.out.1]; omega), List.append_nil]
  rw [hM0] at n6
  have H5 : Hid (N2.length = h + 1 + (h + 1) ∧ U32 N2 ∧ val N2 + val (xs.take h) * val (ys.take h) + val (xs.drop h) * val (ys.drop h) = (val (xs.take h) + val (xs.drop h)) * (val (ys.take h) + val (ys.drop h)) ∧ Row w7 gm 56 .u32 N2 ∧ Row w7 g 56 .u32 (mid Z o (R1 ++ R2)) ∧ w.grownBy w7 (some g) ∧ g < gm) := by
    have hlt := val_lt n2
    rw [n1] at hlt
    have e := H4.out.2.2.1
    have hmul : val (xs.drop h) * val (ys.drop h) ≤ val N1 := by
      have a1 := Int.mul_nonneg hxl hyh
      have a2 := Int.mul_nonneg hxh hyl
      have a3 : (val (xs.take h) + val (xs.drop h)) * (val (ys.take h) + val (ys.drop h)) = val (xs.take h) * val (ys.take h) + val (xs.take h) * val (ys.drop h) + val (xs.drop h) * val (ys.take h) + val (xs.drop h) * val (ys.drop h) := by grind
      omega
    rw [H2.out.2.2.1] at n5
    have hc := no_lack n5 hlt hmul n3 n4
    rw [hc, Int.mul_zero, Int.add_zero] at n5
    have h7 := H4.out.2.2.2.2.2.2
    refine ⟨n1, n2, by omega, n6, H4.out.2.2.2.2.1.kept n7 (fun e => by have := Option.some.inj e; omega), ?_, h7⟩
    have h8 := H4.out.2.2.2.2.2.1
    have h9 : w.heap.size ≤ gm := HGM.out
    exact ⟨n7.os.trans h8.os, n7.tape.trans h8.tape, n7.output.trans h8.output, Nat.le_trans h8.size n7.size, fun i hi hne => (n7.block i (Nat.lt_of_lt_of_le hi h8.size) (fun e => by have := Option.some.inj e; omega)).trans (h8.block i hi hne)⟩
  clear n1 n2 n3 n4 n5 n6 n7 hM0 H4
  go_wp2_with fail
  have htr := trim_any (some ⟨gm, 0, none⟩) (h + 1 + (h + 1)) (h + 1 + (h + 1)) N2 w7.drew H5.out.1 (Nat.le_refl _) (by unfold maxLen; omega) H5.out.2.2.2.1.rd_all.drew
  have hxs : val xs = val (xs.take h) + pw h * val (xs.drop h) := val_cut xs h
  have hys : val ys = val (ys.take h) + pw h * val (ys.drop h) := val_cut ys h
  have hk := kara (P := pw h) H5.out.2.2.1
  rw [← hxs, ← hys] at hk
  have hxlt := val_lt hXu
  have hylt := val_lt hYu
  rw [HL.out.2.1] at hxlt
  rw [HL.out.2.2] at hylt
  have hprod : val xs * val ys < pw (n + n) := by
    have a0 := val_nonneg hXu
    have a1 := val_nonneg hYu
    have a2 : val xs * val ys ≤ val xs * pw n := Int.mul_le_mul_of_nonneg_left (by omega) a0
    have a3 : val xs * pw n < pw n * pw n := Int.mul_lt_mul_of_pos_right hxlt (pw_pos n)
    rw [pw_add]; omega
  have hN2n := val_nonneg H5.out.2.1
  have hml : val N2 < pw (n + n - h) := by
    have a1 : 0 ≤ val (xs.take h) * val (ys.take h) := Int.mul_nonneg hxl hyl
    have a2 : 0 ≤ pw h * pw h * (val (xs.drop h) * val (ys.drop h)) := Int.mul_nonneg (Int.mul_nonneg (Int.le_of_lt (pw_pos h)) (Int.le_of_lt (pw_pos h))) (Int.mul_nonneg hxh hyh)
    have a3 : pw h * val N2 < pw h * pw (n + n - h) := by rw [← pw_add, show h + (n + n - h) = n + n by omega]; omega
    exact Int.lt_of_mul_lt_mul_left a3 (Int.le_of_lt (pw_pos h))
  have htl : tlen N2 ≤ n + n - h := by
    rcases Nat.lt_or_ge (n + n - h) (tlen N2) with h1 | h1
    · have h2 := val_pos_of_top H5.out.2.1 (by omega)
      have h3 : pw (n + n - h) ≤ pw (tlen N2 - 1) := pw_mono (by omega)
      omega
    · exact h1
  have htl2 := tlen_le N2
  have hadd := addTo_any g (o + h) (n + n - h) (cap - h) (mid Z o (R1 ++ R2)) (some ⟨gm, 0, none⟩) (tlen N2) (h + 1 + (h + 1)) (tr N2) w7.drew (by rw [mid_length _ _ _ (by have := H1.out.1; have := H2.out.1; simp; omega)]; omega) (by omega) (by omega) H5.out.2.2.2.2.1.drew (u32_mid hUZ (u32_append H1.out.2.1 H2.out.2.1)) (length_tr N2) htl H5.out.2.2.2.1.rd_all.tr.drew (u32_tr H5.out.2.1) (fun _ a ha => by cases ha; have := H5.out.2.2.2.2.2.2; show gm ≠ g; omega)
  have HK : Hid (val (xs.take h) * val (ys.take h) + pw h * pw h * (val (xs.drop h) * val (ys.drop h)) + pw h * val N2 = val xs * val ys ∧ val xs * val ys < pw (n + n)) := ⟨hk, hprod⟩
  clear hxs hys hk hxlt hylt hprod hml htl htl2 hN2n
  go_region_held3 (fun _ => True) (trivial) (first
    | (go_at_call 32; refine htr.mono ?_; rintro e w8 ⟨rfl, rfl⟩)
    | (go_at_call 76; refine hadd.mono ?_; rintro e w9 ⟨c, new, rfl, n1, n2, n3, n4, n5, n6, n7⟩))
  have HF : Hid (new.length = n + n - h ∧ U32 new ∧ 0 ≤ c ∧ c ≤ 1 ∧ val new + pw (n + n - h) * c = val (((mid Z o (R1 ++ R2)).drop (o + h)).take (n + n - h)) + val (tr N2) ∧ Row w9 g 56 .u32 ((mid Z o (R1 ++ R2)).take (o + h) ++ new ++ (mid Z o (R1 ++ R2)).drop (o + h + (n + n - h))) ∧ w7.drew.grownBy w9 (some g)) := ⟨n1, n2, n3, n4, n5, n6, n7⟩
  clear n1 n2 n3 n4 n5 n6 n7 htr hadd
  go_wp2
  go_end0
  obtain ⟨n1, n2, n3, n4, n5, n6, n7⟩ := HF.out
  have l1 := H1.out.1
  have l2 := H2.out.1
  have lRR : (R1 ++ R2).length = n + n := by simp; omega
  rw [mid_drop_part Z (R1 ++ R2) o h (n + n - h) (by omega) (by omega), val_tr] at n5
  have hmm : (mid Z o (R1 ++ R2)).take (o + h) ++ new ++ (mid Z o (R1 ++ R2)).drop (o + h + (n + n - h)) = mid Z o ((R1 ++ R2).take h ++ new) := by
    rw [← mid_sub Z (R1 ++ R2) new o h (by omega) (by omega)]
    unfold mid
    rw [n1]
  rw [hmm] at n6
  have hRR := val_cut (R1 ++ R2) h
  have hap := val_append R1 R2
  rw [l1, pw_add, H1.out.2.2, H2.out.2.2.1] at hap
  have hval : val ((R1 ++ R2).take h ++ new) = val ((R1 ++ R2).take h) + pw h * val new := by
    rw [val_append, List.length_take, Nat.min_eq_left (by omega)]
  have htot : val ((R1 ++ R2).take h ++ new) + pw (n + n) * c = val xs * val ys := by
    have e1 : pw (n + n) = pw h * pw (n + n - h) := by rw [← pw_add, show h + (n + n - h) = n + n by omega]
    have e2 := congrArg (fun z => pw h * z) n5
    simp only [Int.mul_add] at e2
    rw [hval, e1, Int.mul_assoc]
    have := HK.out.1
    omega
  have hR0 : 0 ≤ val ((R1 ++ R2).take h ++ new) := val_nonneg (u32_append (u32_take (u32_append H1.out.2.1 H2.out.2.1) _) n2)
  have hc := no_carry htot hR0 HK.out.2 n3 n4
  rw [hc, Int.mul_zero, Int.add_zero] at htot
  exact ⟨(R1 ++ R2).take h ++ new, rfl, by rw [List.length_append, List.length_take, lRR]; omega, u32_append (u32_take (u32_append H1.out.2.1 H2.out.2.1) _) n2, htot, n6, grownBy_trans (grownBy_drew H5.out.2.2.2.2.2.1) n7⟩

set_option maxRecDepth 100000 in
set_option maxHeartbeats 2000000 in
/-- limbs.multiply of two sizes of one length. -/
theorem multiply_eq : ∀ n, n ≤ 1000000 → MulEq n := by
  intro n
  induction n using Nat.strongRecOn with
  | _ n ih =>
    intro hn
    rcases Nat.lt_or_ge n 80 with h80 | h80
    · intro g o cap Z p q nc mc xs ys w hz hcap hnc hR hUZ hZ hx hy hxc hxc' hyc hyc' hX hXu hY hYu hp hq
      exact (multiply_small g o cap Z p q n nc n mc xs ys w hz hcap hnc hR hZ hx hy hX hXu hY hYu hp hq (.inl h80)).mono fun e w' h => h
    · intro g o cap Z p q nc mc xs ys w hz hcap hnc hR hUZ hZ hx hy hxc hxc' hyc hyc' hX hXu hY hYu hp hq
      obtain ⟨b1, f1, rfl, _⟩ := hX (by omega)
      obtain ⟨b2, f2, rfl, _⟩ := hY (by omega)
      obtain ⟨h, hh⟩ : ∃ h, h = (n + 1) / 2 := ⟨_, rfl⟩
      have hv := halves_any n h hh h80 hn (fun k hk => ih k hk (by omega)) g o cap Z b1 f1 b2 f2 nc mc xs ys w hz hcap hnc hR hUZ hZ hx hy hxc hxc' hyc hyc' hX hXu hY hYu (hp (by omega) _ rfl) (hq (by omega) _ rfl)
      have q1 : ((n : Int) + 1) / 2 = (h : Int) := by omega
      have q2 : ¬ (n : Int) < 80 := by omega
      have q3 : ¬ (n : Int) ≤ (h : Int) := by omega
      have q4 : ¬ (n : Int) < (n : Int) := by omega
      clear hh ih hx hy hZ
      go_enter Tryd.func62, Tryd.ntmps62
      go_wp2_with fail
      refine hv.mono ?_
      rintro e w1 ⟨R, rfl, r1, r2, r3, r4, r5⟩
      have HR : Hid (R.length = n + n ∧ U32 R ∧ val R = val xs * val ys ∧ Row w1 g 56 .u32 (mid Z o R) ∧ w.grownBy w1 (some g)) := ⟨r1, r2, r3, r4, r5⟩
      clear r1 r2 r3 r4 r5 hv
      go_wp2
      go_end0
      obtain ⟨r1, r2, r3, r4, r5⟩ := HR.out
      exact ⟨R, rfl, r1, r2, r3, r4, r5⟩
end Go.Proofs.YtgdbhgpabehcfaaDoor
