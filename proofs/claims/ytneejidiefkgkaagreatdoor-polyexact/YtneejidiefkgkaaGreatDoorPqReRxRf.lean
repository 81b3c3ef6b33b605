/-
  Packing polynomials into numbers (Kronecker): plain.
-/
import Derived.Test.YtneejidiefkgkaaGreatDoorUvUwUm
import Derived.Test.YtneejidiefkgkaaGreatDoorNiUaWhPn
import Derived.Test.YtneejidiefkgkaaGreatDoorWmBeRd
import Derived.Test.YtneejidiefkgkaaGreatDoorUbUcUdOwRa
import Derived.Test.YtneejidiefkgkaaGreatDoorWkWlBxBbCvNj
namespace Go.Proofs.YtneejidiefkgkaaGreatDoor
open Go.RowKit
set_option linter.unusedVariables false
set_option linter.unusedSimpArgs false

theorem val_midz {A xs : List Int} {o : Nat} (h : o + xs.length ≤ A.length) (hz : ∀ j, o ≤ j → gx A j = 0) : val (mid A o xs) = val A + pw o * val xs := by
  have hl : (A.take o).length = o := by simp; omega
  have z1 : val (A.drop (o + xs.length)) = 0 := val_zeros _ fun j => by rw [gx_drop]; exact hz _ (by omega)
  have z2 : val (A.drop o) = 0 := val_zeros _ fun j => by rw [gx_drop]; exact hz _ (by omega)
  have e := val_drop_take A o (by omega)
  rw [z2, Int.mul_zero, Int.add_zero] at e
  rw [mid, val_append, val_append, z1, hl, e]
  simp
theorem gx_midz {A xs : List Int} {o : Nat} (h : o + xs.length ≤ A.length) (hz : ∀ j, o ≤ j → gx A j = 0) (j : Nat) (hj : o + xs.length ≤ j) : gx (mid A o xs) j = 0 := by
  rw [mid, row_gx A xs o j h hj]
  exact hz j (by omega)
theorem u32_midz {A xs : List Int} {o : Nat} (hA : U32 A) (hx : U32 xs) : U32 (mid A o xs) := u32_append (u32_append (u32_take hA o) hx) (u32_drop hA _)
/-- The sum of the first k entries, each at its place. -/
def pkf (W : Nat) (f : Nat → Int) : Nat → Int
  | 0 => 0
  | k + 1 => pkf W f k + f k * pw (W * k)
theorem pkf_congr (W : Nat) {f g : Nat → Int} : ∀ k, (∀ j, j < k → f j = g j) → pkf W f k = pkf W g k
  | 0, _ => rfl
  | k + 1, h => by rw [pkf, pkf, pkf_congr W k fun j hj => h j (by omega), h k (by omega)]
theorem pkf_zero (W : Nat) : ∀ k, pkf W (fun _ => 0) k = 0
  | 0 => rfl
  | k + 1 => by rw [pkf, pkf_zero W k]; simp
theorem pkf_add (W : Nat) (f g : Nat → Int) : ∀ k, pkf W (fun j => f j + g j) k = pkf W f k + pkf W g k
  | 0 => rfl
  | k + 1 => by
    rw [pkf, pkf, pkf, pkf_add W f g k, Int.add_mul]
    omega
theorem pkf_more (W : Nat) (f : Nat → Int) (k : Nat) (h : ∀ j, k ≤ j → f j = 0) : ∀ m, pkf W f (k + m) = pkf W f k
  | 0 => rfl
  | m + 1 => by rw [← Nat.add_assoc, pkf, pkf_more W f k h m, h (k + m) (by omega)]; simp
theorem pkf_shift (W : Nat) (z : Int) (f : Nat → Int) (i : Nat) : ∀ k, pkf W (fun t => if i ≤ t then z * f (t - i) else 0) (i + k) = z * pw (W * i) * pkf W f k
  | 0 => by
    have h : ∀ j, j < i + 0 → (fun t => if i ≤ t then z * f (t - i) else 0) j = (fun _ => 0) j := fun j hj => by simp; omega
    rw [pkf_congr W _ h, pkf_zero, pkf, Int.mul_zero]
  | k + 1 => by
    rw [← Nat.add_assoc, pkf, pkf_shift W z f i k, pkf]
    simp only [Nat.le_add_right, if_true, Nat.add_sub_cancel_left]
    rw [Nat.mul_add, pw_add, Int.mul_add]
    congr 1
    rw [Int.mul_assoc, Int.mul_assoc, ← Int.mul_assoc (f k), Int.mul_comm (f k), Int.mul_assoc (pw (W * i))]
/-- A product of two such sums. -/
theorem pkf_mul (W : Nat) (zs ys : List Int) (T : Nat) : ∀ i, i + ys.length ≤ T + 1 → pkf W (ps zs ys i) T = pkf W (gx zs) i * pkf W (gx ys) ys.length
  | 0, _ => by
    show pkf W (fun _ => 0) T = _
    rw [pkf_zero, pkf, Int.zero_mul]
  | i + 1, h => by
    have h1 : ∀ j, j < T → ps zs ys (i + 1) j = (fun t => ps zs ys i t + (if i ≤ t then gx zs i * gx ys (t - i) else 0)) j := fun j _ => rfl
    have hT : T = i + (T - i) := by omega
    have hk : pkf W (gx ys) (T - i) = pkf W (gx ys) ys.length := by
      have := pkf_more W (gx ys) ys.length (fun j hj => gx_past ys _ (Nat.le_refl _) j hj) (T - i - ys.length)
      rwa [show ys.length + (T - i - ys.length) = T - i by omega] at this
    have hs := pkf_shift W (gx zs i) (gx ys) i (T - i)
    rw [← hT, hk] at hs
    rw [pkf_congr W T h1, pkf_add, pkf_mul W zs ys T i (by omega), hs, pkf, Int.add_mul]
/-- What is left from entry i on, k entries. -/
def tlf (W : Nat) (d : Nat → Int) : Nat → Nat → Int
  | 0, _ => 0
  | k + 1, i => d i + pw W * tlf W d k (i + 1)
theorem tlf_pkf (W : Nat) (d : Nat → Int) : ∀ k i, pkf W d i + pw (W * i) * tlf W d k i = pkf W d (i + k)
  | 0, i => by simp [tlf]
  | k + 1, i => by
    have h := tlf_pkf W d k (i + 1)
    rw [show i + (k + 1) = i + 1 + k by omega, ← h, tlf, pkf, Nat.mul_add, Nat.mul_one, pw_add, Int.mul_add]
    have e : pw (W * i) * d i = d i * pw (W * i) := Int.mul_comm _ _
    have e2 : pw (W * i) * (pw W * tlf W d k (i + 1)) = pw (W * i) * pw W * tlf W d k (i + 1) := (Int.mul_assoc _ _ _).symm
    omega
theorem tlf_all (W : Nat) (d : Nat → Int) (n : Nat) : tlf W d n 0 = pkf W d n := by
  have := tlf_pkf W d n 0
  rw [Nat.zero_add, Nat.mul_zero, pw_zero, Int.one_mul, pkf, Int.zero_add] at this
  exact this
/-- A digit with its sign. -/
theorem digit_step {Q c d R X : Int} (hc : c = 0 ∨ c = 1) (hX : 0 < X) (h : Q + c = d + X * R) (hd : 2 * (d.natAbs : Int) < X) :
    (X ≤ 2 * (Q % X + c) → Q % X + c - X = d ∧ Q / X + 1 = R) ∧ (¬ X ≤ 2 * (Q % X + c) → Q % X + c = d ∧ Q / X = R) := by
  have h1 := Int.mul_ediv_add_emod Q X
  have h2 := Int.emod_nonneg Q (show X ≠ 0 by omega)
  have h3 := Int.emod_lt_of_pos Q hX
  have hk : Q % X + c = d + X * (R - Q / X) := by rw [Int.mul_sub]; omega
  obtain ⟨k, hkk⟩ : ∃ k, k = R - Q / X := ⟨_, rfl⟩
  rw [← hkk] at hk
  have k0 : 0 ≤ k := by
    rcases Int.lt_or_le k 0 with hn | hn
    · have := Int.mul_le_mul_of_nonneg_left (show k ≤ -1 by omega) (Int.le_of_lt hX)
      omega
    · exact hn
  have k1 : k ≤ 1 := by
    rcases Int.lt_or_le 1 k with hn | hn
    · have := Int.mul_le_mul_of_nonneg_left (show 2 ≤ k by omega) (Int.le_of_lt hX)
      omega
    · exact hn
  rcases (show k = 0 ∨ k = 1 by omega) with e | e
  · rw [e, Int.mul_zero] at hk
    exact ⟨fun h => by omega, fun h => ⟨by omega, by omega⟩⟩
  · rw [e, Int.mul_one] at hk
    exact ⟨fun h => ⟨by omega, by omega⟩, fun h => by omega⟩
/-- The digits of a list of limbs. -/
theorem val_digit {L : List Int} (h : U32 L) (k W : Nat) : val ((L.drop k).take W) = (val L / pw k) % pw W := by
  rcases Nat.lt_or_ge L.length k with hk | hk
  · have e : L.drop k = [] := List.drop_eq_nil_of_le (by omega)
    have h1 := val_lt h
    have h2 := val_nonneg h
    have h3 := pw_mono (Nat.le_of_lt hk)
    rw [e, List.take_nil, Int.ediv_eq_zero_of_lt h2 (by omega)]
    simp [val]
  · have e := val_drop_take L k hk
    have hl : (L.take k).length = k := by simp; omega
    have h1 := val_lt (u32_take h k)
    have h2 := val_nonneg (u32_take h k)
    rw [hl] at h1
    have e1 : val L / pw k = val (L.drop k) := by
      rw [e, Int.add_mul_ediv_left _ _ (by have := pw_pos k; omega), Int.ediv_eq_zero_of_lt h2 h1, Int.zero_add]
    rw [e1]
    have hD := u32_drop h k
    generalize L.drop k = D at *
    rcases Nat.lt_or_ge D.length W with hw | hw
    · rw [List.take_of_length_le (by omega), Int.emod_eq_of_lt (val_nonneg hD)]
      have := val_lt hD
      have := pw_mono (Nat.le_of_lt hw)
      omega
    · have e2 := val_drop_take D W hw
      have hl2 : (D.take W).length = W := by simp; omega
      have h3 := val_lt (u32_take hD W)
      rw [hl2] at h3
      rw [e2, Int.add_mul_emod_self_left, Int.emod_eq_of_lt (val_nonneg (u32_take hD W)) h3]
theorem pw_div (A : Int) (i W : Nat) : A / pw (W * (i + 1)) = A / pw (W * i) / pw W := by
  rw [Nat.mul_add, Nat.mul_one, pw_add, Int.ediv_ediv_of_nonneg (Int.le_of_lt (pw_pos _))]
theorem pw_twoP (W : Nat) : pw W = 2 ^ (32 * W) := by
  unfold pw
  rw [Int.pow_mul]
  rfl
/-- How many bits a number has, against half of a power. -/
theorem zb_half {c : Int} {W : Nat} (h0 : 0 ≤ c) (hW : 1 ≤ W) : 32 * W ≤ zb c ↔ pw W ≤ 2 * c := by
  obtain ⟨a, b, d⟩ := zb_ib c
  have e : (c.natAbs : Int) = c := by omega
  rw [e] at b d
  rw [pw_twoP, show 32 * W = 32 * W - 1 + 1 by omega, Int.pow_succ]
  constructor
  · intro h
    rcases d with d | d
    · omega
    · have := p2_mono (show 32 * W - 1 ≤ zb c - 1 by omega)
      omega
  · intro h
    rcases Nat.lt_or_ge (zb c) (32 * W - 1 + 1) with h1 | h1
    · have := p2_mono (show zb c ≤ 32 * W - 1 by omega)
      omega
    · omega
end Go.Proofs.YtneejidiefkgkaaGreatDoor
/-
  ashlarref1.Eq, where both are the same.
-/
namespace Go.Proofs.YtneejidiefkgkaaGreatDoor
open Go.RowKit
set_option linter.unusedVariables false
set_option linter.unusedSimpArgs false

set_option maxHeartbeats 1000000 in
/-- ashlarref1.Eq: the same. -/
theorem rEq_same (s : Bool) (p q : Option Addr) (n nc mc : Nat) (xs : List Int) (w : World) (hA : AI w p n nc xs) (hB : AI w q n mc xs) :
    Calls Tryz.prog 70 #[.agg #[.bool s, .slice p n nc], .agg #[.bool s, .slice q n mc]] w fun e w' => e = .returned (.bool true) ∧ Below w.heap.size w w' := by
  have hl := hA.len
  have hsm := hA.sml
  have hss : (s != s) = false := by cases s <;> rfl
  have hnn : ((n : Int) != (n : Int)) = false := by simp
  go_enter Tryz.func70, Tryz.ntmps70
  go_wp2
  have hX := boxes2 w (.bool s) (.slice p n nc) (.bool s) (.slice q n mc) 47 47
  generalize ((w.alloc (Obj.cells #[Value.bool s, Value.slice p n nc] 47)).alloc (Obj.cells #[Value.bool s, Value.slice q n mc] 47)) = W at *
  go_loopw [5] (fun iv wr => ∃ k : Nat, k ≤ n ∧ iv = .int .i64 k ∧ Hid (Below W.heap.size W wr)) (fun iv _ => n - (intOf iv).toNat)
  case atStart => exact ⟨0, Nat.zero_le _, rfl, Below.refl _ _⟩
  case round =>
    obtain ⟨k, hk, rfl, H⟩ := hrel
    have hXr := hX.later H.out
    have k1 := hXr.ca1
    have k3 := hXr.cb1
    by_cases hlt : k < n
    · have hltI : (k : Int) < (n : Int) := by omega
      obtain ⟨b1, o1, rfl, hc1⟩ := ((hA.below hX.below).rd.below H.out) (by omega)
      obtain ⟨b2, o2, rfl, hc2⟩ := ((hB.below hX.below).rd.below H.out) (by omega)
      have g1 := hc1 k (by omega)
      have g2 := hc2 k (by omega)
      have hq : (gx xs k != gx xs k) = false := by simp
      clear hc1 hc2 hXr
      go_wp2
      go_quiet (fail)
      go_wp2
      refine ⟨⟨k + 1, by omega, by go_num, below_drewN H.out nq⟩, by simp [intOf]; omega⟩
    · have hltI : ¬ (k : Int) < (n : Int) := by omega
      go_wp2
      go_ret
      exact ⟨rfl, hX.below.trans (H.out.mono hX.below.size)⟩

/-- ashlarref1.Eq of two answers with the same number. -/
theorem rEq_ni {B1 B2 : Nat} {w : World} {s t : Bool} {p q : Option Addr} {n m : Nat} {xs ys : List Int} {z : Int} (h : NI B1 w s p n xs z) (k : NI B2 w t q m ys z) (hn : n ≤ 1000) :
    Calls Tryz.prog 70 #[.agg #[.bool s, .slice p n n], .agg #[.bool t, .slice q m m]] w fun e w' => e = .returned (.bool true) ∧ Below w.heap.size w w' := by
  obtain ⟨rfl, rfl⟩ := nn_same h.nn k.nn
  obtain rfl : n = m := h.len.symm.trans k.len
  exact rEq_same s p q n n n xs w (h.ai (by omega)) (k.ai (by omega))
end Go.Proofs.YtneejidiefkgkaaGreatDoor
/-
  Small rules for digits.
-/
namespace Go.Proofs.YtneejidiefkgkaaGreatDoor
open Go.RowKit
set_option linter.unusedVariables false
set_option linter.unusedSimpArgs false

theorem info_int : (Tryz.prog.info? 3).map (fun i => (i.zero, i.size, i.bytes)) = some (some (.int .i64 0), 1, 8) := by kernel_rfl
theorem spl_snoc (xs : List Int) (k : Nat) (h : k < xs.length) : spl (xs.take (k + 1)) = spl (xs.take k) ++ [gx xs k % 65536, gx xs k / 65536] := by
  rw [take_snoc xs k h, spl_append]; rfl

theorem bel_alw {W x : World} {o : Obj} (h : Below W.heap.size W x) : Below W.heap.size W (x.alloc o) := h.alloc h.size o

end Go.Proofs.YtneejidiefkgkaaGreatDoor
/-
  ashlarref1.To.
-/
namespace Go.Proofs.YtneejidiefkgkaaGreatDoor
open Go.RowKit
set_option linter.unusedVariables false
set_option linter.unusedSimpArgs false

set_option maxRecDepth 100000 in
set_option maxHeartbeats 2000000 in
/-- ashlarref1.To. -/
theorem rTo_anyF (s : Bool) (p : Option Addr) (n nc : Nat) (ds : List Int) (w : World) (hl : ds.length = n) (hs : n ≤ 1000) (hX : Rd w p .i64 ds) (hU : U16 ds) :
    Calls Tryz.prog 27 #[.agg #[.bool s, .slice p n nc]] w fun e w' => ∃ p' m cap, e = .returned (.agg #[.bool s, .slice p' m cap]) ∧ AI w' p' m cap (jn ds m) ∧ Hid (m = (n + 1) / 2) ∧ Go.Proofs.YtneejidiefkgkaaGreatDoor.From w.heap.size p' ∧ Below w.heap.size w w' := by
  obtain ⟨i0, hi, hzz⟩ := Option.map_eq_some_iff.1 info_u32
  simp only [Prod.mk.injEq] at hzz
  obtain ⟨hz0, hz1, hz2⟩ := hzz
  have HI : Hid (Tryz.prog.info? 78 = some i0 ∧ i0.zero = some (.int .u32 0) ∧ i0.size = 1 ∧ i0.bytes = 4) := ⟨hi, hz0, hz1, hz2⟩
  clear hi hz0 hz1 hz2
  go_enter Tryz.func27, Tryz.ntmps27
  go_wp2
  have hb1 : Bx ((w.alloc (.cells #[.bool s, .slice p n nc] 50)).alloc (.cells #[.bool false, .slice none 0 0] 47)) w.heap.size (.bool s) (.slice p n nc) := (Bx.new _ _ _ rfl).alloc _
  have hb2 : Bx ((w.alloc (.cells #[.bool s, .slice p n nc] 50)).alloc (.cells #[.bool false, .slice none 0 0] 47)) (w.heap.size + 1) (.bool false) (.slice none 0 0) := Bx.new _ _ _ (World.size_alloc ..).symm
  have hbw : Below w.heap.size w ((w.alloc (.cells #[.bool s, .slice p n nc] 50)).alloc (.cells #[.bool false, .slice none 0 0] 47)) := ((Below.refl _ _).alloc (Nat.le_refl _) _).alloc (by simp) _
  have hsz : ((w.alloc (.cells #[.bool s, .slice p n nc] 50)).alloc (.cells #[.bool false, .slice none 0 0] 47)).heap.size = w.heap.size + 1 + 1 := by simp
  generalize ((w.alloc (.cells #[.bool s, .slice p n nc] 50)).alloc (.cells #[.bool false, .slice none 0 0] 47)) = W at *
  have HS : Hid (W.heap.size = w.heap.size + 1 + 1) := hsz
  clear hsz
  have hXW := hX.below hbw
  go_loopw [3, 4, 5] (fun lv iv nv wr => ∃ (k : Nat), 2 * k ≤ n + 1 ∧ iv = .int .i64 ((2 * k : Nat) : Int) ∧ Hid (wr.ownsRow W.heap.size 78 1 lv k ((jn ds k).map (Value.int .u32)) ∧ Below W.heap.size W wr)) (fun _ iv _ _ => n + 2 - (intOf iv).toNat)
  case atStart => exact ⟨0, by omega, rfl, World.ownsRow_nil _ _ _ _, Below.refl _ _⟩
  case round =>
    obtain ⟨k, hk, rfl, H⟩ := hrel
    have hBr := H.out.2
    have hb1r := hb1.later hBr
    have hb2r := hb2.later hBr
    have k0 := hb1r.c0
    have k1 := hb1r.c1
    by_cases hlt : 2 * k < n
    · obtain ⟨b, off, rfl, hcell⟩ := (hXW.below hBr) (by omega)
      have hck := hcell (2 * k) (by omega)
      have hltI : 2 * (k : Int) < (n : Int) := by omega
      obtain ⟨x0, x1⟩ := hU (2 * k)
      obtain ⟨y0, y1⟩ := hU (2 * k + 1)
      obtain ⟨hi, hz0, hz1, hz2⟩ := HI.out
      have HO : Hid (wr.ownsRow W.heap.size 78 1 u3 k ((jn ds k).map (Value.int .u32))) := H.out.1
      by_cases hlt2 : 2 * k + 1 < n
      · have hck2 := hcell (2 * k + 1) (by omega)
        have hlt2I : 2 * (k : Int) + 1 < (n : Int) := by omega
        clear hcell
        go_wp2_with (refine wpList_append_lies _ rfl _ _ 45 rfl W.heap.size 78 i0 (.int .u32 0) 1 4 Tryz.underlying45 hi hz0 hz1 hz2 rfl (by decide) u3 k ((jn ds k).map (Value.int .u32)) rfl (HO.out.alloc _) ⟨wr.heap.size, 0, none⟩ 1 1 [.int .u32 (gx ds (2 * k) + gx ds (2 * k + 1) * 65536)] rfl rfl ?_ (fun x hx => by simp at hx; subst hx; rfl) (by decide) (by unfold maxLen; omega) (by omega) (by have := hBr.size; simp; omega) _ rfl ?_; exact World.news_of_block (heap_alloc_new wr _); intro g cap w3 hown3 hgrow3 hat3 hlt3; have hB3 : Below W.heap.size W w3 := (bel_alw hBr).grown hgrow3 (by have := hBr.size; simp; omega) (fun q hq => (HO.out.lt q hq).1))
        refine ⟨⟨k + 1, by omega, by go_num, ?_, hB3⟩, by simp [intOf]; omega⟩
        rw [jn_succ, List.map_append, Int.mul_comm 65536]
        exact hown3
      · have hlt2I : ¬ 2 * (k : Int) + 1 < (n : Int) := by omega
        clear hcell
        go_wp2_with (refine wpList_append_lies _ rfl _ _ 45 rfl W.heap.size 78 i0 (.int .u32 0) 1 4 Tryz.underlying45 hi hz0 hz1 hz2 rfl (by decide) u3 k ((jn ds k).map (Value.int .u32)) rfl (HO.out.alloc _) ⟨wr.heap.size, 0, none⟩ 1 1 [.int .u32 (gx ds (2 * k))] rfl rfl ?_ (fun x hx => by simp at hx; subst hx; rfl) (by decide) (by unfold maxLen; omega) (by omega) (by have := hBr.size; simp; omega) _ rfl ?_; exact World.news_of_block (heap_alloc_new wr _); intro g cap w3 hown3 hgrow3 hat3 hlt3; have hB3 : Below W.heap.size W w3 := (bel_alw hBr).grown hgrow3 (by have := hBr.size; simp; omega) (fun q hq => (HO.out.lt q hq).1))
        have hg0 : gx ds (2 * k + 1) = 0 := gx_past ds n (by omega) _ (by omega)
        refine ⟨⟨k + 1, by omega, by go_num, ?_, hB3⟩, by simp [intOf]; omega⟩
        rw [jn_succ, List.map_append, hg0, Int.mul_zero, Int.add_zero]
        exact hown3
    · have hltI : ¬ 2 * (k : Int) < (n : Int) := by omega
      have c0 := hb2r.c0
      have c1 := hb2r.c1
      have f0 := hb2r.f0
      have f1 := hb2r.f1
      have hform : ∃ q cap, u3 = .slice q k cap ∧ k ≤ cap ∧ cap ≤ maxLen ∧ Rd wr q .u32 (jn ds k) ∧ Go.Proofs.YtneejidiefkgkaaGreatDoor.From W.heap.size q := by
        have hown := H.out.1
        rcases hown.2 with ⟨h1, h2⟩ | ⟨g, cap, cur, h1, hbg, _, h4, h5, _⟩
        · refine ⟨none, 0, by rw [h1, h2], by omega, Nat.zero_le _, ?_, from_none⟩
          have : jn ds k = [] := List.eq_nil_of_length_eq_zero (by rw [length_jn]; omega)
          rw [this]; exact Rd.nil
        · subst h1
          exact ⟨_, cap, rfl, h4, h5, rd_owns hown, from_new hbg⟩
      obtain ⟨q, cap, rfl, hq1, hq2, hq3, hq4⟩ := hform
      go_wp2
      have hsW := HS.out
      refine bodyPost_ret (v := .agg #[.bool s, .slice q k cap]) (by simp [results, Tryz.results27, go_sem, c0, c1]) rfl ?_
      refine ⟨q, k, cap, rfl, ⟨length_jn _ _, hq1, hq2, by omega, ?_, u32_jn hU k⟩, show k = (n + 1) / 2 by omega, fun a ha => by have := hq4 a ha; omega, ?_⟩
      · exact (hq3.set_other _ _ (fun a ha => by have := hq4 a ha; simp; omega)).set_other _ _ (fun a ha => by have := hq4 a ha; simp; omega)
      · exact ((hbw.trans (hBr.mono hbw.size)).setCell (by simp) _).setCell (by simp) _

theorem rTo_any (s : Bool) (p : Option Addr) (n nc : Nat) (ds : List Int) (w : World) (hl : ds.length = n) (hs : n ≤ 1000) (hX : Rd w p .i64 ds) (hU : U16 ds) :
    Calls Tryz.prog 27 #[.agg #[.bool s, .slice p n nc]] w fun e w' => ∃ p' m cap, e = .returned (.agg #[.bool s, .slice p' m cap]) ∧ AI w' p' m cap (jn ds m) ∧ Hid (m = (n + 1) / 2) ∧ Below w.heap.size w w' := by
  refine (rTo_anyF s p n nc ds w hl hs hX hU).mono ?_
  rintro e w' ⟨p', m, cap, h1, h2, h3, -, h5⟩
  exact ⟨p', m, cap, h1, h2, h3, h5⟩
/-- ashlarref1.Eq of an answer and of a number in normal form, both of the same number. -/
theorem rEq_nn {B1 : Nat} {w : World} {s t : Bool} {p q : Option Addr} {n m mc : Nat} {xs ys : List Int} {z : Int} (h : NI B1 w s p n xs z) (hA : AI w q m mc ys) (k : NN t ys z) (hn : n ≤ 1000) :
    Calls Tryz.prog 70 #[.agg #[.bool s, .slice p n n], .agg #[.bool t, .slice q m mc]] w fun e w' => e = .returned (.bool true) ∧ Below w.heap.size w w' := by
  obtain ⟨rfl, rfl⟩ := nn_same h.nn k
  obtain rfl : n = m := h.len.symm.trans hA.len
  exact rEq_same s p q n n mc xs w (h.ai (by omega)) hA

end Go.Proofs.YtneejidiefkgkaaGreatDoor
