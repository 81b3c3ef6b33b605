/-
  upoly.product by rows, Mul of small polynomials.
-/
import Derived.Test.YtgecfnoecmjacaaGreatDoorUl
import Derived.Test.YtgecfnoecmjacaaGreatDoorUaPn
namespace Go.Proofs.YtgecfnoecmjacaaGreatDoor
open Go.RowKit
set_option linter.unusedVariables false
set_option linter.unusedSimpArgs false

/-- The product's entries. -/
def mulz (zs ys : List Int) : List Int := (List.range (zs.length + ys.length - 1)).map (ps zs ys zs.length)
theorem length_mulz (zs ys : List Int) : (mulz zs ys).length = zs.length + ys.length - 1 := by simp [mulz]
theorem gx_mulz (zs ys : List Int) (t : Nat) (h : t < zs.length + ys.length - 1) : gx (mulz zs ys) t = ps zs ys zs.length t := by
  rw [gx_mem _ _ (by rw [length_mulz]; exact h)]
  simp [mulz]
theorem ps_far (zs ys : List Int) (t : Nat) : ∀ i, i + ys.length ≤ t + 1 → ps zs ys i t = 0
  | 0, _ => rfl
  | i + 1, h => by
    rw [ps, ps_far zs ys t i (by omega), gx_past ys ys.length (Nat.le_refl _) (t - i) (by omega)]
    simp
theorem mulz_top {zs ys : List Int} (h1 : tlen zs = zs.length) (h2 : tlen ys = ys.length) (hz : 0 < zs.length) (hy : 0 < ys.length) : tlen (mulz zs ys) = zs.length + ys.length - 1 := by
  refine tlen_eq _ _ (fun j hj => gx_past _ _ (by rw [length_mulz]; exact Nat.le_refl _) j hj) (.inr ?_)
  rw [gx_mulz _ _ _ (by omega)]
  obtain ⟨a, ha⟩ : ∃ a, zs.length = a + 1 := ⟨zs.length - 1, by omega⟩
  rw [ha, ps, ps_far _ _ _ _ (by omega), if_pos (by omega)]
  have e1 := tlen_top zs (by omega)
  have e2 := tlen_top ys (by omega)
  rw [h1, ha] at e1
  rw [h2] at e2
  have e3 : a + 1 + ys.length - 1 - 1 - a = ys.length - 1 := by omega
  rw [e3]
  have e4 : a + 1 - 1 = a := by omega
  rw [e4] at e1
  rw [Int.zero_add]
  exact Int.mul_ne_zero e1 e2
set_option maxHeartbeats 4000000 in
set_option maxRecDepth 100000 in
/-- upoly.product, where rows cost less. -/
theorem product_rows {B C : Nat} {w : World} {K L : Nat} {p q : Option Addr} {n m : Nat} {es fs : List Ent} {zs ys : List Int} (h : PB B w K p n es zs) (k : PB C w L q m fs ys) (hn : n ≤ 80) (hm : m ≤ 80) (hn1 : 1 ≤ n) (hm1 : 1 ≤ m) (hK : K < 80) (hL : L < 80) (hd : wd zs ys ≤ 80) (hk : wd zs ys * min n m ≤ 80)
    (hc : sl zs * sl ys + 80 * cnt zs * cnt ys ≤ wd zs ys * n * wd zs ys * m + 160 * (n + m)) :
    Calls Tryz.prog 63 #[.slice p n n, .slice q m m] w (PnP (mulz zs ys) (K + L + 1) w) := by
  have hd1 : 1 ≤ wd zs ys := by unfold wd; omega
  have hcI : (((sl zs * sl ys + 80 * cnt zs * cnt ys : Nat) : Int)) ≤ ((wd zs ys * n * wd zs ys * m + 160 * (n + m) : Nat) : Int) := by omega
  generalize hX : sl zs * sl ys + 80 * cnt zs * cnt ys = X at *
  generalize hY : wd zs ys * n * wd zs ys * m + 160 * (n + m) = Y at *
  have HX := (show Hid _ from hX)
  have HY := (show Hid _ from hY)
  clear hX hY
  have hpa := h.pa (by omega)
  have hqa := k.pa (by omega)
  have g1 : ((n : Int) == 0) = false := by rw [beq_eq_false_iff_ne]; omega
  have g2 : ((m : Int) == 0) = false := by rw [beq_eq_false_iff_ne]; omega
  have g3 : ¬ (n : Int) = 0 := by omega
  have g4 : ¬ (m : Int) = 0 := by omega
  go_enter Tryz.func63, Tryz.ntmps63
  go_wp2_with fail
  refine (digitWidth_any hpa hqa (by omega) (by omega) (by omega) (by omega)).mono ?_
  rintro e w1 ⟨rfl, hb1⟩
  have h1 := rowsCost_any (h.below hb1) (k.below hb1) (by omega) (by omega) (by omega) (by omega)
  rw [HX.out] at h1
  go_wp2_with fail
  refine h1.mono ?_
  rintro e w2 ⟨rfl, hb2⟩
  have h2 := packedCost_small n m (wd zs ys) w2 hn hm hd hd1 hk
  rw [HY.out] at h2
  clear h1
  go_wp2_with fail
  refine h2.mono ?_
  rintro e w3 ⟨rfl, hb3⟩
  have hb := bnext' (bnext' hb1 hb2) hb3
  clear h2
  go_wp2_with fail
  refine (rows_any (hpa.below hb) (hqa.below hb) (by omega) (by omega) hn1 hm1 hK hL).mono ?_
  rintro e w4 ⟨u, us, rfl, r1, r2, r3, r4, hb4⟩
  have hzl := h.zl
  have hyl := k.zl
  have HZ : Hid (tlen zs = n ∧ tlen ys = m) := ⟨h.nrm, k.nrm⟩
  clear hpa hqa
  go_wp2
  go_ret
  have hs := hb.size
  refine ⟨u, n + m - 1, us, rfl, ⟨r1, by rw [length_mulz, hzl, hyl], ?_, r2, fun a ha => Nat.le_trans hs (r3 a ha), fun t ht => ?_⟩, bnext' hb hb4⟩
  · rw [mulz_top (by rw [HZ.out.1, hzl]) (by rw [HZ.out.2, hyl]) (by omega) (by omega), hzl, hyl]
  · rw [gx_mulz _ _ _ (by rw [hzl, hyl]; exact ht), hzl]
    exact (r4 t ht).mono hs
end Go.Proofs.YtgecfnoecmjacaaGreatDoor
/-
  Packing polynomials into numbers (Kronecker): plain.
-/
namespace Go.Proofs.YtgecfnoecmjacaaGreatDoor
open Go.RowKit
set_option linter.unusedVariables false
set_option linter.unusedSimpArgs false

theorem val_midz {A xs : List Int} {o : Nat} (h : o + xs.length ≤ A.length) (hz : ∀ j, o ≤ j → gx A j = 0) : val (mid A o xs) = val A + pw o * val xs := by
  have hl : (A.take o).length = o := by simp; omega
  have z1 : val (A.drop (o + xs.length)) = 0 := val_zeros _ fun j => by rw [gx_drop]; exact hz _ (by omega)
  have z2 : val (A.drop o) = 0 := val_zeros _ fun j => by rw [gx_drop]; exact hz _ (by omega)
  have e := val_drop_take A o (by omega)
  rw [z2, Int.mul_zero, Int.add_zero] at e
  rw [mid, val_append, val_append, z1, hl, e]
  simp
theorem gx_midz {A xs : List Int} {o : Nat} (h : o + xs.length ≤ A.length) (hz : ∀ j, o ≤ j → gx A j = 0) (j : Nat) (hj : o + xs.length ≤ j) : gx (mid A o xs) j = 0 := by
  rw [mid, row_gx A xs o j h hj]
  exact hz j (by omega)
theorem u32_midz {A xs : List Int} {o : Nat} (hA : U32 A) (hx : U32 xs) : U32 (mid A o xs) := u32_append (u32_append (u32_take hA o) hx) (u32_drop hA _)
/-- The sum of the first k entries, each at its place. -/
def pkf (W : Nat) (f : Nat → Int) : Nat → Int
  | 0 => 0
  | k + 1 => pkf W f k + f k * pw (W * k)
theorem pkf_congr (W : Nat) {f g : Nat → Int} : ∀ k, (∀ j, j < k → f j = g j) → pkf W f k = pkf W g k
  | 0, _ => rfl
  | k + 1, h => by rw [pkf, pkf, pkf_congr W k fun j hj => h j (by omega), h k (by omega)]
theorem pkf_zero (W : Nat) : ∀ k, pkf W (fun _ => 0) k = 0
  | 0 => rfl
  | k + 1 => by rw [pkf, pkf_zero W k]; simp
theorem pkf_add (W : Nat) (f g : Nat → Int) : ∀ k, pkf W (fun j => f j + g j) k = pkf W f k + pkf W g k
  | 0 => rfl
  | k + 1 => by
    rw [pkf, pkf, pkf, pkf_add W f g k, Int.add_mul]
    omega
theorem pkf_more (W : Nat) (f : Nat → Int) (k : Nat) (h : ∀ j, k ≤ j → f j = 0) : ∀ m, pkf W f (k + m) = pkf W f k
  | 0 => rfl
  | m + 1 => by rw [← Nat.add_assoc, pkf, pkf_more W f k h m, h (k + m) (by omega)]; simp
theorem pkf_shift (W : Nat) (z : Int) (f : Nat → Int) (i : Nat) : ∀ k, pkf W (fun t => if i ≤ t then z * f (t - i) else 0) (i + k) = z * pw (W * i) * pkf W f k
  | 0 => by
    have h : ∀ j, j < i + 0 → (fun t => if i ≤ t then z * f (t - i) else 0) j = (fun _ => 0) j := fun j hj => by simp; omega
    rw [pkf_congr W _ h, pkf_zero, pkf, Int.mul_zero]
  | k + 1 => by
    rw [← Nat.add_assoc, pkf, pkf_shift W z f i k, pkf]
    simp only [Nat.le_add_right, if_true, Nat.add_sub_cancel_left]
    rw [Nat.mul_add, pw_add, Int.mul_add]
    congr 1
    rw [Int.mul_assoc, Int.mul_assoc, ← Int.mul_assoc (f k), Int.mul_comm (f k), Int.mul_assoc (pw (W * i))]
/-- A product of two such sums. -/
theorem pkf_mul (W : Nat) (zs ys : List Int) (T : Nat) : ∀ i, i + ys.length ≤ T + 1 → pkf W (ps zs ys i) T = pkf W (gx zs) i * pkf W (gx ys) ys.length
  | 0, _ => by
    show pkf W (fun _ => 0) T = _
    rw [pkf_zero, pkf, Int.zero_mul]
  | i + 1, h => by
    have h1 : ∀ j, j < T → ps zs ys (i + 1) j = (fun t => ps zs ys i t + (if i ≤ t then gx zs i * gx ys (t - i) else 0)) j := fun j _ => rfl
    have hT : T = i + (T - i) := by omega
    have hk : pkf W (gx ys) (T - i) = pkf W (gx ys) ys.length := by
      have := pkf_more W (gx ys) ys.length (fun j hj => gx_past ys _ (Nat.le_refl _) j hj) (T - i - ys.length)
      rwa [show ys.length + (T - i - ys.length) = T - i by omega] at this
    have hs := pkf_shift W (gx zs i) (gx ys) i (T - i)
    rw [← hT, hk] at hs
    rw [pkf_congr W T h1, pkf_add, pkf_mul W zs ys T i (by omega), hs, pkf, Int.add_mul]
/-- What is left from entry i on, k entries. -/
def tlf (W : Nat) (d : Nat → Int) : Nat → Nat → Int
  | 0, _ => 0
  | k + 1, i => d i + pw W * tlf W d k (i + 1)
theorem tlf_pkf (W : Nat) (d : Nat → Int) : ∀ k i, pkf W d i + pw (W * i) * tlf W d k i = pkf W d (i + k)
  | 0, i => by simp [tlf]
  | k + 1, i => by
    have h := tlf_pkf W d k (i + 1)
    rw [show i + (k + 1) = i + 1 + k by omega, ← h, tlf, pkf, Nat.mul_add, Nat.mul_one, pw_add, Int.mul_add]
    have e : pw (W * i) * d i = d i * pw (W * i) := Int.mul_comm _ _
    have e2 : pw (W * i) * (pw W * tlf W d k (i + 1)) = pw (W * i) * pw W * tlf W d k (i + 1) := (Int.mul_assoc _ _ _).symm
    omega
theorem tlf_all (W : Nat) (d : Nat → Int) (n : Nat) : tlf W d n 0 = pkf W d n := by
  have := tlf_pkf W d n 0
  rw [Nat.zero_add, Nat.mul_zero, pw_zero, Int.one_mul, pkf, Int.zero_add] at this
  exact this
/-- A digit with its sign. -/
theorem digit_step {Q c d R X : Int} (hc : c = 0 ∨ c = 1) (hX : 0 < X) (h : Q + c = d + X * R) (hd : 2 * (d.natAbs : Int) < X) :
    (X ≤ 2 * (Q % X + c) → Q % X + c - X = d ∧ Q / X + 1 = R) ∧ (¬ X ≤ 2 * (Q % X + c) → Q % X + c = d ∧ Q / X = R) := by
  have h1 := Int.mul_ediv_add_emod Q X
  have h2 := Int.emod_nonneg Q (show X ≠ 0 by omega)
  have h3 := Int.emod_lt_of_pos Q hX
  have hk : Q % X + c = d + X * (R - Q / X) := by rw [Int.mul_sub]; omega
  obtain ⟨k, hkk⟩ : ∃ k, k = R - Q / X := ⟨_, rfl⟩
  rw [← hkk] at hk
  have k0 : 0 ≤ k := by
    rcases Int.lt_or_le k 0 with hn | hn
    · have := Int.mul_le_mul_of_nonneg_left (show k ≤ -1 by omega) (Int.le_of_lt hX)
      omega
    · exact hn
  have k1 : k ≤ 1 := by
    rcases Int.lt_or_le 1 k with hn | hn
    · have := Int.mul_le_mul_of_nonneg_left (show 2 ≤ k by omega) (Int.le_of_lt hX)
      omega
    · exact hn
  rcases (show k = 0 ∨ k = 1 by omega) with e | e
  · rw [e, Int.mul_zero] at hk
    exact ⟨fun h => by omega, fun h => ⟨by omega, by omega⟩⟩
  · rw [e, Int.mul_one] at hk
    exact ⟨fun h => ⟨by omega, by omega⟩, fun h => by omega⟩
/-- The digits of a list of limbs. -/
theorem val_digit {L : List Int} (h : U32 L) (k W : Nat) : val ((L.drop k).take W) = (val L / pw k) % pw W := by
  rcases Nat.lt_or_ge L.length k with hk | hk
  · have e : L.drop k = [] := List.drop_eq_nil_of_le (by omega)
    have h1 := val_lt h
    have h2 := val_nonneg h
    have h3 := pw_mono (Nat.le_of_lt hk)
    rw [e, List.take_nil, Int.ediv_eq_zero_of_lt h2 (by omega)]
    simp [val]
  · have e := val_drop_take L k hk
    have hl : (L.take k).length = k := by simp; omega
    have h1 := val_lt (u32_take h k)
    have h2 := val_nonneg (u32_take h k)
    rw [hl] at h1
    have e1 : val L / pw k = val (L.drop k) := by
      rw [e, Int.add_mul_ediv_left _ _ (by have := pw_pos k; omega), Int.ediv_eq_zero_of_lt h2 h1, Int.zero_add]
    rw [e1]
    have hD := u32_drop h k
    generalize L.drop k = D at *
    rcases Nat.lt_or_ge D.length W with hw | hw
    · rw [List.take_of_length_le (by omega), Int.emod_eq_of_lt (val_nonneg hD)]
      have := val_lt hD
      have := pw_mono (Nat.le_of_lt hw)
      omega
    · have e2 := val_drop_take D W hw
      have hl2 : (D.take W).length = W := by simp; omega
      have h3 := val_lt (u32_take hD W)
      rw [hl2] at h3
      rw [e2, Int.add_mul_emod_self_left, Int.emod_eq_of_lt (val_nonneg (u32_take hD W)) h3]
theorem pw_div (A : Int) (i W : Nat) : A / pw (W * (i + 1)) = A / pw (W * i) / pw W := by
  rw [Nat.mul_add, Nat.mul_one, pw_add, Int.ediv_ediv_of_nonneg (Int.le_of_lt (pw_pos _))]
theorem pw_twoP (W : Nat) : pw W = 2 ^ (32 * W) := by
  unfold pw
  rw [Int.pow_mul]
  rfl
/-- How many bits a number has, against half of a power. -/
theorem zb_half {c : Int} {W : Nat} (h0 : 0 ≤ c) (hW : 1 ≤ W) : 32 * W ≤ zb c ↔ pw W ≤ 2 * c := by
  obtain ⟨a, b, d⟩ := zb_ib c
  have e : (c.natAbs : Int) = c := by omega
  rw [e] at b d
  rw [pw_twoP, show 32 * W = 32 * W - 1 + 1 by omega, Int.pow_succ]
  constructor
  · intro h
    rcases d with d | d
    · omega
    · have := p2_mono (show 32 * W - 1 ≤ zb c - 1 by omega)
      omega
  · intro h
    rcases Nat.lt_or_ge (zb c) (32 * W - 1 + 1) with h1 | h1
    · have := p2_mono (show zb c ≤ 32 * W - 1 by omega)
      omega
    · omega
end Go.Proofs.YtgecfnoecmjacaaGreatDoor
