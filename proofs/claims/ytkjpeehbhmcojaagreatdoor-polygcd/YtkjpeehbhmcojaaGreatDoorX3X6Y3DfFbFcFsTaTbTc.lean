/-
  upoly: the divisor's walk: nearest, divides of any two.
-/
import Derived.Test.YtkjpeehbhmcojaaGreatDoorX8X9Y1Y2X2
import Derived.Test.YtkjpeehbhmcojaaGreatDoorFx
import Derived.Test.YtkjpeehbhmcojaaGreatDoorInU0X0X1Y0X4
import Derived.Test.YtkjpeehbhmcojaaGreatDoorUyUzUr
import Derived.Test.YtkjpeehbhmcojaaGreatDoorKnKmKoKqNtNuNvNkT1Fk
import Derived.Test.YtkjpeehbhmcojaaGreatDoorUoDmVtAfBpBnBoAhAdBsDtAgWvUhAiRzVd
import Derived.Test.YtkjpeehbhmcojaaGreatDoorVkJoNcDpAaEpGiGjFwBwGkVpVzCcGlPyHfCaHwDgHxCbNgNsPqPrPsPtPuPvPwPxKa
import Derived.Deep.DeepFit
import Derived.Test.YtkjpeehbhmcojaaGreatDoorAbDnDoAcReRxRfRhCqRrRwVa
import Derived.Test.YtkjpeehbhmcojaaGreatDoorFyDdDvPmHuVyFpCdDeGaGbKp
namespace Go.Proofs.YtkjpeehbhmcojaaGreatDoor
open Go.RowKit
set_option linter.unusedVariables false
set_option linter.unusedSimpArgs false
set_option maxHeartbeats 8000000
def nea (m : Nat) (r : Nat) : Int := if m / 2 < r then (r : Int) - (m : Int) else (r : Int)
theorem nearest_any (m r : Nat) (w : World) (hm : m ≤ 2147483647) (hr : r < m) :
    Calls Tryz.prog 122 #[.int .u64 m, .int .u64 r] w fun e w' => e = .returned (.int .i64 (nea m r)) ∧ w = w' := by
  have t : (m : Int).tdiv 2 = ((m / 2 : Nat) : Int) := by rw [Int.tdiv_eq_ediv_of_nonneg (by omega)]; omega
  have v0 : IntKind.u64.wrap ((m / 2 : Nat) : Int) = ((m / 2 : Nat) : Int) := by rw [IntKind.wrap_u64]; omega
  have v1 : IntKind.i64.wrap (r : Int) = (r : Int) := by rw [IntKind.wrap_i64]; omega
  have v2 : IntKind.i64.wrap (m : Int) = (m : Int) := by rw [IntKind.wrap_i64]; omega
  have v3 : IntKind.i64.wrap ((r : Int) - (m : Int)) = (r : Int) - (m : Int) := by rw [IntKind.wrap_i64]; omega
  by_cases h : m / 2 < r
  · have c : ((m / 2 : Nat) : Int) < (r : Int) := by omega
    have HE : Hid (nea m r = (r : Int) - (m : Int)) := by show _ = _; rw [nea, if_pos h]
    go_enter Tryz.func122, Tryz.ntmps122
    go_wp2
    go_ret
    exact ⟨by rw [HE.out]; rfl, rfl⟩
  · have c : ¬ ((m / 2 : Nat) : Int) < (r : Int) := by omega
    have HE : Hid (nea m r = (r : Int)) := by show _ = _; rw [nea, if_neg h]
    go_enter Tryz.func122, Tryz.ntmps122
    go_wp2
    go_ret
    exact ⟨by rw [HE.out]; rfl, rfl⟩
theorem divides_any {w : World} {B C K L : Nat} {p q : Option Addr} {n m k : Nat} {es fs : List Ent} {zs ys : List Int} {cs : Nat → Int} {F : Nat → Nat → Int} (h : PB B w K p n es zs) (hb : PB C w L q (m + 1) fs ys) (hnk : n = m + k) (hk1 : 1 ≤ k) (hn : n ≤ 1000) (hK : K < 80) (hL : L < 80)
    (M : Nat) (hM : M < 80) (hD : DQ zs ys cs F n m k M (k + pb zs + Lib.bitLen n)) :
    Calls Tryz.prog 82 #[.slice q (m + 1 : Nat) (m + 1 : Nat), .slice p n n] w fun r w' => ∃ b : Bool, r = .returned (.bool b) ∧ Hid (b = true ↔ GD F cs (gx ys m) m k (k + pb zs + Lib.bitLen n)) ∧ Below w.heap.size w w' := by
  have he := exact_any h hb hnk hk1 hn hK hL M hM hD
  obtain ⟨Q, hQ⟩ : ∃ Q, Q = XqP F cs (gx ys m) m k M (k + pb zs + Lib.bitLen n) w := ⟨_, rfl⟩
  rw [← hQ] at he
  have HQ := (show Hid _ from hQ)
  obtain ⟨m1, hm1⟩ : ∃ m1, m1 = m + 1 := ⟨_, rfl⟩
  rw [← hm1] at he ⊢
  clear hm1 hQ hb hD h hnk hn hK hL hM
  go_enter Tryz.func82, Tryz.ntmps82
  go_wp2_with fail
  refine he.mono ?_
  intro r w1 hr
  rw [HQ.out] at hr
  obtain ⟨h1, hb1⟩ := hr
  clear he
  rcases h1 with ⟨u, us, rfl, -, -, -, -, hg⟩ | ⟨rfl, hg⟩
  · have HG := (show Hid _ from hg)
    clear hg
    go_wp2
    go_ret
    exact ⟨true, rfl, ⟨fun _ => HG.out, fun _ => rfl⟩, hb1⟩
  · have HG := (show Hid _ from hg)
    clear hg
    go_wp2
    go_ret
    refine ⟨false, rfl, ⟨fun h9 => Bool.noConfusion h9, fun h9 => ?_⟩, hb1⟩
    exact absurd h9 HG.out
end Go.Proofs.YtkjpeehbhmcojaaGreatDoor
namespace Go.Proofs.YtkjpeehbhmcojaaGreatDoor.Cr
open Go.Proofs.YtkjpeehbhmcojaaGreatDoor
set_option linter.unusedVariables false
set_option linter.unusedSimpArgs false
def lack (m : Nat) (M e r : Int) : Int := ((r - e % (m : Int)) % (m : Int)) * ((M % (m : Int)) ^ (m - 2) % (m : Int)) % (m : Int)
def nxt (m : Nat) (M e r : Int) : Int := e + M * nea m (lack m M e r).toNat
theorem lack_bd {m : Nat} (hm : 0 < m) (M e r : Int) : 0 ≤ lack m M e r ∧ lack m M e r < m :=
  ⟨Int.emod_nonneg _ (by omega), Int.emod_lt_of_pos _ (by omega)⟩
theorem dvd_sub_emod (m x : Int) : m ∣ x - x % m := by
  rw [Int.emod_def]
  exact ⟨x / m, by omega⟩
theorem dvd_nea (m r : Nat) : (m : Int) ∣ nea m r - (r : Int) := by
  unfold nea
  split
  · exact ⟨-1, by rw [Int.mul_neg, Int.mul_one]; omega⟩
  · rw [Int.sub_self]; exact Int.dvd_zero _
theorem nea_bd {m r : Nat} (h : r < m) (ho : m % 2 = 1) : 2 * nea m r < m ∧ -(m : Int) < 2 * nea m r := by
  unfold nea
  split <;> omega
theorem lack_mul {m : Nat} (hp : Gs.Pri (m : Int)) {M : Int} (hM : ¬ (m : Int) ∣ M) (e r : Int) : (m : Int) ∣ M * lack m M e r - (r - e) := by
  have hf := Cp.fermat hp (a := M % (m : Int)) (fun h => hM (Int.dvd_of_emod_eq_zero (by have := Int.emod_eq_zero_of_dvd h; rwa [Int.emod_emod] at this)))
  obtain ⟨a, ha⟩ := dvd_sub_emod (m : Int) M
  obtain ⟨b, hb⟩ := dvd_sub_emod (m : Int) e
  unfold lack
  generalize (M % (m : Int)) ^ (m - 2) % (m : Int) = i at *
  obtain ⟨c, hc⟩ := dvd_sub_emod (m : Int) ((M % (m : Int)) * i)
  rw [hf] at hc
  obtain ⟨d, hd⟩ := dvd_sub_emod (m : Int) (r - e % (m : Int))
  obtain ⟨f, hf2⟩ := dvd_sub_emod (m : Int) (((r - e % (m : Int)) % (m : Int)) * i)
  generalize (r - e % (m : Int)) % (m : Int) = x at *
  generalize x * i % (m : Int) = y at *
  generalize M % (m : Int) = N at *
  generalize e % (m : Int) = E at *
  have e1 : M = N + m * a := by omega
  have e2 : y = x * i - m * f := by omega
  have e3 : N * i = 1 + m * c := by omega
  have e4 : r - e = x + m * d - m * b := by omega
  refine ⟨x * c - N * f + a * (x * i - m * f) - d + b, ?_⟩
  rw [e4, e1, e2, Int.add_mul, Int.mul_sub N, show N * (x * i) = x * (N * i) from by rw [Int.mul_left_comm], e3]
  simp only [Int.mul_add, Int.mul_sub, Int.mul_one, Int.mul_assoc]
  have t1 : x * ((m : Int) * c) = m * (x * c) := by rw [Int.mul_left_comm]
  have t2 : N * ((m : Int) * f) = m * (N * f) := by rw [Int.mul_left_comm]
  rw [t1, t2]
  omega
theorem nxt_new {m : Nat} (hp : Gs.Pri (m : Int)) {M : Int} (hM : ¬ (m : Int) ∣ M) (e r : Int) : (m : Int) ∣ nxt m M e r - r := by
  have h0 : 0 < m := by have := hp.1; simp at this; omega
  have hb := lack_bd h0 M e r
  have h1 := lack_mul hp hM e r
  have h2 := dvd_nea m (lack m M e r).toNat
  have e0 : (((lack m M e r).toNat : Nat) : Int) = lack m M e r := by omega
  rw [e0] at h2
  unfold nxt
  obtain ⟨u, hu⟩ := h1
  obtain ⟨v, hv⟩ := h2
  generalize nea m (lack m M e r).toNat = k at *
  generalize lack m M e r = l at *
  have e1 : k = l + m * v := by omega
  refine ⟨u + M * v, ?_⟩
  rw [e1, Int.mul_add, Int.mul_add, Int.mul_left_comm M]
  omega
theorem nxt_old (m : Nat) (M e r : Int) : M ∣ nxt m M e r - e := ⟨nea m (lack m M e r).toNat, by unfold nxt; omega⟩
theorem nxt_same {m : Nat} {M e r : Int} (h : lack m M e r = 0) : nxt m M e r = e := by
  unfold nxt
  rw [h]
  have : nea m (0 : Int).toNat = 0 := by unfold nea; simp
  rw [this, Int.mul_zero, Int.add_zero]
theorem nxt_bd {m : Nat} (h0 : 0 < m) (ho : m % 2 = 1) {M e : Int} (r : Int) (hM : 0 < M) (h : 2 * e < M ∧ -M < 2 * e) : 2 * nxt m M e r < M * m ∧ -(M * m) < 2 * nxt m M e r := by
  have hb := lack_bd h0 M e r
  obtain ⟨h1, h2⟩ := nea_bd (m := m) (r := (lack m M e r).toNat) (by omega) ho
  unfold nxt
  generalize nea m (lack m M e r).toNat = k at *
  have h3 : M * (2 * k) ≤ M * ((m : Int) - 1) := Int.mul_le_mul_of_nonneg_left (by omega) (by omega)
  have h4 : M * (-((m : Int) - 1)) ≤ M * (2 * k) := Int.mul_le_mul_of_nonneg_left (by omega) (by omega)
  rw [Int.mul_sub, Int.mul_one] at h3
  rw [Int.mul_neg, Int.mul_sub, Int.mul_one] at h4
  have e1 : M * (2 * k) = 2 * (M * k) := by rw [Int.mul_left_comm]
  rw [e1] at h3 h4
  generalize M * k = z at *
  generalize M * (m : Int) = y at *
  omega
theorem near_one {M x y : Int} (hx : 2 * x < M ∧ -M < 2 * x) (hy : 2 * y < M ∧ -M < 2 * y) (h : M ∣ x - y) : x = y := by
  obtain ⟨k, hk⟩ := h
  rcases Int.lt_trichotomy k 0 with h1 | h1 | h1
  · have := Int.mul_le_mul_of_nonneg_left (show k ≤ -1 by omega) (show 0 ≤ M by omega)
    rw [Int.mul_neg, Int.mul_one] at this
    omega
  · rw [h1, Int.mul_zero] at hk; omega
  · have := Int.mul_le_mul_of_nonneg_left (show 1 ≤ k by omega) (show 0 ≤ M by omega)
    rw [Int.mul_one] at this
    omega
end Go.Proofs.YtkjpeehbhmcojaaGreatDoor.Cr
namespace Go.Proofs.YtkjpeehbhmcojaaGreatDoor.Md
open Go.Proofs.YtkjpeehbhmcojaaGreatDoor
set_option linter.unusedVariables false
set_option linter.unusedSimpArgs false
theorem scaled_good {p u lead : Int} {G d : Nat → Int} {g : Nat} (h : ∀ t, p ∣ G t - G g * d t) (hl : lead = G g * u) (t : Nat) : p ∣ lead * d t - u * G t := by
  obtain ⟨x, hx⟩ := h t
  refine ⟨-(u * x), ?_⟩
  rw [hl, Int.mul_neg, Int.mul_left_comm, ← hx, Int.mul_sub, Int.mul_right_comm, Int.mul_comm (G g * d t) u]
  omega
theorem image_is {l : List Nat} {e x : Int} (hn : l.Nodup) (hp : ∀ p ∈ l, Gs.Pri (p : Int)) (h : ∀ p ∈ l, (p : Int) ∣ e - x)
    (he : 2 * e < (Cp.prodL l : Nat) ∧ -((Cp.prodL l : Nat) : Int) < 2 * e) (hx : 2 * x < (Cp.prodL l : Nat) ∧ -((Cp.prodL l : Nat) : Int) < 2 * x) : e = x :=
  Cr.near_one he hx (Cp.prodL_dvd l hn hp h)
structure Img (l : List Nat) (x : Nat → Int) (e : Nat → Int) (n : Nat) : Prop where
  nd : l.Nodup
  pri : ∀ p ∈ l, Gs.Pri (p : Int)
  odd : ∀ p ∈ l, p % 2 = 1
  near : ∀ t, t < n → 2 * e t < (Cp.prodL l : Nat) ∧ -((Cp.prodL l : Nat) : Int) < 2 * e t
  same : ∀ t, t < n → ∀ p ∈ l, (p : Int) ∣ e t - x t
theorem prodL_pos : ∀ l : List Nat, (∀ p ∈ l, Gs.Pri (p : Int)) → 0 < Cp.prodL l
  | [], _ => Nat.one_pos
  | p :: l, h => by
    rw [Cp.prodL]
    have h1 := (h p (List.mem_cons_self ..)).1
    exact Nat.mul_pos (by simp at h1; omega) (prodL_pos l fun q hq => h q (List.mem_cons_of_mem _ hq))
theorem Img.take {l : List Nat} {x e : Nat → Int} {n : Nat} (h : Img l x e n) {m : Nat} (hp : Gs.Pri (m : Int)) (ho : m % 2 = 1) (hm : m ∉ l) {r : Nat → Int} (hr : ∀ t, t < n → (m : Int) ∣ r t - x t) :
    Img (m :: l) x (fun t => Cr.nxt m (Cp.prodL l : Nat) (e t) (r t)) n := by
  have hM : ¬ (m : Int) ∣ ((Cp.prodL l : Nat) : Int) := fun hd => by
    obtain ⟨q, h1, h2⟩ := Cp.pri_prodL hp l hd
    rw [Cp.pri_same hp (h.pri q h1) h2] at hm
    exact hm h1
  have hM0 := prodL_pos l h.pri
  have hm0 : 0 < m := by have := hp.1; simp at this; omega
  refine ⟨List.nodup_cons.2 ⟨hm, h.nd⟩, fun p hp' => ?_, fun p hp' => ?_, fun t ht => ?_, fun t ht p hp' => ?_⟩
  · rcases List.mem_cons.1 hp' with rfl | h1
    · exact hp
    · exact h.pri p h1
  · rcases List.mem_cons.1 hp' with rfl | h1
    · exact ho
    · exact h.odd p h1
  · have := Cr.nxt_bd hm0 ho (r t) (show (0 : Int) < ((Cp.prodL l : Nat) : Int) by omega) (h.near t ht)
    rw [Cp.prodL, Int.natCast_mul, Int.mul_comm (m : Int)]
    exact this
  · rcases List.mem_cons.1 hp' with rfl | h1
    · have h2 := Int.dvd_add (Cr.nxt_new hp hM (e t) (r t)) (hr t ht)
      refine cast (congrArg _ ?_) h2
      show _ = Cr.nxt p (Cp.prodL l : Nat) (e t) (r t) - x t
      omega
    · have h2 := Int.dvd_add (Int.dvd_trans (Int.natCast_dvd_natCast.2 (Cp.dvd_prodL l p h1)) (Cr.nxt_old m (Cp.prodL l : Nat) (e t) (r t))) (h.same t ht p h1)
      refine cast (congrArg _ ?_) h2
      show _ = Cr.nxt m (Cp.prodL l : Nat) (e t) (r t) - x t
      omega
theorem Img.is {l : List Nat} {x e : Nat → Int} {n : Nat} (h : Img l x e n) {t : Nat} (ht : t < n) (hx : 2 * x t < (Cp.prodL l : Nat) ∧ -((Cp.prodL l : Nat) : Int) < 2 * x t) : e t = x t :=
  image_is h.nd h.pri (h.same t ht) (h.near t ht) hx
end Go.Proofs.YtkjpeehbhmcojaaGreatDoor.Md
namespace Go.Proofs.YtkjpeehbhmcojaaGreatDoor
open Go.RowKit
set_option linter.unusedVariables false
set_option linter.unusedSimpArgs false
theorem term_lt {a b : Int} {i j : Nat} (h : (a.natAbs : Int) < pw i) (k : (b.natAbs : Int) < pw j) : ((a * b).natAbs : Int) < pw (i + j) := by
  rw [Int.natAbs_mul, pw_add]
  push_cast
  have h1 := pw_pos i
  have h2 := pw_pos j
  have h3 : (a.natAbs : Int) * (b.natAbs : Int) ≤ (a.natAbs : Int) * pw j := Int.mul_le_mul_of_nonneg_left (by omega) (by omega)
  have h4 : (a.natAbs : Int) * pw j < pw i * pw j := Int.mul_lt_mul_of_pos_right h h2
  omega
def dG (zs ys : List Int) (m k : Nat) : Nat → Nat → Int
  | 0, t => gx zs t
  | r + 1, t => dG zs ys m k r t - (if k - (r + 1) ≤ t then dG zs ys m k r (m + (k - (r + 1))) / gx ys m * gx ys (t - (k - (r + 1))) else 0)
def dF (zs ys : List Int) (m k i t : Nat) : Int := dG zs ys m k (k - i) t
def dC (zs ys : List Int) (m k s : Nat) : Int := dF zs ys m k (s + 1) (m + s) / gx ys m
section
variable {zs ys : List Int} {m k : Nat}
theorem df_top (t : Nat) : dF zs ys m k k t = gx zs t := by rw [dF, Nat.sub_self, dG]
theorem df_step (s : Nat) (hs : s < k) (t : Nat) : dF zs ys m k s t = dF zs ys m k (s + 1) t - (if s ≤ t then dC zs ys m k s * gx ys (t - s) else 0) := by
  rw [dC, dF, dF, dF]
  obtain ⟨r, hr⟩ : ∃ r, k - s = r + 1 := ⟨k - s - 1, by omega⟩
  rw [hr, show k - (s + 1) = r by omega, dG, show k - (r + 1) = s by omega]
theorem cvf_high {Q : Nat → Int} (hl : ys.length ≤ m + 1) (s : Nat) : ∀ i, i ≤ s → cvf Q ys i (m + s) = 0
  | 0, _ => rfl
  | i + 1, h => by
    rw [cvf, cvf_high hl s i (by omega), if_pos (by omega), gx_past ys (m + 1) hl _ (by omega), Int.mul_zero, Int.add_zero]
theorem dv_digits {Q : Nat → Int} (hl : ys.length ≤ m + 1) (hy : gx ys m ≠ 0) (h : ∀ t, gx zs t = cvf Q ys k t) : ∀ r, r ≤ k → (∀ t, dF zs ys m k (k - r) t = cvf Q ys (k - r) t) ∧ ∀ s, k - r ≤ s → s < k → dC zs ys m k s = Q s
  | 0, _ => ⟨fun t => by rw [Nat.sub_zero, df_top, h], fun s h1 h2 => by omega⟩
  | r + 1, hr => by
    obtain ⟨h1, h2⟩ := dv_digits hl hy h r (by omega)
    obtain ⟨s, hs⟩ : ∃ s, k - r = s + 1 := ⟨k - r - 1, by omega⟩
    have hs' : k - (r + 1) = s := by omega
    rw [hs] at h1 h2
    have h3 : dC zs ys m k s = Q s := by
      rw [dC, h1, cvf, cvf_high hl s s (Nat.le_refl _), if_pos (by omega), Nat.add_sub_cancel, Int.zero_add, Int.mul_ediv_cancel _ hy]
    rw [hs']
    refine ⟨fun t => ?_, fun s' h4 h5 => ?_⟩
    · rw [df_step s (by omega), h1, h3, cvf]
      split <;> omega
    · rcases Nat.lt_or_ge s s' with h6 | h6
      · exact h2 s' h6 h5
      · obtain rfl : s' = s := by omega
        exact h3
theorem dv_all {Q : Nat → Int} (hl : ys.length ≤ m + 1) (hy : gx ys m ≠ 0) (h : ∀ t, gx zs t = cvf Q ys k t) : (∀ i, i ≤ k → ∀ t, dF zs ys m k i t = cvf Q ys i t) ∧ ∀ s, s < k → dC zs ys m k s = Q s := by
  refine ⟨fun i hi t => ?_, fun s hs => (dv_digits hl hy h k (Nat.le_refl _)).2 s (by omega) hs⟩
  have := (dv_digits hl hy h (k - i) (by omega)).1 t
  rwa [show k - (k - i) = i by omega] at this
theorem df_high (hz : zs.length ≤ m + k) (hl : ys.length ≤ m + 1) (hx : ∀ s, s < k → dF zs ys m k (s + 1) (m + s) % gx ys m = 0) : ∀ r, r ≤ k → ∀ t, m + (k - r) ≤ t → dF zs ys m k (k - r) t = 0
  | 0, _, t, ht => by rw [Nat.sub_zero, df_top, gx_past zs (m + k) hz t (by omega)]
  | r + 1, hr, t, ht => by
    obtain ⟨s, hs⟩ : ∃ s, k - r = s + 1 := ⟨k - r - 1, by omega⟩
    have hs' : k - (r + 1) = s := by omega
    have ih := df_high hz hl hx r (by omega)
    rw [hs] at ih
    rw [hs'] at ht ⊢
    rw [df_step s (by omega), if_pos (by omega)]
    rcases Nat.lt_or_ge (m + s) t with h | h
    · rw [ih t (by omega), gx_past ys (m + 1) hl _ (by omega)]; simp
    · obtain rfl : t = m + s := by omega
      have h1 := Int.emod_add_mul_ediv (dF zs ys m k (s + 1) (m + s)) (gx ys m)
      rw [hx s (by omega), Int.zero_add] at h1
      rw [dC, Nat.add_sub_cancel]
      generalize dF zs ys m k (s + 1) (m + s) = x at *
      rw [Int.mul_comm] at h1
      omega
theorem df_sum (t : Nat) : ∀ i, i ≤ k → dF zs ys m k i t = dF zs ys m k 0 t + cvf (dC zs ys m k) ys i t
  | 0, _ => by rw [cvf, Int.add_zero]
  | i + 1, h => by
    have h1 := df_sum t i (by omega)
    rw [df_step i (by omega)] at h1
    rw [cvf]
    split at h1
    · rename_i h2; rw [if_pos h2]; omega
    · rename_i h2; rw [if_neg h2]; omega
theorem dv_of_gd {most : Nat} (hz : zs.length ≤ m + k) (hl : ys.length ≤ m + 1) (h : GD (dF zs ys m k) (dC zs ys m k) (gx ys m) m k most) (t : Nat) : gx zs t = cvf (dC zs ys m k) ys k t := by
  have h1 := df_sum (zs := zs) (ys := ys) (m := m) t k (Nat.le_refl _)
  rw [df_top] at h1
  have h2 : dF zs ys m k 0 t = 0 := by
    rcases Nat.lt_or_ge t m with h3 | h3
    · exact h.2 t h3
    · have := df_high hz hl (fun s hs => (h.1 s hs).1) k (Nat.le_refl _) t (by omega)
      rwa [Nat.sub_self] at this
  omega
theorem gd_of_dv {Q : Nat → Int} {most : Nat} (hl : ys.length ≤ m + 1) (hy : gx ys m ≠ 0) (h : ∀ t, gx zs t = cvf Q ys k t) (hb : ∀ s, s < k → zb (Q s) ≤ most) : GD (dF zs ys m k) (dC zs ys m k) (gx ys m) m k most := by
  obtain ⟨h1, h2⟩ := dv_all hl hy h
  refine ⟨fun s hs => ⟨?_, by rw [h2 s hs]; exact hb s hs⟩, fun t _ => by rw [h1 0 (Nat.zero_le _) t]; rfl⟩
  rw [h1 (s + 1) hs, cvf, cvf_high hl s s (Nat.le_refl _), if_pos (by omega), Nat.add_sub_cancel, Int.zero_add, Int.mul_emod_left]
end
theorem sm_rev (f : Nat → Int) : ∀ n, Fk.sm f (n + 1) = Fk.sm (fun i => f (n - i)) (n + 1)
  | 0 => rfl
  | n + 1 => by
    have h1 : Fk.sm (fun i => f (n + 1 - i)) (1 + (n + 1)) = Fk.sm (fun i => f (n - i)) (n + 1) + f (n + 1) := by
      have e : ∀ i, i < 1 + (n + 1) → f (n + 1 - i) = (if i = 0 then f (n + 1) else 0) + (if 1 ≤ i then (fun j => f (n - j)) (i - 1) else 0) := fun i hi => by
        cases i with
        | zero => simp
        | succ i => simp
      have e3 : Fk.sm (fun i => if 1 ≤ i then (fun j => f (n - j)) (i - 1) else 0) (1 + (n + 1)) = Fk.sm (fun j => f (n - j)) (n + 1) := Fk.sm_shift0 (fun j => f (n - j)) 1 (n + 1)
      rw [Fk.sm_congr _ e, Fk.sm_add, e3]
      have e2 : Fk.sm (fun i => if i = 0 then f (n + 1) else 0) (1 + (n + 1)) = f (n + 1) := by
        rw [Fk.sm_more 1 (n + 1) (fun i h1 _ => by rw [if_neg (by omega)])]
        simp [Fk.sm]
      rw [e2, Int.add_comm]
    rw [Fk.sm, sm_rev f n, ← h1, Nat.add_comm 1]
theorem cvf_sm (Q : Nat → Int) (b : List Int) (t : Nat) : ∀ n, cvf Q b n t = Fk.sm (fun i => if i ≤ t then Q i * gx b (t - i) else 0) n
  | 0 => rfl
  | n + 1 => by rw [cvf, cvf_sm Q b t n, Fk.sm]
theorem sm_upto (f : Nat → Int) (t n : Nat) (h : ∀ i, n ≤ i → i ≤ t → f i = 0) : Fk.sm (fun i => if i ≤ t then f i else 0) n = Fk.sm f (t + 1) := by
  have h1 : Fk.sm (fun i => if i ≤ t then f i else 0) (n + (t + 1)) = Fk.sm (fun i => if i ≤ t then f i else 0) n := Fk.sm_more n (t + 1) (fun i h1 _ => by
    show (if i ≤ t then f i else 0) = 0
    split
    · exact h i h1 (by assumption)
    · rfl)
  have h2 : Fk.sm (fun i => if i ≤ t then f i else 0) (t + 1 + n) = Fk.sm (fun i => if i ≤ t then f i else 0) (t + 1) := Fk.sm_more (t + 1) n (fun i h1 _ => by rw [if_neg (by omega)])
  rw [← h1, Nat.add_comm, h2]
  exact Fk.sm_congr _ (fun i hi => by rw [if_pos (by omega)])
theorem pr_cvf {ys : List Int} {m k : Nat} {Q : Nat → Int} (hl : ys.length ≤ m + 1) (hQ : ∀ i, k ≤ i → Q i = 0) (t : Nat) : Fk.pr (gx ys) Q m t = cvf Q ys k t := by
  have h1 : Fk.pr (gx ys) Q m t = Fk.sm (fun i => if i ≤ t then gx ys i * Q (t - i) else 0) (m + 1) := by
    rw [Fk.pr]
    refine Fk.sm_congr _ (fun i _ => ?_)
    rw [Fk.qk]
    split
    · rfl
    · rw [Int.mul_zero]
  rw [h1, sm_upto (fun i => gx ys i * Q (t - i)) t (m + 1) (fun i h2 _ => by show gx ys i * Q (t - i) = 0; rw [gx_past ys (m + 1) hl i h2, Int.zero_mul]), cvf_sm, sm_upto (fun i => Q i * gx ys (t - i)) t k (fun i h2 _ => by show Q i * gx ys (t - i) = 0; rw [hQ i h2, Int.zero_mul]), sm_rev]
  refine Fk.sm_congr _ (fun i hi => ?_)
  show gx ys (t - i) * Q (t - (t - i)) = Q i * gx ys (t - i)
  rw [show t - (t - i) = i by omega, Int.mul_comm]
theorem quo_bits {zs ys : List Int} {m k n : Nat} {Q : Nat → Int} (hk : 1 ≤ k) (hk13 : k ≤ 13) (hm12 : m ≤ 12) (hn : n = m + k) (hzl : zs.length ≤ n) (hl : ys.length ≤ m + 1) (hy : gx ys m ≠ 0) (hQ : ∀ i, k ≤ i → Q i = 0) (h : ∀ t, gx zs t = cvf Q ys k t) (s : Nat) (hs : s < k) : zb (Q s) ≤ k + pb zs + Lib.bitLen n := by
  have hbl := bitLen_bd (x := (n : Int)) (by omega) (by omega)
  rw [Int.toNat_natCast] at hbl
  have hA : ∀ t, ((gx zs t).natAbs : Int) < 2 ^ pb zs := fun t => by
    rcases Nat.lt_or_ge t zs.length with h1 | h1
    · exact Int.lt_of_lt_of_le (zb_ib (gx zs t)).2.1 (p2_mono (zb_pb zs t h1))
    · rw [gx_past zs zs.length (Nat.le_refl _) t h1]
      exact Int.pow_pos (by decide)
  have hp : (0 : Int) < 2 ^ pb zs := Int.pow_pos (by decide)
  have hfb := Fk.factor_bd (b := gx ys) (q := Q) (d := k - 1) (e := m) (c := Lib.bitLen n) (A := 2 ^ pb zs - 1) (by omega) (by omega) (fun j hj => hQ j (by omega)) hy (by omega) (fun t _ => by
    rw [pr_cvf hl hQ t, ← h t]
    have := hA t
    omega) (by rw [show k - 1 + m + 1 = n by omega]; exact hbl.2.2.2.1) s (by omega)
  refine zb_le_of (Int.lt_of_le_of_lt hfb ?_)
  have hc : (0 : Int) < 2 ^ (k - 1 + 1 + Lib.bitLen n) := Int.pow_pos (by decide)
  have e : (2 : Int) ^ (k + pb zs + Lib.bitLen n) = 2 ^ (k - 1 + 1 + Lib.bitLen n) * 2 ^ pb zs := by
    rw [← Int.pow_add]
    congr 1
    omega
  rw [e]
  exact Int.mul_lt_mul_of_pos_left (by omega) hc
theorem zb_lt {z : Int} {b Q : Nat} (h : zb z ≤ b) (hQ : b ≤ 32 * Q) : (z.natAbs : Int) < pw Q := by
  have h1 := (zb_ib z).2.1
  have h2 : (2 : Int) ^ zb z ≤ 2 ^ (32 * Q) := p2_mono (by omega)
  have h3 : (2 : Int) ^ (32 * Q) = pw Q := by rw [Int.pow_mul]; rfl
  omega
theorem dq_of {zs ys : List Int} {m k A L Q D most : Nat} (hk : k ≤ 1000) (hz : ∀ t, ((gx zs t).natAbs : Int) < pw A) (hy : ∀ t, ((gx ys t).natAbs : Int) < pw L) (hq : most ≤ 32 * Q) (h1 : A ≤ D) (h2 : Q + L ≤ D) : DQ zs ys (dC zs ys m k) (dF zs ys m k) (m + k) m k (D + 1) most := by
  have hpD := pw_pos D
  refine ⟨fun t _ => df_top t, df_step, fun s _ => rfl, fun i hi hs t => ?_, fun i _ hi => Int.lt_of_lt_of_le (zb_lt hi hq) (pw_mono (by omega))⟩
  have step : ∀ r, r ≤ k - i → ∀ t, ((dF zs ys m k (k - r) t).natAbs : Int) ≤ (r + 1) * pw D := by
    intro r
    induction r with
    | zero =>
      intro _ t
      rw [Nat.sub_zero, df_top]
      have := hz t
      have := pw_mono h1
      simp
      omega
    | succ r ih =>
      intro hr t
      obtain ⟨s, hs'⟩ : ∃ s, k - r = s + 1 := ⟨k - r - 1, by omega⟩
      have ih' := ih (by omega) t
      rw [hs'] at ih'
      rw [show k - (r + 1) = s by omega, df_step s (by omega)]
      have h3 : ((if s ≤ t then dC zs ys m k s * gx ys (t - s) else 0 : Int).natAbs : Int) ≤ pw D := by
        split
        · have h4 := term_lt (zb_lt (hs s (by omega) (by omega)) hq) (hy (t - s))
          have h5 := pw_mono h2
          omega
        · simp; omega
      have e : ((r + 1 : Nat) + 1 : Int) * pw D = (r + 1 : Int) * pw D + pw D := by rw [Int.add_mul, Int.one_mul]; rfl
      rw [e]
      generalize (if s ≤ t then dC zs ys m k s * gx ys (t - s) else 0 : Int) = x at *
      generalize dF zs ys m k (s + 1) t = y at *
      omega
  have h3 := step (k - i) (Nat.le_refl _) t
  rw [show k - (k - i) = i by omega] at h3
  have h4 : (((k - i : Nat) : Int) + 1) * pw D < 4294967296 * pw D := Int.mul_lt_mul_of_pos_right (by omega) hpD
  rw [pw_succ]
  omega
theorem dvd_gd {zs ys : List Int} {m k n : Nat} (hk : 1 ≤ k) (hk13 : k ≤ 13) (hm12 : m ≤ 12) (hn : n = m + k) (hzl : zs.length = n) (hl : ys.length = m + 1) (hy : gx ys m ≠ 0) (hz : gx zs (n - 1) ≠ 0) :
    (GD (dF zs ys m k) (dC zs ys m k) (gx ys m) m k (k + pb zs + Lib.bitLen n) → Dvd zs ys) ∧ (∀ q : List Int, (∀ t, gx zs t = gx (mulp q ys) t) → GD (dF zs ys m k) (dC zs ys m k) (gx ys m) m k (k + pb zs + Lib.bitLen n) ∧ tlen q = k ∧ ∀ s, s < k → dC zs ys m k s = gx q s) := by
  refine ⟨fun h => ?_, fun q hq => ?_⟩
  · have h1 := dv_of_gd (by omega) (by omega) h
    refine ⟨(List.range k).map (dC zs ys m k), fun t => ?_⟩
    have hg : ∀ i, i < k → gx ((List.range k).map (dC zs ys m k)) i = dC zs ys m k i := fun i hi => by rw [gx_mem _ _ (by simpa using hi)]; simp
    have h2 := ps_late ((List.range k).map (dC zs ys m k)) ys t k
    have h3 := ps_more ((List.range k).map (dC zs ys m k)) ys t k (fun i hi => gx_past _ k (by simp) i hi) (t + 1)
    rw [gx_mulp, ← h2, Nat.add_comm (t + 1), h3, ps_cvf, h1 t]
    exact cvf_congr ys t _ (fun i hi => (hg i hi).symm)
  · have htz : tlen zs = n := tlen_eq _ _ (fun j hj => gx_past zs n (by omega) j hj) (.inr hz)
    have hqk : tlen q = k := by
      rcases mult_top hl hy hq with h0 | ⟨a, h1, h2, -⟩
      · omega
      · omega
    have hQ : ∀ i, k ≤ i → gx q i = 0 := fun i hi => tlen_zero q i (by omega)
    have hc : ∀ t, gx zs t = cvf (gx q) ys k t := fun t => by
      have h2 := ps_late q ys t k
      have h3 := ps_more q ys t k hQ (t + 1)
      rw [hq t, gx_mulp, ← h2, Nat.add_comm (t + 1), h3, ps_cvf]
    exact ⟨gd_of_dv (by omega) hy hc (fun s hs => quo_bits hk hk13 hm12 hn (by omega) (by omega) hy hQ hc s hs), hqk, (dv_all (by omega) hy hc).2⟩
def SmPost (n : Nat) (ds : List Int) (m : Int) (w : World) (e : Ending) (w' : World) : Prop :=
  ∃ Q c, e = .returned (.tuple #[.slice (some ⟨w.heap.size, 0, none⟩) n n, .int .i64 c]) ∧ Q.length = n ∧ U16 Q ∧ 0 ≤ c ∧ c < m ∧ vd ds = vd Q * m + c ∧ Row w' w.heap.size 3 .i64 Q ∧ Below w.heap.size w w'
theorem vd_drop_cons (xs : List Int) (i : Nat) (h : i < xs.length) : vd (xs.drop i) = gx xs i + 65536 * vd (xs.drop (i + 1)) := by
  rw [drop_cons xs i h]; rfl
set_option maxRecDepth 100000 in
theorem rsmall_any (p : Option Addr) (n nc : Nat) (ds : List Int) (m : Int) (w : World) (hl : ds.length = n) (hn : n ≤ 1000000) (hX : Rd w p .i64 ds) (hU : U16 ds) (hm0 : 0 < m) (hm1 : m < 65536) :
    Calls Tryz.prog 112 #[.slice p n nc, .int .i64 m] w (SmPost n ds m w) := by
  have hmk := mk_int n (by omega)
  have HL : Hid (ds.length = n) := hl
  clear hl
  have hrow := Row.new w 3 .i64 (zeros n)
  have hbel : Below w.heap.size w (w.alloc (.cells (ca .i64 (zeros n)) 3)) := (Below.refl _ _).alloc (Nat.le_refl _) _
  have HB : Hid (Row (w.alloc (.cells (ca .i64 (zeros n)) 3)) w.heap.size 3 .i64 (zeros n) ∧ Below w.heap.size w (w.alloc (.cells (ca .i64 (zeros n)) 3))) := ⟨hrow, hbel⟩
  clear hrow hbel
  have hmz : (m == 0) = false := beq_eq_false_iff_ne.2 (by omega)
  go_enter Tryz.func112, Tryz.ntmps112
  go_wp2
  generalize w.alloc (.cells (ca .i64 (zeros n)) 3) = W at *
  go_loopw [7, 8] (fun cv iv wr => ∃ (t : Nat) (c : Int) (Q : List Int), t ≤ n ∧ iv = .int .i64 ((t : Int) - 1) ∧ cv = .int .i64 c ∧ 0 ≤ c ∧ c < m ∧ Hid (Q.length = n ∧ U16 Q ∧ vd (ds.drop t) = vd (Q.drop t) * m + c ∧ Row wr w.heap.size 3 .i64 Q ∧ Below w.heap.size w wr)) (fun _ iv _ => (intOf iv + 1).toNat)
  case atStart => exact ⟨n, 0, zeros n, Nat.le_refl _, by go_num, rfl, by decide, hm0, length_zeros n, u16_zeros n, by rw [List.drop_of_length_le (by have := HL.out; omega), List.drop_of_length_le (by rw [length_zeros]; omega)]; simp [vd], HB.out.1, HB.out.2⟩
  case round =>
    obtain ⟨t, c, Q, ht, rfl, rfl, hc0, hc1, H⟩ := hrel
    by_cases h0 : t = 0
    · subst h0
      go_wp2
      go_ret2
      obtain ⟨h1, h2, h3, h4, h5⟩ := H.out
      rw [List.drop_zero, List.drop_zero] at h3
      exact ⟨Q, c, rfl, h1, h2, hc0, hc1, h3, h4, h5⟩
    · obtain ⟨i, rfl⟩ : ∃ i, t = i + 1 := ⟨t - 1, by omega⟩
      have ei : ((i + 1 : Nat) : Int) - 1 = (i : Int) := by omega
      rw [ei]
      clear ei
      obtain ⟨h1, h2, h3, h4, h5⟩ := H.out
      obtain ⟨b, off, rfl, hcell⟩ := (hX.below h5) (by have := HL.out; omega)
      have g1 := hcell i (by have := HL.out; omega)
      have g2 := h4.cell i (by omega)
      have g3 := h4.frozen i
      obtain ⟨x0, x1⟩ := hU i
      have iI : (i : Int) < (n : Int) := by omega
      have hq0 : 0 ≤ (c * 65536 + gx ds i) / m := Int.ediv_nonneg (by omega) (by omega)
      have hq1 : (c * 65536 + gx ds i) / m < 65536 := Int.ediv_lt_of_lt_mul hm0 (by
        have : (c + 1) * 65536 ≤ m * 65536 := Int.mul_le_mul_of_nonneg_right (by omega) (by decide)
        omega)
      have hr0 := Int.emod_nonneg (c * 65536 + gx ds i) (show m ≠ 0 by omega)
      have hr1 := Int.emod_lt_of_pos (c * 65536 + gx ds i) hm0
      have hrd := Int.emod_add_mul_ediv (c * 65536 + gx ds i) m
      have HR : Hid ((c * 65536 + gx ds i) % m + m * ((c * 65536 + gx ds i) / m) = c * 65536 + gx ds i) := hrd
      have q1 : (c * 65536 + gx ds i).tdiv m = (c * 65536 + gx ds i) / m := Int.tdiv_eq_ediv_of_nonneg (by omega)
      have q2 : (c * 65536 + gx ds i).tmod m = (c * 65536 + gx ds i) % m := Int.tmod_eq_emod_of_nonneg (by omega)
      clear h1 h2 h3 h4 h5 hcell hrd
      go_wp2
      obtain ⟨h1, h2, h3, h4, h5⟩ := H.out
      refine ⟨⟨i, _, Q.set i ((c * 65536 + gx ds i) / m), by omega, rfl, rfl, hr0, hr1, by rw [List.length_set]; exact h1, u16_set h2 _ ⟨hq0, hq1⟩, ?_, h4.set i _, h5.setCell (p := ⟨w.heap.size, i, none⟩) (Nat.le_refl _) _⟩, by simp [intOf]⟩
      rw [vd_drop_cons ds i (by have := HL.out; omega), h3, vd_drop_cons _ i (by rw [List.length_set]; omega), gx_set_eq Q i _ (by omega), List.drop_set_of_lt (by omega), Int.add_mul, Int.mul_assoc]
      have e := HR.out
      have e2 : (c * 65536 + gx ds i) / m * m = m * ((c * 65536 + gx ds i) / m) := Int.mul_comm ..
      rw [e2]
      omega
def TmPost (n : Nat) (V : Int) (w : World) (e : Ending) (w' : World) : Prop :=
  ∃ R, e = .returned (.slice (some ⟨w.heap.size, 0, none⟩) (n + 1) (n + 1)) ∧ R.length = n + 1 ∧ U16 R ∧ vd R = V ∧ Row w' w.heap.size 3 .i64 R ∧ Below w.heap.size w w'
theorem mul_bd17 {v x : Int} (h1 : 0 ≤ v ∧ v < 65536) (h2 : 0 ≤ x ∧ x ≤ 65536) : 0 ≤ v * x ∧ v * x ≤ 4294901760 := by
  refine ⟨Int.mul_nonneg h1.1 h2.1, ?_⟩
  have a1 : v * x ≤ v * 65536 := Int.mul_le_mul_of_nonneg_left (by omega) h1.1
  omega
set_option maxRecDepth 100000 in
theorem rtimes_any (p : Option Addr) (n nc : Nat) (ds : List Int) (m : Int) (w : World) (hl : ds.length = n) (hn : n ≤ 1000000) (hX : Rd w p .i64 ds) (hU : U16 ds) (hm0 : 0 ≤ m) (hm1 : m ≤ 65536) :
    Calls Tryz.prog 113 #[.slice p n nc, .int .i64 m] w (TmPost n (vd ds * m) w) := by
  have hmk := mk_int (n + 1) (by omega)
  have ec : ((n + 1 : Nat) : Int) = (n : Int) + 1 := by omega
  rw [ec] at hmk
  clear ec
  have HL : Hid (ds.length = n) := hl
  clear hl
  have hrow := Row.new w 3 .i64 (zeros (n + 1))
  have hbel : Below w.heap.size w (w.alloc (.cells (ca .i64 (zeros (n + 1))) 3)) := (Below.refl _ _).alloc (Nat.le_refl _) _
  have HB : Hid (Row (w.alloc (.cells (ca .i64 (zeros (n + 1))) 3)) w.heap.size 3 .i64 (zeros (n + 1)) ∧ Below w.heap.size w (w.alloc (.cells (ca .i64 (zeros (n + 1))) 3))) := ⟨hrow, hbel⟩
  clear hrow hbel
  go_enter Tryz.func113, Tryz.ntmps113
  go_wp2
  generalize w.alloc (.cells (ca .i64 (zeros (n + 1))) 3) = W at *
  go_loopw [6, 7] (fun cv iv wr => ∃ (k : Nat) (c : Int) (R : List Int), k ≤ n ∧ iv = .int .i64 k ∧ cv = .int .i64 c ∧ 0 ≤ c ∧ c < 65536 ∧ Hid (R.length = n + 1 ∧ U16 R ∧ (∀ j, k ≤ j → gx R j = 0) ∧ vd (R.take k) + pd k * c = vd (ds.take k) * m ∧ Row wr w.heap.size 3 .i64 R ∧ Below w.heap.size w wr)) (fun _ iv _ => (n - intOf iv).toNat)
  case atStart => exact ⟨0, 0, zeros (n + 1), Nat.zero_le _, by go_num, rfl, by decide, by decide, length_zeros _, u16_zeros _, fun j _ => gx_zeros _ j, by simp [vd], HB.out.1, HB.out.2⟩
  case round =>
    obtain ⟨k, c, R, hk, rfl, rfl, hc0, hc1, H⟩ := hrel
    by_cases hkn : k < n
    · obtain ⟨h1, h2, h3, h4, h5, h6⟩ := H.out
      obtain ⟨b, off, rfl, hcell⟩ := (hX.below h6) (by have := HL.out; omega)
      have g1 := hcell k (by have := HL.out; omega)
      have g2 := h5.cell k (by omega)
      have g3 := h5.frozen k
      have hb := mul_bd17 (hU k) ⟨hm0, hm1⟩
      have hkI : (k : Int) < (n : Int) := by omega
      have hkI2 : (k : Int) < (n : Int) + 1 := by omega
      have q1 : (c + gx ds k * m).tmod 65536 = (c + gx ds k * m) % 65536 := Int.tmod_eq_emod_of_nonneg (by omega)
      have q2 : (c + gx ds k * m).tdiv 65536 = (c + gx ds k * m) / 65536 := Int.tdiv_eq_ediv_of_nonneg (by omega)
      clear h1 h2 h3 h4 h5 h6 hcell
      go_wp2
      obtain ⟨h1, h2, h3, h4, h5, h6⟩ := H.out
      refine ⟨⟨k + 1, _, R.set k ((c + gx ds k * m) % 65536), by omega, by go_num, rfl, by omega, by omega, by rw [List.length_set]; exact h1, u16_set h2 _ (by omega), fun j hj => ?_, ?_, h5.set k _, h6.setCell (p := ⟨w.heap.size, k, none⟩) (Nat.le_refl _) _⟩, by simp [intOf]; omega⟩
      · rw [gx_set_ne R _ _ _ (by omega)]; exact h3 j (by omega)
      · rw [vd_take_succ _ k, vd_take_succ ds k, gx_set_eq R k _ (by omega), List.take_set_of_le (Nat.le_refl _), pd_succ, Int.add_mul, ← h4, Int.mul_assoc (pd k)]
        have e1 := cut16 (pd k) (c + gx ds k * m)
        rw [Int.mul_add] at e1
        omega
    · obtain rfl : k = n := by omega
      obtain ⟨h1, h2, h3, h4, h5, h6⟩ := H.out
      have g2 := h5.cell k (by omega)
      have g3 := h5.frozen k
      have hkI2 : (k : Int) < (k : Int) + 1 := by omega
      clear h1 h2 h3 h4 h5 h6
      go_wp2
      go_ret
      obtain ⟨h1, h2, h3, h4, h5, h6⟩ := H.out
      refine ⟨R.set k c, rfl, by rw [List.length_set]; exact h1, u16_set h2 _ ⟨hc0, hc1⟩, ?_, h5.set k _, h6.setCell (p := ⟨w.heap.size, k, none⟩) (Nat.le_refl _) _⟩
      rw [List.take_of_length_le (l := ds) (by have := HL.out; omega)] at h4
      have e := vd_take_succ (R.set k c) k
      rw [List.take_of_length_le (by rw [List.length_set]; omega), List.take_set_of_le (Nat.le_refl _), gx_set_eq R k c (by omega)] at e
      rw [e, h4]
theorem vd_drop_next (xs : List Int) (i : Nat) : vd (xs.drop i) = gx xs i + 65536 * vd (xs.drop (i + 1)) := by
  by_cases h : i < xs.length
  · exact vd_drop_cons xs i h
  · rw [List.drop_of_length_le (by omega), List.drop_of_length_le (by omega), gx_past xs i (by omega) i (Nat.le_refl _)]; rfl
theorem vd_cut (xs : List Int) (i : Nat) : vd xs = vd (xs.take i) + pd i * vd (xs.drop i) := by
  by_cases h : i ≤ xs.length
  · exact vd_drop_take xs i h
  · rw [List.take_of_length_le (by omega), List.drop_of_length_le (by omega)]; simp [vd]
theorem guess_ge {Uk v top low vt vl P Q : Int} (hP : 0 < P) (h1 : Uk = top * P + low) (h3 : low < P) (h4 : v = vt * P + vl) (h5 : 0 ≤ vl) (h6 : 0 < vt) (hQ : 0 ≤ Q) (h : Q * v ≤ Uk) : Q ≤ top / vt := by
  apply (Int.le_ediv_iff_mul_le h6).2
  have e : Q * v = (Q * vt) * P + Q * vl := by rw [h4, Int.mul_add, Int.mul_assoc]
  have h7 := Int.mul_nonneg hQ h5
  have h8 : (Q * vt) * P < (top + 1) * P := by rw [Int.add_mul, Int.one_mul]; omega
  have h9 := Int.lt_of_mul_lt_mul_right h8 (Int.le_of_lt hP)
  omega
theorem top_two (us : List Int) (k n : Nat) (hn : 1 ≤ n) (hz : vd (us.drop (k + n + 1)) = 0) : vd (us.drop k) = (gx us (k + n) * 65536 + gx us (k + n - 1)) * pd (n - 1) + vd ((us.drop k).take (n - 1)) := by
  rw [vd_cut (us.drop k) (n - 1), List.drop_drop, show k + (n - 1) = k + n - 1 by omega, vd_drop_next us (k + n - 1), show k + n - 1 + 1 = k + n by omega, vd_drop_next us (k + n), hz, Int.mul_comm (pd (n - 1))]
  have : gx us (k + n - 1) + 65536 * (gx us (k + n) + 65536 * 0) = gx us (k + n) * 65536 + gx us (k + n - 1) := by omega
  rw [this]
  omega
theorem drop_zero_of {us : List Int} (h : U16 us) {k n : Nat} {v : Int} (h1 : vd (us.drop k) < v) (h2 : v ≤ pd n) : vd (us.drop (k + n)) = 0 := by
  have e := vd_cut (us.drop k) n
  rw [List.drop_drop] at e
  have h3 := vd_nonneg (u16_take (u16_drop h k) n)
  have h4 := vd_nonneg (u16_drop h (k + n))
  rcases (show vd (us.drop (k + n)) = 0 ∨ 1 ≤ vd (us.drop (k + n)) by omega) with h5 | h5
  · exact h5
  · have : pd n * 1 ≤ pd n * vd (us.drop (k + n)) := Int.mul_le_mul_of_nonneg_left h5 (Int.le_of_lt (pd_pos n))
    omega
theorem quo_mul {x y : Int} (hy : 0 < y) : x / y * y ≤ x ∧ x < (x / y + 1) * y := by
  have h1 := Int.emod_add_mul_ediv x y
  have h2 := Int.emod_nonneg x (show y ≠ 0 by omega)
  have h3 := Int.emod_lt_of_pos x hy
  rw [Int.mul_comm y] at h1
  rw [Int.add_mul, Int.one_mul]
  constructor <;> omega
end Go.Proofs.YtkjpeehbhmcojaaGreatDoor
