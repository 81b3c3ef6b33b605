/-
  What begun needs: quotients by one limb.
-/
import Derived.Test.YtcdfckjlmifjiaaGreatWlBxRaWhWm
import Derived.Deep.DeepCutAuto
namespace Go.Proofs.YtcdfckjlmifjiaaGreat
open Go.RowKit
set_option linter.unusedVariables false
set_option linter.unusedSimpArgs false

theorem tr_one {ys : List Int} (hU : U32 ys) (h : tlen ys = 1) : tr ys = [val ys] := by
  have hl := length_tr ys
  rw [h] at hl
  match he : tr ys, hl with
  | [d], _ =>
    have := val_tr ys
    rw [he, val_one] at this
    rw [this]

/-- limbs.Quo by a size of one limb. -/
theorem Quo_one (s t : Bool) (p q : Option Addr) (n nc m mc : Nat) (xs ys : List Int) (w : World) (hA : AI w p n nc xs) (hB : AI w q m mc ys) (h1 : tlen ys = 1) :
    Calls Tryz.prog 101 #[.agg #[.bool s, .slice p n nc], .agg #[.bool t, .slice q m mc]] w (QuoPost w (ival s xs) (ival t ys) n m) := by
  have h0 : val ys ≠ 0 := fun e => by have := (tlen_zero_iff hB.u).2 e; omega
  refine Quo_of s t p q n nc m mc xs ys w hA hB h0 (fun W hA' hB' => ?_)
  rcases Int.lt_or_le (val (tr xs)) (val (tr ys)) with h | h
  · exact quotient_lt p q _ nc _ mc (tr xs) (tr ys) W hA' hB' h
  · have ht := tr_one hB.u h1
    have hp := val_nonneg hB.u
    rw [h1] at hB' ⊢
    rw [ht] at hB' h ⊢
    rw [val_one] at h
    exact quotient_one p q _ nc mc (tr xs) (val ys) W hA' hB' (by omega) h

theorem ival_neg {s : Bool} {xs : List Int} {z : Int} (hU : U32 xs) (h : ival s xs = z) (hz : z < 0) : s = true ∧ val xs = -z := by
  have := val_nonneg hU
  cases s
  · simp only [ival, Bool.false_eq_true, if_false] at h; omega
  · simp only [ival, if_true] at h; exact ⟨rfl, by omega⟩
theorem ival_pos {s : Bool} {xs : List Int} {z : Int} (hU : U32 xs) (h : ival s xs = z) (hz : 0 < z) : s = false ∧ val xs = z := by
  have := val_nonneg hU
  cases s
  · simp only [ival, Bool.false_eq_true, if_false] at h; exact ⟨rfl, h⟩
  · simp only [ival, if_true] at h; omega
theorem tlen_small {xs : List Int} (hU : U32 xs) (h0 : 0 < val xs) (h1 : val xs < 4294967296) : tlen xs = 1 := by
  rcases Nat.lt_trichotomy (tlen xs) 1 with h | h | h
  · have := (tlen_zero_iff hU).1 (by omega); omega
  · exact h
  · have h2 := val_pos_of_top hU (by omega)
    have h3 : pw 1 ≤ pw (tlen xs - 1) := pw_mono (by omega)
    have h4 : pw 1 = 4294967296 := rfl
    omega

end Go.Proofs.YtcdfckjlmifjiaaGreat
/-
  Plain facts on digits to the base 65536 and on numbers in normal form: no program in sight.
-/
namespace Go.Proofs.YtcdfckjlmifjiaaGreat
open Go.RowKit
set_option linter.unusedVariables false
set_option linter.unusedSimpArgs false

/-- Limbs in normal form with a sign, of the number z. -/
structure NN (s : Bool) (xs : List Int) (z : Int) : Prop where
  u : U32 xs
  nrm : tlen xs = xs.length
  sg : xs.length = 0 → s = false
  v : ival s xs = z
theorem NI.nn {B : Nat} {w : World} {s : Bool} {p : Option Addr} {n : Nat} {xs : List Int} {z : Int} (h : NI B w s p n xs z) : NN s xs z := ⟨h.u, by rw [h.nrm, h.len], fun e => h.sg (by rw [← h.len, e]), h.v⟩
theorem tr_self {xs : List Int} (h : tlen xs = xs.length) : tr xs = xs := by rw [tr, h, List.take_length]
theorem nn_same {s t : Bool} {xs ys : List Int} {z : Int} (h : NN s xs z) (k : NN t ys z) : s = t ∧ xs = ys := by
  have key : ∀ {s t : Bool} {xs ys : List Int}, NN s xs z → NN t ys z → val xs = val ys → s = t → s = t ∧ xs = ys := fun h k hv hs => by
    have := tr_eq h.u k.u hv
    rw [tr_self h.nrm, tr_self k.nrm] at this
    exact ⟨hs, this⟩
  have hx := val_nonneg h.u
  have hy := val_nonneg k.u
  have h1 := h.v
  have h2 := k.v
  rcases Int.lt_trichotomy z 0 with hz | hz | hz
  · obtain ⟨a, b⟩ := ival_neg h.u h1 hz
    obtain ⟨c, d⟩ := ival_neg k.u h2 hz
    exact key h k (by rw [b, d]) (by rw [a, c])
  · have e1 : val xs = 0 := by cases s <;> simp [ival] at h1 <;> omega
    have e2 : val ys = 0 := by cases t <;> simp [ival] at h2 <;> omega
    have f1 := h.sg (by rw [← h.nrm]; exact (tlen_zero_iff h.u).2 e1)
    have f2 := k.sg (by rw [← k.nrm]; exact (tlen_zero_iff k.u).2 e2)
    exact key h k (by rw [e1, e2]) (by rw [f1, f2])
  · obtain ⟨a, b⟩ := ival_pos h.u h1 hz
    obtain ⟨c, d⟩ := ival_pos k.u h2 hz
    exact key h k (by rw [b, d]) (by rw [a, c])

/-- The base of digits to the k. -/
def pd (k : Nat) : Int := 65536 ^ k
theorem pd_zero : pd 0 = 1 := rfl
theorem pd_succ (k : Nat) : pd (k + 1) = 65536 * pd k := by unfold pd; rw [Int.pow_succ, Int.mul_comm]
theorem pd_pos (k : Nat) : 0 < pd k := Int.pow_pos (by decide)
theorem pd_add (a b : Nat) : pd (a + b) = pd a * pd b := Int.pow_add ..
theorem pd_mono {a b : Nat} (h : a ≤ b) : pd a ≤ pd b := by
  obtain ⟨c, rfl⟩ := Nat.exists_eq_add_of_le h
  rw [pd_add]
  have h1 := pd_pos a
  have h2 := pd_pos c
  have : pd a * 1 ≤ pd a * pd c := Int.mul_le_mul_of_nonneg_left (by omega) (by omega)
  omega
theorem pd_two (k : Nat) : pd (2 * k) = pw k := by
  induction k with
  | zero => rfl
  | succ k ih => rw [show 2 * (k + 1) = 2 * k + 1 + 1 by omega, pd_succ, pd_succ, pw_succ, ih]; omega
theorem vd_append (a b : List Int) : vd (a ++ b) = vd a + pd a.length * vd b := by
  induction a with
  | nil => simp [vd, pd_zero]
  | cons x r ih =>
    simp only [List.cons_append, vd, List.length_cons, pd_succ, ih, Int.mul_add, Int.mul_assoc]
    omega
theorem vd_one (x : Int) : vd [x] = x := by simp [vd]
theorem vd_take_succ (xs : List Int) (k : Nat) : vd (xs.take (k + 1)) = vd (xs.take k) + pd k * gx xs k := by
  by_cases h : k < xs.length
  · rw [take_snoc xs k h, vd_append, vd_one, List.length_take, Nat.min_eq_left (by omega)]
  · rw [gx_past xs k (by omega) k (Nat.le_refl _), List.take_of_length_le (by omega), List.take_of_length_le (by omega)]; simp
theorem u16_nil : U16 [] := fun j => by rw [gx_nil]; decide
theorem u16_take {xs : List Int} (h : U16 xs) (k : Nat) : U16 (xs.take k) := fun j => by
  by_cases hj : j < k
  · rw [gx_take xs k j hj]; exact h j
  · rw [gx_past (xs.take k) k (by simp; omega) j (by omega)]; decide
theorem u16_drop {xs : List Int} (h : U16 xs) (k : Nat) : U16 (xs.drop k) := fun j => by rw [gx_drop]; exact h _
theorem u16_append {a b : List Int} (ha : U16 a) (hb : U16 b) : U16 (a ++ b) := fun j => by
  by_cases hj : j < a.length
  · rw [gx_append_left a b j hj]; exact ha j
  · rw [gx_append_right a b j (by omega)]; exact hb _
theorem u16_one {x : Int} (h : 0 ≤ x ∧ x < 65536) : U16 [x] := u16_cons h u16_nil
theorem u16_tail {x : Int} {r : List Int} (h : U16 (x :: r)) : (0 ≤ x ∧ x < 65536) ∧ U16 r :=
  ⟨by have := h 0; rwa [gx_zero] at this, fun j => by have := h (j + 1); rwa [gx_succ] at this⟩
theorem vd_nonneg {xs : List Int} (h : U16 xs) : 0 ≤ vd xs := by
  induction xs with
  | nil => simp [vd]
  | cons x r ih => obtain ⟨h1, h2⟩ := u16_tail h; have := ih h2; simp only [vd]; omega
theorem vd_lt {xs : List Int} (h : U16 xs) : vd xs < pd xs.length := by
  induction xs with
  | nil => simp [vd, pd_zero]
  | cons x r ih => obtain ⟨h1, h2⟩ := u16_tail h; have := ih h2; simp only [vd, List.length_cons, pd_succ]; omega
theorem vd_drop_take (xs : List Int) (k : Nat) (h : k ≤ xs.length) : vd xs = vd (xs.take k) + pd k * vd (xs.drop k) := by
  have := vd_append (xs.take k) (xs.drop k)
  rwa [List.take_append_drop, List.length_take, Nat.min_eq_left h] at this
theorem vd_at (a : List Int) (j : Nat) (h : j < a.length) : vd a = vd (a.take j) + pd j * gx a j + pd (j + 1) * vd (a.drop (j + 1)) := by
  rw [vd_drop_take a (j + 1) (by omega), vd_take_succ a j]
/-- The highest digit in which two numbers differ decides. -/
theorem vd_lt_at {a b : List Int} (ha : U16 a) (hb : U16 b) (j : Nat) (h1 : j < a.length) (h2 : j < b.length) (hd : a.drop (j + 1) = b.drop (j + 1)) (h : gx a j < gx b j) : vd a < vd b := by
  rw [vd_at a j h1, vd_at b j h2, hd]
  have l1 := vd_lt (u16_take ha j)
  have l2 := vd_nonneg (u16_take hb j)
  rw [List.length_take, Nat.min_eq_left (by omega)] at l1
  have l3 : pd j * gx a j ≤ pd j * (gx b j - 1) := Int.mul_le_mul_of_nonneg_left (by omega) (Int.le_of_lt (pd_pos j))
  rw [Int.mul_sub, Int.mul_one] at l3
  omega
theorem vd_pos_of_top {xs : List Int} (h : U16 xs) (ht : 0 < tlen xs) : pd (tlen xs - 1) ≤ vd xs := by
  have hl := tlen_le xs
  have ht' := tlen_top xs ht
  have hg := h (tlen xs - 1)
  rw [vd_at xs (tlen xs - 1) (by omega)]
  have h1 := vd_nonneg (u16_take h (tlen xs - 1))
  have h2 := vd_nonneg (u16_drop h (tlen xs - 1 + 1))
  have h3 := pd_pos (tlen xs - 1)
  have h4 : pd (tlen xs - 1) * 1 ≤ pd (tlen xs - 1) * gx xs (tlen xs - 1) := Int.mul_le_mul_of_nonneg_left (by omega) (by omega)
  have h5 := Int.mul_nonneg (Int.le_of_lt (pd_pos (tlen xs - 1 + 1))) h2
  omega
theorem vd_lt_tlen {xs : List Int} (h : U16 xs) : vd xs < pd (tlen xs) := by
  have := vd_lt (u16_tr h)
  rwa [vd_tr, length_tr] at this
theorem tlen_zero_iff16 {xs : List Int} (h : U16 xs) : tlen xs = 0 ↔ vd xs = 0 := by
  constructor
  · intro h0
    rw [← vd_tr, tr, h0]; rfl
  · intro h0
    rcases Nat.eq_zero_or_pos (tlen xs) with ht | ht
    · exact ht
    · have := vd_pos_of_top h ht; have := pd_pos (tlen xs - 1); omega
theorem vd_lt_len {a b : List Int} (ha : U16 a) (hb : U16 b) (h : tlen a < tlen b) : vd a < vd b := by
  have h1 := vd_lt_tlen ha
  have h2 := vd_pos_of_top hb (by omega)
  have h3 : pd (tlen a) ≤ pd (tlen b - 1) := pd_mono (by omega)
  omega

/-- Digits as limbs: so many. -/
def jn (ds : List Int) (n : Nat) : List Int := (List.range n).map fun j => gx ds (2 * j) + 65536 * gx ds (2 * j + 1)
theorem length_jn (ds : List Int) (n : Nat) : (jn ds n).length = n := by simp [jn]
theorem jn_succ (ds : List Int) (n : Nat) : jn ds (n + 1) = jn ds n ++ [gx ds (2 * n) + 65536 * gx ds (2 * n + 1)] := by simp [jn, List.range_succ]
theorem u32_jn {ds : List Int} (h : U16 ds) (n : Nat) : U32 (jn ds n) := by
  induction n with
  | zero => exact u32_nil
  | succ n ih => rw [jn_succ]; exact u32_append ih (u32_one (by have := h (2 * n); have := h (2 * n + 1); omega))
theorem val_jn (ds : List Int) (n : Nat) : val (jn ds n) = vd (ds.take (2 * n)) := by
  induction n with
  | zero => rfl
  | succ n ih =>
    rw [jn_succ, val_append, ih, length_jn, val_one, show 2 * (n + 1) = 2 * n + 1 + 1 by omega, vd_take_succ, vd_take_succ, pd_succ, pd_two, Int.mul_add]
    have : pw n * (65536 * gx ds (2 * n + 1)) = 65536 * pw n * gx ds (2 * n + 1) := by rw [← Int.mul_assoc, Int.mul_comm (pw n) 65536]
    omega
theorem gx_jn (ds : List Int) (n j : Nat) (h : j < n) : gx (jn ds n) j = gx ds (2 * j) + 65536 * gx ds (2 * j + 1) := by
  rw [gx_mem _ _ (by rw [length_jn]; exact h)]; simp [jn]
theorem nn_jn {s : Bool} {ds : List Int} {m : Nat} {z : Int} (hU : U16 ds) (hn : tlen ds = ds.length) (hs : ds.length = 0 → s = false) (hv : rval s ds = z) (hm : m = (ds.length + 1) / 2) : NN s (jn ds m) z := by
  refine ⟨u32_jn hU m, ?_, fun h => hs (by rw [length_jn] at h; omega), ?_⟩
  · rw [length_jn]
    rcases Nat.eq_zero_or_pos m with h0 | h0
    · rw [h0]; rfl
    · refine tlen_eq _ _ (fun j hj => gx_past _ m (by rw [length_jn]; omega) j hj) (.inr ?_)
      rw [gx_jn ds m (m - 1) (by omega)]
      have ht := tlen_top ds (by omega)
      rw [hn] at ht
      have h1 := hU (2 * (m - 1))
      have h2 := hU (2 * (m - 1) + 1)
      by_cases he : ds.length - 1 = 2 * (m - 1)
      · rw [he] at ht; omega
      · rw [show ds.length - 1 = 2 * (m - 1) + 1 by omega] at ht; omega
  · rw [ival, val_jn, List.take_of_length_le (by omega)]; exact hv
/-- One number, one list of digits of its length. -/
theorem vd_inj {a b : List Int} (ha : U16 a) (hb : U16 b) (hl : a.length = b.length) (h : vd a = vd b) : a = b := by
  induction a generalizing b with
  | nil => cases b with
    | nil => rfl
    | cons y s => simp at hl
  | cons x r ih => cases b with
    | nil => simp at hl
    | cons y s =>
      obtain ⟨h1, h2⟩ := u16_tail ha
      obtain ⟨h3, h4⟩ := u16_tail hb
      simp only [vd] at h
      simp only [List.length_cons] at hl
      rw [ih h2 h4 (by omega) (by omega), show x = y by omega]
theorem vd_zero (n : Nat) : vd (zeros n) = 0 := by
  have := vd_append_zeros [] (zeros n) (gx_zeros n)
  simpa [vd] using this
theorem u16_zeros (n : Nat) : U16 (zeros n) := fun j => by rw [gx_zeros]; decide
theorem cut16 (P t : Int) : P * (t % 65536) + 65536 * P * (t / 65536) = P * t := by
  have h := Int.emod_add_mul_ediv t 65536
  have e : 65536 * P * (t / 65536) = P * (65536 * (t / 65536)) := by
    rw [Int.mul_comm 65536 P, Int.mul_assoc]
  rw [e, ← Int.mul_add, h]
theorem vd_set (R : List Int) (j : Nat) (v : Int) (h : j < R.length) : vd (R.set j v) = vd R + pd j * (v - gx R j) := by
  rw [vd_at R j h, vd_at (R.set j v) j (by rw [List.length_set]; exact h), gx_set_eq R j v h, List.take_set_of_le (Nat.le_refl _), List.drop_set_of_lt (by omega), Int.mul_sub]
  omega
theorem u16_set {R : List Int} (h : U16 R) (j : Nat) {v : Int} (hv : 0 ≤ v ∧ v < 65536) : U16 (R.set j v) := fun k => by
  by_cases hk : j = k
  · subst hk
    by_cases hl : j < R.length
    · rw [gx_set_eq R j v hl]; exact hv
    · rw [gx_past (R.set j v) R.length (by simp) j (by omega)]; decide
  · rw [gx_set_ne R j k v hk]; exact h k
end Go.Proofs.YtcdfckjlmifjiaaGreat
/-
  ashlarref1.Eq, where both are the same.
-/
namespace Go.Proofs.YtcdfckjlmifjiaaGreat
open Go.RowKit
set_option linter.unusedVariables false
set_option linter.unusedSimpArgs false

end Go.Proofs.YtcdfckjlmifjiaaGreat
/-
  Small rules for digits.
-/
namespace Go.Proofs.YtcdfckjlmifjiaaGreat
open Go.RowKit
set_option linter.unusedVariables false
set_option linter.unusedSimpArgs false

theorem info_int : (Tryz.prog.info? 3).map (fun i => (i.zero, i.size, i.bytes)) = some (some (.int .i64 0), 1, 8) := by kernel_rfl
theorem spl_snoc (xs : List Int) (k : Nat) (h : k < xs.length) : spl (xs.take (k + 1)) = spl (xs.take k) ++ [gx xs k % 65536, gx xs k / 65536] := by
  rw [take_snoc xs k h, spl_append]; rfl

theorem bel_alw {W x : World} {o : Obj} (h : Below W.heap.size W x) : Below W.heap.size W (x.alloc o) := h.alloc h.size o

end Go.Proofs.YtcdfckjlmifjiaaGreat
/-
  Numbers and boxes, carried on: small rules.
-/
namespace Go.Proofs.YtcdfckjlmifjiaaGreat
open Go.RowKit
set_option linter.unusedVariables false
set_option linter.unusedSimpArgs false

theorem NI.hai {B : Nat} {w : World} {s : Bool} {p : Option Addr} {n : Nat} {xs : List Int} {z : Int} (h : NI B w s p n xs z) (hn : n ≤ 100) : AI w p n n xs := h.ai (by omega)

/-- What a callee leaves, as rules for the walk. -/
theorem bcell {W w1 : World} (hb : Below W.heap.size W w1) : (∀ b o, b < W.heap.size → w1.cell? ⟨b, o, none⟩ = W.cell? ⟨b, o, none⟩) ∧ (∀ b o, b < W.heap.size → w1.frozen? ⟨b, o, none⟩ = W.frozen? ⟨b, o, none⟩) :=
  ⟨fun b o h => hb.cell (p := ⟨b, o, none⟩) h, fun b o h => hb.frozen (p := ⟨b, o, none⟩) h⟩

/-- The same, with what it says of sizes. -/
theorem brules {X w3 : World} (hb : Below X.heap.size X w3) : (∀ b o, b < X.heap.size → w3.cell? ⟨b, o, none⟩ = X.cell? ⟨b, o, none⟩) ∧ (∀ b o, b < X.heap.size → w3.frozen? ⟨b, o, none⟩ = X.frozen? ⟨b, o, none⟩) ∧
    (∀ r, r < X.heap.size → r < w3.heap.size) ∧ (∀ r, r < X.heap.size → r ≤ w3.heap.size) ∧ (∀ r, r < X.heap.size → r ≤ w3.heap.size + 1) :=
  ⟨(bcell hb).1, (bcell hb).2, fun r h => Nat.lt_of_lt_of_le h hb.size, fun r h => Nat.le_of_lt (Nat.lt_of_lt_of_le h hb.size), fun r h => by have := hb.size; omega⟩

theorem bne {X w3 : World} (hb : Below X.heap.size X w3) : (∀ r, r < X.heap.size → r ≠ w3.heap.size) ∧ (∀ r, r < X.heap.size → w3.heap.size ≠ r) ∧ (∀ r, r < X.heap.size → r ≠ w3.heap.size + 1) ∧ (∀ r, r < X.heap.size → w3.heap.size + 1 ≠ r) := by
  have := hb.size
  exact ⟨fun r h => by omega, fun r h => by omega, fun r h => by omega, fun r h => by omega⟩
theorem bel_al {w x : World} {o : Obj} (h : Below w.heap.size w x) : Below w.heap.size w (x.alloc o) := h.alloc h.size o
theorem comp {X2 w2 X3 w3 : World} (h2 : Below X2.heap.size X2 w2) (hX : Below w2.heap.size w2 X3) (h3 : Below X3.heap.size X3 w3) : Below X2.heap.size X2 w3 :=
  (h2.trans (hX.mono h2.size)).trans (h3.mono (Nat.le_trans h2.size hX.size))

theorem NI_al {B : Nat} {w : World} {s : Bool} {p : Option Addr} {n : Nat} {xs : List Int} {z : Int} {o : Obj} (h : NI B w s p n xs z) : NI B (w.alloc o) s p n xs z := h.below ((Below.refl _ _).alloc (Nat.le_refl _) o)
theorem NI_st {B : Nat} {w : World} {s : Bool} {p : Option Addr} {n : Nat} {xs : List Int} {z : Int} {a : Addr} {v : Value} (h : NI B w s p n xs z) (ha : a.block < B) : NI B (w.setCell a v) s p n xs z := h.set ha v
theorem NI_st2 {B U : Nat} {w : World} {s : Bool} {p : Option Addr} {n : Nat} {xs : List Int} {z : Int} {a : Addr} {v : Value} (hU : ∀ x, p = some x → x.block < U) (ha : U ≤ a.block) (h : NI B w s p n xs z) : NI B (w.setCell a v) s p n xs z :=
  ⟨h.len, h.rd.set_other a v (fun b hb e => by have := hU b hb; omega), h.u, h.nrm, h.sg, h.pn, h.v, h.fr, h.fz.set a v⟩
theorem NI_st3 {B F : Nat} {w : World} {s : Bool} {p : Option Addr} {n : Nat} {xs : List Int} {z : Int} {a : Addr} {v : Value} (hF : From F p) (ha : a.block < F) (h : NI B w s p n xs z) : NI B (w.setCell a v) s p n xs z :=
  ⟨h.len, h.rd.set_other a v (fun b hb e => by have := hF b hb; omega), h.u, h.nrm, h.sg, h.pn, h.v, h.fr, h.fz.set a v⟩
theorem NI.lt {B : Nat} {w : World} {s : Bool} {p : Option Addr} {n : Nat} {xs : List Int} {z : Int} (h : NI B w s p n xs z) : ∀ x, p = some x → x.block < w.heap.size := fun x hx => by
  rcases Nat.eq_zero_or_pos n with h0 | h0
  · rw [h.pn h0] at hx; cases hx
  · obtain ⟨b, off, hp, hlt⟩ := h.rd.lt (by rw [h.len]; exact h0)
    rw [hp] at hx; cases hx; exact hlt
theorem Bx_al {w : World} {r : Nat} {u v : Value} {o : Obj} (h : Bx w r u v) : Bx (w.alloc o) r u v := h.alloc o
theorem Bx_new {w : World} {r t : Nat} {u v : Value} (h : r = w.heap.size) : Bx (w.alloc (.cells #[u, v] t)) r u v := Bx.new u v t h
theorem Bx_set {w : World} {g : Nat} {u v x y : Value} (h : Bx w g u v) : Bx ((w.setCell ⟨g, 0, none⟩ x).setCell ⟨g, 1, none⟩ y) g x y := by
  have h1 : (w.setCell ⟨g, 0, none⟩ x).cell? ⟨g, 1, none⟩ = some v := by rw [World.cell?_setCell_other _ _ _ _ (by simp)]; exact h.c1
  refine ⟨?_, World.cell?_setCell_same _ _ _ h1, ?_, ?_⟩
  · rw [World.cell?_setCell_other _ _ _ _ (by simp)]; exact World.cell?_setCell_same _ _ _ h.c0
  · rw [World.frozen?_setCell, World.frozen?_setCell]; exact h.f0
  · rw [World.frozen?_setCell, World.frozen?_setCell]; exact h.f1
theorem Bx_oth {w : World} {r g : Nat} {u v x y : Value} (h : Bx w r u v) (hne : r ≠ g) : Bx ((w.setCell ⟨g, 0, none⟩ x).setCell ⟨g, 1, none⟩ y) r u v := by
  have e : ((w.setCell ⟨g, 0, none⟩ x).setCell ⟨g, 1, none⟩ y).heap[r]? = w.heap[r]? := (heap_setCell_other _ _ r y hne).trans (heap_setCell_other _ _ r x hne)
  exact ⟨(World.cell?_of_block (a := ⟨r, 0, none⟩) e).trans h.c0, (World.cell?_of_block (a := ⟨r, 1, none⟩) e).trans h.c1, (World.frozen?_of_block (a := ⟨r, 0, none⟩) e).trans h.f0, (World.frozen?_of_block (a := ⟨r, 1, none⟩) e).trans h.f1⟩
theorem Bel_al {B : Nat} {w x : World} {o : Obj} (h : Below B w x) (hB : B ≤ w.heap.size) : Below B w (x.alloc o) := h.alloc (Nat.le_trans hB h.size) o
theorem Bel_st {B : Nat} {w x : World} {a : Addr} {v : Value} (h : Below B w x) (ha : B ≤ a.block) : Below B w (x.setCell a v) := h.setCell ha v
end Go.Proofs.YtcdfckjlmifjiaaGreat
/-
  Numbers carried on behind calls and stores.
-/
namespace Go.Proofs.YtcdfckjlmifjiaaGreat
open Go.RowKit
set_option linter.unusedVariables false
set_option linter.unusedSimpArgs false

theorem AI.setF {w : World} {p : Option Addr} {n nc F : Nat} {xs : List Int} (h : AI w p n nc xs) (hF : Go.Proofs.YtcdfckjlmifjiaaGreat.From F p) {a : Addr} (ha : a.block < F) (v : Value) : AI (w.setCell a v) p n nc xs :=
  ⟨h.len, h.cap, h.bnd, h.sml, h.rd.set_other a v (fun b hb e => by have := hF b hb; omega), h.u⟩
theorem AI.set2 {w : World} {p : Option Addr} {n nc F : Nat} {xs : List Int} (h : AI w p n nc xs) (hF : Go.Proofs.YtcdfckjlmifjiaaGreat.From F p) {g : Nat} (hg : g < F) (u v : Value) : AI ((w.setCell ⟨g, 0, none⟩ u).setCell ⟨g, 1, none⟩ v) p n nc xs :=
  (h.setF hF (a := ⟨g, 0, none⟩) hg u).setF hF (a := ⟨g, 1, none⟩) hg v
theorem From.mono {B F : Nat} {p : Option Addr} (h : Go.Proofs.YtcdfckjlmifjiaaGreat.From F p) (hB : B ≤ F) : Go.Proofs.YtcdfckjlmifjiaaGreat.From B p := fun a ha => Nat.le_trans hB (h a ha)
/-- One call more. -/
theorem bnext {B : Nat} {a b c : World} (h : Below B a b) (hB : B ≤ a.heap.size) (k : Below b.heap.size b c) : Below B a c := h.trans (k.mono (Nat.le_trans hB h.size))
theorem bnext' {a b c : World} (h : Below a.heap.size a b) (k : Below b.heap.size b c) : Below a.heap.size a c := bnext h (Nat.le_refl _) k
theorem bset2 {B g : Nat} {a b : World} (h : Below B a b) (hg : B ≤ g) (u v : Value) : Below B a ((b.setCell ⟨g, 0, none⟩ u).setCell ⟨g, 1, none⟩ v) := (h.setCell (p := ⟨g, 0, none⟩) hg u).setCell (p := ⟨g, 1, none⟩) hg v
theorem keepc6 {w1 w2 : World} {a b c d e f : Addr} {u v x y z t : Value} (h : w1.cell? a = some u ∧ w1.cell? b = some v ∧ w1.cell? c = some x ∧ w1.cell? d = some y ∧ w1.cell? e = some z ∧ w1.cell? f = some t) (hb : Below w1.heap.size w1 w2) :
    w2.cell? a = some u ∧ w2.cell? b = some v ∧ w2.cell? c = some x ∧ w2.cell? d = some y ∧ w2.cell? e = some z ∧ w2.cell? f = some t :=
  ⟨cell_later hb h.1, cell_later hb h.2.1, cell_later hb h.2.2.1, cell_later hb h.2.2.2.1, cell_later hb h.2.2.2.2.1, cell_later hb h.2.2.2.2.2⟩
end Go.Proofs.YtcdfckjlmifjiaaGreat
