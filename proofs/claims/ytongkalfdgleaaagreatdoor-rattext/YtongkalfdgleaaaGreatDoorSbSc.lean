/-
  limbs.appendChunk, value: the number of decimal digits.
-/
import Derived.Test.YtongkalfdgleaaaGreatDoorRhTaSa
import Derived.Test.YtongkalfdgleaaaGreatDoorRbRf
import Derived.Test.YtongkalfdgleaaaGreatDoorBfReCx
namespace Go.Proofs.YtongkalfdgleaaaGreatDoor
open Go.RowKit
set_option linter.unusedVariables false
set_option linter.unusedSimpArgs false

theorem owns_cell {w : World} {B g n cap : Nat} {e : TypeId} {k : IntKind} {xs : List Int} (h : w.ownsRow B e 1 (.slice (some ⟨g, 0, none⟩) n cap) n (xs.map (Value.int k))) (j : Nat) (hj : j < n) : w.cell? ⟨g, j, none⟩ = some (.int k (gx xs j)) := by
  have hl := h.1
  rw [List.length_map] at hl
  rw [h.cellAt j (by omega), gx_mem xs j (by omega), List.getElem?_map, List.getElem?_eq_getElem (by omega)]
  rfl
theorem owns_set {w : World} {B g n cap : Nat} {e : TypeId} {k : IntKind} {xs : List Int} (h : w.ownsRow B e 1 (.slice (some ⟨g, 0, none⟩) n cap) n (xs.map (Value.int k))) (j : Nat) (v : Int) :
    (w.setCell ⟨g, j, none⟩ (.int k v)).ownsRow B e 1 (.slice (some ⟨g, 0, none⟩) n cap) n ((xs.set j v).map (Value.int k)) := by
  have := (h.stored j (.int k v)).1
  rwa [← List.map_set] at this

/-- What appendChunk answers. -/
def ApPost (B n : Nat) (V : Int) (w : World) (e : Ending) (w' : World) : Prop :=
  ∃ g' n' cap' R, e = .returned (.slice (some ⟨g', 0, none⟩) n' cap') ∧ w'.ownsRow B 80 1 (.slice (some ⟨g', 0, none⟩) n' cap') n' (R.map (Value.int .u32)) ∧ U32 R ∧ val R = V ∧ R.length = n' ∧ n' ≤ n + 1 ∧ Below B w w'

set_option maxRecDepth 100000 in
set_option maxHeartbeats 2000000 in
/-- limbs.appendChunk. -/
theorem appendChunk_any (B g n cap : Nat) (xs : List Int) (d : Int) (w : World) (hB : B ≤ w.heap.size) (hn : n ≤ 1000000) (hl : xs.length = n) (hO : w.ownsRow B 80 1 (.slice (some ⟨g, 0, none⟩) n cap) n (xs.map (Value.int .u32))) (hU : U32 xs) (hd0 : 0 ≤ d) (hd1 : d < 1000000000) :
    Calls Tryz.prog 129 #[.slice (some ⟨g, 0, none⟩) n cap, .int .u32 d] w (ApPost B n (val xs * 1000000000 + d) w) := by
  obtain ⟨i0, hi, hzz⟩ := Option.map_eq_some_iff.1 info_u32
  simp only [Prod.mk.injEq] at hzz
  obtain ⟨hz0, hz1, hz2⟩ := hzz
  have HI : Hid (Tryz.prog.info? 80 = some i0 ∧ i0.zero = some (.int .u32 0) ∧ i0.size = 1 ∧ i0.bytes = 4) := ⟨hi, hz0, hz1, hz2⟩
  clear hi hz0 hz1 hz2
  have HL : Hid (xs.length = n) := hl
  clear hl
  have hBg : B ≤ g := (hO.lt g rfl).1
  go_enter Tryz.func129, Tryz.ntmps129
  go_wp2
  go_loopw [5, 13] (fun cv iv wr => ∃ (k : Nat) (c : Int) (R : List Int), k ≤ n ∧ iv = .int .i64 k ∧ cv = .int .u64 c ∧ 0 ≤ c ∧ c < 1000000000 ∧ Hid (R.length = n ∧ U32 R ∧ (∀ j, k ≤ j → gx R j = gx xs j) ∧ val (R.take k) + pw k * c = val (xs.take k) * 1000000000 + d ∧ wr.ownsRow B 80 1 (.slice (some ⟨g, 0, none⟩) n cap) n (R.map (Value.int .u32)) ∧ Below B w wr))
    (fun _ iv _ => (n - intOf iv).toNat)
  case atStart => exact ⟨0, d, xs, Nat.zero_le _, by go_num, rfl, hd0, hd1, HL.out, hU, fun _ _ => rfl, by simp [val, pw_zero], hO, Below.refl _ _⟩
  case round =>
    obtain ⟨k, c, R, hk, rfl, rfl, hc0, hc1, H⟩ := hrel
    by_cases hkn : k < n
    · obtain ⟨a1, a2, a3, a4, a5, a6⟩ := H.out
      have hc := owns_cell a5 k hkn
      have hf := a5.frozenAt k
      obtain ⟨b0, b1⟩ := a2 k
      clear a1 a2 a3 a4 a5 a6
      go_wp2
      obtain ⟨a1, a2, a3, a4, a5, a6⟩ := H.out
      refine ⟨⟨k + 1, _, R.set k ((gx R k * 1000000000 + c) % 4294967296), by omega, by go_num, rfl, by omega, by omega, by rw [List.length_set]; exact a1, u32_set a2 _ (by omega), fun j hj => ?_, ?_, owns_set a5 k _, a6.setCell (p := ⟨g, k, none⟩) hBg _⟩, by simp [intOf]; omega⟩
      · rw [gx_set_ne R _ _ _ (by omega)]; exact a3 j (by omega)
      · rw [val_take_succ _ k (by rw [List.length_set]; omega), val_take_succ xs k (by have := HL.out; omega), gx_set_eq R k _ (by omega), List.take_set_of_le (Nat.le_refl _), pw_succ]
        have e1 := cut_step (pw k) (gx R k * 1000000000 + c)
        rw [← a3 k (Nat.le_refl _), Int.add_mul, Int.mul_assoc (pw k)]
        rw [Int.mul_add] at e1
        omega
    · obtain rfl : k = n := by omega
      by_cases h0 : c = 0
      · subst h0
        go_wp2
        go_ret
        obtain ⟨a1, a2, a3, a4, a5, a6⟩ := H.out
        refine ⟨g, k, cap, R, rfl, a5, a2, ?_, a1, by omega, a6⟩
        rw [List.take_of_length_le (by omega), List.take_of_length_le (by have := HL.out; omega)] at a4
        omega
      · obtain ⟨a1, a2, a3, a4, a5, a6⟩ := H.out
        have HO : Hid (wr.ownsRow B 80 1 (.slice (some ⟨g, 0, none⟩) k cap) k (R.map (Value.int .u32))) := a5
        have hBr : Below B w wr := a6
        have hc2 : 0 < c := by omega
        have hbs := hBr.size
        clear a1 a2 a3 a4 a5 a6
        obtain ⟨hi, hz0, hz1, hz2⟩ := HI.out
        go_wp2_with (refine wpList_append_lies _ rfl _ _ 22 rfl B 80 i0 (.int .u32 0) 1 4 Tryz.underlying22 hi hz0 hz1 hz2 rfl (by decide) (.slice (some ⟨g, 0, none⟩) k cap) k (R.map (Value.int .u32)) rfl (HO.out.alloc _) ⟨wr.heap.size, 0, none⟩ 1 1 [.int .u32 c] rfl rfl ?_ (fun x hx => by simp at hx; subst hx; rfl) (by decide) (by unfold maxLen; omega) (by omega) (by simp; omega) _ rfl ?_; exact World.news_of_block (heap_alloc_new wr _); intro g3 cap3 w3 hown3 hgrow3 hat3 hlt3)
        go_ret
        obtain ⟨a1, a2, a3, a4, a5, a6⟩ := H.out
        refine ⟨g3, k + 1, cap3, R ++ [c], rfl, by rw [List.map_append]; exact hown3, u32_append a2 (u32_one (by omega)), ?_, by simp; omega, by omega, ?_⟩
        · rw [val_append, val_one, a1]
          rw [List.take_of_length_le (by omega), List.take_of_length_le (by have := HL.out; omega)] at a4
          exact a4
        · exact (hBr.alloc (by omega) _).grown hgrow3 (by simp; omega) (fun q hq => (HO.out.lt q hq).1)

theorem mk_cap (c : Nat) (h : c ≤ 1099511627776) (w : World) : (Instr.makeSlice 22 (.int .i64 0) (.int .i64 c)).run Tryz.prog w =
    .ok (.slice (some ⟨w.heap.size, 0, none⟩) 0 c) (w.alloc (.cells (ca .u32 (zeros c)) 80)) := by
  have hi := info_u32
  cases hq : Tryz.prog.info? 80 with
  | none => rw [hq] at hi; cases hi
  | some i =>
    rw [hq] at hi
    simp only [Option.map_some, Option.some.injEq, Prod.mk.injEq] at hi
    obtain ⟨h1, h2, h3⟩ := hi
    have hr := run_make (P := Tryz.prog) w 22 80 i (.int .u32 0) Tryz.underlying22 hq h1 .i64 .i64 0 c (by omega) (by omega) (by rw [h3]; omega) (by omega)
    rw [Int.toNat_natCast, h2] at hr
    rw [hr]
    exact congrArg (fun q => Result.ok (Value.slice (some ⟨w.heap.size, 0, none⟩) 0 c) (w.alloc (.cells q 80))) (made_zeros .u32 c)

/-- The number of decimal digits, the highest first. -/
def dv (l : List Int) : Int := l.foldl (fun a c => 10 * a + (c - 48)) 0
theorem dv_snoc (l : List Int) (c : Int) : dv (l ++ [c]) = 10 * dv l + (c - 48) := by simp [dv]
theorem dv_from (b : List Int) (a : Int) : b.foldl (fun a c => 10 * a + (c - 48)) a = a * 10 ^ b.length + dv b := by
  induction b generalizing a with
  | nil => simp [dv]
  | cons c r ih =>
    have h1 := ih (10 * a + (c - 48))
    have h2 := ih (10 * 0 + (c - 48))
    simp only [dv, List.foldl_cons, List.length_cons] at h1 h2 ⊢
    rw [h1, h2, Int.pow_succ]
    have e : (10 * a + (c - 48)) * 10 ^ r.length = a * (10 ^ r.length * 10) + (10 * 0 + (c - 48)) * 10 ^ r.length := by
      rw [Int.add_mul, Int.mul_comm (10 ^ r.length) 10, ← Int.mul_assoc a, Int.mul_comm a 10]; simp
    omega
theorem dv_append (a b : List Int) : dv (a ++ b) = dv a * 10 ^ b.length + dv b := by
  rw [dv, List.foldl_append, dv_from]; rfl
theorem bz_append (a b : List UInt8) : bz (a ++ b) = bz a ++ bz b := by simp [bz]
theorem bz_take (a : List UInt8) (n : Nat) : bz (a.take n) = (bz a).take n := by simp [bz, List.map_take]
theorem dgs_drop {l : List UInt8} (h : dgs l) (n : Nat) : dgs (l.drop n) := fun j hj => by
  have e : bz (l.drop n) = (bz l).drop n := by simp [bz, List.map_drop]
  rw [e, gx_drop]
  exact h _ (by simp at hj; omega)
theorem extract_from (l : List UInt8) (n : Nat) : (⟨l.toArray⟩ : ByteArray).extract n l.length = ⟨(l.drop n).toArray⟩ := by
  rw [ByteArray.extract_mk]
  simp
  rw [List.take_of_length_le (by simp)]
theorem ten_le {i : Nat} (h : i ≤ 9) : (10 : Int) ^ i ≤ 1000000000 := by
  have : i = 0 ∨ i = 1 ∨ i = 2 ∨ i = 3 ∨ i = 4 ∨ i = 5 ∨ i = 6 ∨ i = 7 ∨ i = 8 ∨ i = 9 := by omega
  rcases this with rfl | rfl | rfl | rfl | rfl | rfl | rfl | rfl | rfl | rfl <;> decide

/-- What value answers. -/
def ValPost (l : List UInt8) (w : World) (e : Ending) (w' : World) : Prop :=
  ∃ g n cap R, e = .returned (.slice (some ⟨g, 0, none⟩) n cap) ∧ w'.ownsRow w.heap.size 80 1 (.slice (some ⟨g, 0, none⟩) n cap) n (R.map (Value.int .u32)) ∧ U32 R ∧ val R = dv (bz l) ∧ R.length = n ∧ n ≤ l.length ∧ Below w.heap.size w w'

set_option maxRecDepth 100000 in
set_option maxHeartbeats 2000000 in
/-- limbs.value. -/
theorem value_any (l : List UInt8) (w : World) (hl : l.length ≤ 1000000) (hd : dgs l) :
    Calls Tryz.prog 113 #[.string ⟨l.toArray⟩] w (ValPost l w) := by
  have hmk := mk_cap (l.length / 9 + 1) (by omega)
  have ec : ((l.length / 9 + 1 : Nat) : Int) = (l.length : Int) / 9 + 1 := by omega
  rw [ec] at hmk
  clear ec
  have hO : (w.alloc (.cells (ca .u32 (zeros (l.length / 9 + 1))) 80)).ownsRow w.heap.size 80 1 (.slice (some ⟨w.heap.size, 0, none⟩) 0 (l.length / 9 + 1)) 0 [] := World.ownsRow_made w _ _ (Nat.le_refl _) (by unfold maxLen; omega) (by rw [size_ca, length_zeros]; omega)
  have hbW : Below w.heap.size w (w.alloc (.cells (ca .u32 (zeros (l.length / 9 + 1))) 80)) := (Below.refl _ _).alloc (Nat.le_refl _) _
  have HO : Hid (_ ∧ _) := ⟨hO, hbW⟩
  clear hO hbW
  go_enter Tryz.func113, Tryz.ntmps113
  go_wp2
  generalize w.alloc (.cells (ca .u32 (zeros (l.length / 9 + 1))) 80) = W at *
  clear hmk
  go_loopw [0, 3] (fun sv xv wr => ∃ (p r : List UInt8) (g n cap : Nat) (xs : List Int), sv = .string ⟨r.toArray⟩ ∧ xv = .slice (some ⟨g, 0, none⟩) n cap ∧ r.length ≤ l.length ∧ n ≤ l.length ∧ Hid (l = p ++ r ∧ dgs r ∧ wr.ownsRow w.heap.size 80 1 (.slice (some ⟨g, 0, none⟩) n cap) n (xs.map (Value.int .u32)) ∧ U32 xs ∧ val xs = dv (bz p) ∧ (val xs = 0 ∨ r.length % 9 = 0) ∧ xs.length = n ∧ n ≤ p.length ∧ Below w.heap.size w wr))
    (fun sv _ _ => match sv with | .string s => s.size | _ => 0)
  case atStart => exact ⟨[], l, w.heap.size, 0, _, [], rfl, rfl, Nat.le_refl _, Nat.zero_le _, rfl, hd, HO.out.1, u32_nil, rfl, .inl rfl, rfl, Nat.le_refl _, HO.out.2⟩
  case round =>
    obtain ⟨p, r, g, n, cap, xs, rfl, rfl, hrl, hnl, H⟩ := hrel
    by_cases hr : r = []
    · subst hr
      go_wp2
      go_ret
      obtain ⟨a1, a2, a3, a4, a5, a6, a7, a8, a9⟩ := H.out
      rw [List.append_nil] at a1
      exact ⟨g, n, cap, xs, rfl, a3, a4, by rw [a5, a1], a7, hnl, a9⟩
    · have hr0 : 0 < r.length := List.length_pos_iff.2 hr
      have hre : (r == []) = false := by simpa using hr
      have hrm : r.isEmpty = false := by simpa using hr
      obtain ⟨m, hm⟩ : ∃ m : Nat, m = (r.length - 1) % 9 := ⟨_, rfl⟩
      have HM : Hid (m = (r.length - 1) % 9) := hm
      have q1 : ((r.length : Int) - 1).tmod 9 = (m : Int) := by rw [Int.tmod_eq_emod_of_nonneg (by omega)]; omega
      have q2 : ((r.length : Int) - 1) % 9 = (m : Int) := by omega
      have hm9 : m ≤ 8 := by omega
      have hmr : m + 1 ≤ r.length := by omega
      clear hm hr
      go_wp2
      go_loop [5, 20] (fun dvv iv => ∃ (i : Nat) (d : Int), i ≤ m + 1 ∧ iv = .int .i64 i ∧ dvv = .int .u32 d ∧ 0 ≤ d ∧ d < 1000000000 ∧ Hid (d = dv ((bz r).take i) ∧ d < 10 ^ i)) (fun _ iv => (m + 1 - intOf iv).toNat)
      case atStart => exact ⟨0, 0, Nat.zero_le _, by go_num, rfl, by decide, by decide, rfl, by decide⟩
      case round =>
        obtain ⟨i, d, hi, rfl, rfl, hd0, hd1, HD⟩ := hrel
        by_cases him : i < m + 1
        · have hg := gx_bz r i (by omega) (by rw [size_bl]; omega)
          have hb := H.out.2.1 i (by omega)
          have hi2 : i < r.length := by omega
          have hiI : (i : Int) < (m : Int) + 1 := by omega
          go_wp2
          have h10 := ten_le (i := i + 1) (by omega)
          have hdi := HD.out.2
          have h11 : (10 : Int) ^ (i + 1) = 10 ^ i * 10 := Int.pow_succ ..
          have h12 : (10 * d % 4294967296 + (gx (bz r) i - 48)) % 4294967296 = 10 * d + (gx (bz r) i - 48) := by omega
          refine ⟨⟨i + 1, _, by omega, by go_num, rfl, by omega, by omega, ?_, by omega⟩, by simp [intOf]; omega⟩
          rw [h12, take_snoc (bz r) i (by rw [length_bz]; omega), dv_snoc, HD.out.1]
        · obtain rfl : i = m + 1 := by omega
          have hBs := H.out.2.2.2.2.2.2.2.2.size
          go_wp2_with fail
          refine (appendChunk_any w.heap.size g n cap xs d _ hBs (by omega) H.out.2.2.2.2.2.2.1 H.out.2.2.1 H.out.2.2.2.1 hd0 hd1).mono ?_
          rintro e w1 ⟨g', n', cap', R, rfl, r1, r2, r3, r4, r5, r6⟩
          have HR : Hid (w1.ownsRow w.heap.size 80 1 (.slice (some ⟨g', 0, none⟩) n' cap') n' (R.map (Value.int .u32)) ∧ U32 R ∧ val R = val xs * 1000000000 + d ∧ R.length = n' ∧ n' ≤ n + 1 ∧ Below w.heap.size wr w1) := ⟨r1, r2, r3, r4, r5, r6⟩
          clear r1 r2 r3 r4 r5 r6
          go_wp2
          obtain ⟨a1, a2, a3, a4, a5, a6, a7, a8, a9⟩ := H.out
          obtain ⟨r1, r2, r3, r4, r5, r6⟩ := HR.out
          have hpl : l.length = p.length + r.length := by rw [a1]; simp
          have hap : p ++ r.take (m + 1) ++ r.drop (m + 1) = l := by rw [List.append_assoc, List.take_append_drop, a1]
          have hlt : (r.take (m + 1)).length = m + 1 := by simp; omega
          have hmm := HM.out
          rw [extract_from]
          refine ⟨⟨p ++ r.take (m + 1), r.drop (m + 1), g', n', cap', R, rfl, rfl, by simp; omega, by omega, hap.symm, dgs_drop a2 _, r1, r2, ?_, .inr (by simp; omega), r4, by simp; omega, a9.trans r6⟩, by simp [ByteArray.size]; omega⟩
          rw [r3, bz_append, dv_append, length_bz, hlt, bz_take, ← HD.out.1, ← a5]
          rcases a6 with h | h
          · rw [h]; simp
          · have : m = 8 := by omega
            subst this
            rfl
end Go.Proofs.YtongkalfdgleaaaGreatDoor
/-
  limbs.Read.
-/
namespace Go.Proofs.YtongkalfdgleaaaGreatDoor
open Go.RowKit
set_option linter.unusedVariables false
set_option linter.unusedSimpArgs false

/-- A text of a number: its sign and its digits. -/
def IsNum (l : List UInt8) (s : Bool) (d : List UInt8) : Prop := numeral d ∧ l = (if s then 45 :: d else d) ∧ l ≠ [45, 48]
/-- What Read answers. -/
def RdPost (l : List UInt8) (w : World) (e : Ending) (w' : World) : Prop :=
  (∃ s d s' p' n' zs, IsNum l s d ∧ e = .returned (.tuple #[.agg #[.bool s', .slice p' n' n'], .int .i64 0]) ∧ NI w.heap.size w' s' p' n' zs (if s then - dv (bz d) else dv (bz d)) ∧ n' ≤ l.length ∧ Below w.heap.size w w') ∨
  ((∀ s d, ¬ IsNum l s d) ∧ e = .returned (.tuple #[.agg #[.bool false, .slice none 0 0], .int .i64 8]) ∧ Below w.heap.size w w')

set_option maxRecDepth 100000 in
set_option maxHeartbeats 2000000 in
/-- limbs.Read: texts that are too long. -/
theorem Read_long (l : List UInt8) (w : World) (hl : l.length ≤ maxLen) (h : 65536 < l.length) :
    Calls Tryz.prog 90 #[.string ⟨l.toArray⟩] w fun e w' => e = .returned (.tuple #[.agg #[.bool false, .slice none 0 0], .int .i64 8]) ∧ Below w.heap.size w w' := by
  have hlm := hl
  unfold maxLen at hlm
  have hI : (65536 : Int) < (l.length : Int) := by omega
  go_enter Tryz.func90, Tryz.ntmps90
  go_wp2_with fail
  refine (CutPrefix_minus l _ hl).mono ?_
  rintro e w' (⟨r, hr, rfl, rfl⟩ | ⟨hr, rfl, rfl⟩)
  · have HN : Hid (l = 45 :: r) := hr
    clear hr
    go_wp2
    refine bodyPost_ret (v := .tuple #[.agg #[.bool false, .slice none 0 0], .int .i64 8]) (by simp [results, Tryz.results90, go_sem]) rfl ⟨rfl, ?_⟩
    exact (Below.refl _ _).alloc (Nat.le_refl _) _
  · have HN : Hid (∀ r, l ≠ 45 :: r) := hr
    clear hr
    go_wp2
    refine bodyPost_ret (v := .tuple #[.agg #[.bool false, .slice none 0 0], .int .i64 8]) (by simp [results, Tryz.results90, go_sem]) rfl ⟨rfl, ?_⟩
    exact (Below.refl _ _).alloc (Nat.le_refl _) _

/-- What stands behind the prefix. -/
def Pre (l : List UInt8) (s : Bool) (r : List UInt8) : Prop := l = (if s then 45 :: r else r) ∧ (s = false → ∀ r, l ≠ 45 :: r)
theorem PrePost.out {l : List UInt8} {w w' : World} {e : Ending} (h : PrePost l w e w') : ∃ s r, e = .returned (.tuple #[.string ⟨r.toArray⟩, .bool s]) ∧ w = w' ∧ r.length ≤ l.length ∧ Pre l s r := by
  rcases h with ⟨r, hr, rfl, rfl⟩ | ⟨hr, rfl, rfl⟩
  · exact ⟨true, r, rfl, rfl, by rw [hr]; simp, hr, fun h => by cases h⟩
  · exact ⟨false, l, rfl, rfl, Nat.le_refl _, rfl, fun _ => hr⟩
theorem numeral_minus {r : List UInt8} (h : numeral (45 :: r)) : False := by
  have := h.1 0 (by simp)
  rw [bz_cons, gx_zero] at this
  have e : ((45 : UInt8).toNat : Int) = 45 := rfl
  omega
theorem Pre.none {l : List UInt8} {s : Bool} {r : List UInt8} (h : Pre l s r) (hn : ¬ numeral r) : ∀ s d, ¬ IsNum l s d := fun s' d k => by
  obtain ⟨k1, k2, k3⟩ := k
  obtain ⟨h1, h2⟩ := h
  cases s <;> cases s' <;> simp at h1 k2
  · exact hn (by rw [← h1, k2]; exact k1)
  · exact h2 rfl d k2
  · rw [← k2, h1] at k1; exact numeral_minus k1
  · rw [h1] at k2; simp at k2; exact hn (by rw [k2]; exact k1)
theorem isNum_no {s : Bool} {d : List UInt8} : ¬ IsNum [45, 48] s d := fun k => k.2.2 rfl

set_option maxRecDepth 100000 in
set_option maxHeartbeats 2000000 in
/-- limbs.Read. -/
theorem Read_any (l : List UInt8) (w : World) (h : l.length ≤ 65536) :
    Calls Tryz.prog 90 #[.string ⟨l.toArray⟩] w (RdPost l w) := by
  have hI : (l.length : Int) ≤ 65536 := by omega
  go_enter Tryz.func90, Tryz.ntmps90
  go_wp2_with fail
  refine (CutPrefix_minus l _ (by unfold maxLen; omega)).mono ?_
  have hb2 : Bx (w.alloc (.cells #[.bool false, .slice none 0 0] 24)) w.heap.size (.bool false) (.slice none 0 0) := Bx.new _ _ _ rfl
  have hbw : Below w.heap.size w (w.alloc (.cells #[.bool false, .slice none 0 0] 24)) := (Below.refl _ _).alloc (Nat.le_refl _) _
  have hsz : w.heap.size < (w.alloc (.cells #[.bool false, .slice none 0 0] 24)).heap.size := by simp
  generalize (w.alloc (.cells #[.bool false, .slice none 0 0] 24)) = W at *
  have c0 := hb2.c0
  have c1 := hb2.c1
  have f0 := hb2.f0
  have f1 := hb2.f1
  rintro e w' hpre
  obtain ⟨s, r, rfl, rfl, hrl, hP⟩ := hpre.out
  have HP : Hid (Pre l s r) := hP
  clear hpre hP
  go_wp2_with fail
  refine (isNumeral_any r _ (by omega)).mono ?_
  rintro e w' ⟨b, rfl, hb, rfl⟩
  have HB : Hid ((b = true → numeral r) ∧ (numeral r → b = true)) := ⟨hb.1, hb.2⟩
  clear hb
  cases b
  · go_wp2
    refine bodyPost_ret (v := .tuple #[.agg #[.bool false, .slice none 0 0], .int .i64 8]) (by simp [results, Tryz.results90, go_sem, c0, c1]) rfl (.inr ⟨HP.out.none (fun h => by cases HB.out.2 h), rfl, ?_⟩)
    exact (hbw.setCell (by simp) _).setCell (by simp) _
  · have HT : Hid (numeral r) := HB.out.1 rfl
    clear HB
    by_cases h0 : l = [45, 48]
    · subst h0
      go_wp2
      refine bodyPost_ret (v := .tuple #[.agg #[.bool false, .slice none 0 0], .int .i64 8]) (by simp [results, Tryz.results90, go_sem, c0, c1]) rfl (.inr ⟨fun _ _ => isNum_no, rfl, ?_⟩)
      exact (hbw.setCell (by simp) _).setCell (by simp) _
    · have e0 : (l == [45, 48]) = false := by simpa using h0
      have H0 : Hid (l ≠ [45, 48]) := h0
      clear h0
      go_wp2_with fail
      refine (value_any r _ (by omega) HT.out.1).mono ?_
      rintro e w1 ⟨g, n, cap, R, rfl, r1, r2, r3, r4, r5, r6⟩
      have hcp : n ≤ cap ∧ cap ≤ maxLen := by
        rcases r1.2 with ⟨h, _⟩ | ⟨g', cap', cur, h, _, _, h4, h5, _⟩
        · cases h
        · cases h; exact ⟨by omega, h5⟩
      have hrd : Rd w1 (some ⟨g, 0, none⟩) .u32 R := rd_owns r1
      have hBg : W.heap.size ≤ g := (r1.lt g rfl).1
      have HR : Hid (U32 R ∧ val R = dv (bz r)) := ⟨r2, r3⟩
      clear r1 r3
      go_wp2_with fail
      refine (number_any s (some ⟨g, 0, none⟩) n cap R _ r4 hcp.1 hcp.2 hrd).mono ?_
      rintro e w2 ⟨rfl, hb4⟩
      have hB2 := hb2.later r6
      obtain ⟨z0, z1, z2, z3⟩ := resbox hb4 hB2.c0 hB2.c1 hB2.f0 hB2.f1
      have hN := (ni_number (B := W.heap.size) (q := some ⟨g, 0, none⟩) s hrd r2 (from_new hBg)).below hb4
      have htl := tlen_le R
      clear c0 c1 f0 f1
      go_wp2
      refine bodyPost_ret (v := .tuple #[.agg #[.bool (nsg s R), .slice (nad (some ⟨g, 0, none⟩) R) (tlen R) (tlen R)], .int .i64 0]) (by simp [results, Tryz.results90, go_sem, z0, z1]) rfl (.inl ⟨s, r, _, _, _, tr R, ⟨HT.out, HP.out.1, H0.out⟩, rfl, ?_, by omega, ?_⟩)
      · have hv : ival s R = (if s then - dv (bz r) else dv (bz r)) := by rw [ival, HR.out.2]
        rw [← hv]
        exact ((hN.set hsz _).set hsz _).mono (by omega)
      · exact ((bnext (bnext hbw (Nat.le_refl _) r6) (Nat.le_refl _) hb4).setCell (by simp) _).setCell (by simp) _
end Go.Proofs.YtongkalfdgleaaaGreatDoor
