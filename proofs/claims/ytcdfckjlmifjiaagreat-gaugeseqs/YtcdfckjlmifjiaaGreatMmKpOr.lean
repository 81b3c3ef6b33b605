/-
  How slices of integers lie in memory: what is read, what is owned whole.
-/
import Derived.Test.YtcdfckjlmifjiaaGreatPl
import Derived.Deep.QuietTactic
import Derived.BigQuiet
import Derived.Laws.CopyOwn
import Derived.Deep.AppendLies
import Derived.Deep.RegionHeld3
import Derived.Deep.MidRow
import Derived.Deep.WholeRow
import Derived.Test.YtcdfckjlmifjiaaGreatProg
import Derived.Lib.Mul64
import Derived.Laws.Bits64b
import Derived.Deep.DeepFit
namespace Go.Proofs.YtcdfckjlmifjiaaGreat
open Go.RowKit
set_option linter.unusedVariables false
set_option linter.unusedSimpArgs false

/-- The integers xs (of kind k) lie at p. -/
def Rd (w : World) (p : Option Addr) (k : IntKind) (xs : List Int) : Prop :=
  0 < xs.length → ∃ b off, p = some ⟨b, off, none⟩ ∧ ∀ j, j < xs.length → w.cell? ⟨b, off + j, none⟩ = some (.int k (gx xs j))

/-- The cells of integers. (A name of its own: the walk leaves it standing.) -/
def ca (k : IntKind) (xs : List Int) : Array Value := (xs.map (Value.int k)).toArray

/-- Block g is a row of integers, known whole. -/
def Row (w : World) (g : Nat) (e : TypeId) (k : IntKind) (xs : List Int) : Prop := w.heap[g]? = some (.cells (ca k xs) e (0, 0))

/-- p lies from block B on, if anywhere. -/
def From (B : Nat) (p : Option Addr) : Prop := ∀ a, p = some a → B ≤ a.block

/-- p doesn't lie in block g. -/
def Off (g : Nat) (p : Option Addr) : Prop := ∀ a, p = some a → a.block ≠ g

section
variable {w w' : World} {g : Nat} {e : TypeId} {k : IntKind} {xs : List Int} {p : Option Addr}

theorem Row.lt (h : Row w g e k xs) : g < w.heap.size := (Array.getElem?_eq_some_iff.1 h).1
theorem Row.cell (h : Row w g e k xs) (j : Nat) (hj : j < xs.length) : w.cell? ⟨g, j, none⟩ = some (.int k (gx xs j)) := by
  rw [cell_of_row w g j _ e (0, 0) h, gx_mem xs j hj]; simp [ca, hj]
theorem Row.frozen (h : Row w g e k xs) (j : Nat) : w.frozen? ⟨g, j, none⟩ = false := frozen_of_row w g j _ e h
theorem Row.set (h : Row w g e k xs) (j : Nat) (v : Int) : Row (w.setCell ⟨g, j, none⟩ (.int k v)) g e k (xs.set j v) := by
  unfold Row
  rw [heap_setCell_same w g j _ e _ h]
  simp [ca, List.map_set]
theorem Row.kept {row : Option Nat} (h : Row w g e k xs) (hg : w.grownBy w' row) (hne : some g ≠ row) : Row w' g e k xs := (hg.block g h.lt hne).trans h
theorem Row.below {B : Nat} (h : Row w g e k xs) (hb : Below B w w') (hg : g < B) : Row w' g e k xs := (hb.block g hg).trans h
theorem Row.drew (h : Row w g e k xs) : Row w.drew g e k xs := h
theorem Row.alloc (h : Row w g e k xs) (o : Obj) : Row (w.alloc o) g e k xs := (Below.heap_alloc w o g h.lt).trans h
theorem Row.new (w : World) (e : TypeId) (k : IntKind) (xs : List Int) : Row (w.alloc (.cells (ca k xs) e)) w.heap.size e k xs := heap_alloc_new w _
theorem Row.set_other (h : Row w g e k xs) (a : Addr) (v : Value) (hne : g ≠ a.block) : Row (w.setCell a v) g e k xs := (heap_setCell_other w a g v hne).trans h
theorem Row.rd (h : Row w g e k xs) (o n : Nat) (hn : o + n ≤ xs.length) : Rd w (some ⟨g, o, none⟩) k ((xs.drop o).take n) := fun _ =>
  ⟨g, o, rfl, fun j hj => by
    have hj' : j < n := by simp at hj; omega
    rw [gx_take _ _ _ hj', gx_drop]
    exact h.cell (o + j) (by omega)⟩
theorem Row.rd_all (h : Row w g e k xs) : Rd w (some ⟨g, 0, none⟩) k xs := fun _ => ⟨g, 0, rfl, fun j hj => by rw [Nat.zero_add]; exact h.cell j hj⟩
theorem Row.rd_take (h : Row w g e k xs) (n : Nat) : Rd w (some ⟨g, 0, none⟩) k (xs.take n) := fun _ => ⟨g, 0, rfl, fun j hj => by
  have : j < n ∧ j < xs.length := by simp at hj; omega
  rw [Nat.zero_add, gx_take _ _ _ this.1]; exact h.cell j this.2⟩

theorem Row.step {Z new : List Int} {o : Nat} (h : Row w g e k (Z.take o ++ new ++ Z.drop (o + new.length))) (hl : o + new.length < Z.length) (v : Int) :
    Row (w.setCell ⟨g, o + new.length, none⟩ (.int k v)) g e k (Z.take o ++ (new ++ [v]) ++ Z.drop (o + (new ++ [v]).length)) := by
  have := h.set (o + new.length) v
  rw [row_set Z new o _ hl] at this
  simpa using this
theorem Row.at {Z new : List Int} {o j : Nat} (h : Row w g e k (Z.take o ++ new ++ Z.drop (o + new.length))) (hl : o + new.length ≤ Z.length) (hj : o + new.length ≤ j) (hj' : j < Z.length) :
    w.cell? ⟨g, j, none⟩ = some (.int k (gx Z j)) := by
  have := h.cell j (by rw [row_length Z new o hl]; exact hj')
  rwa [row_gx Z new o j hl hj] at this

theorem Rd.nil : Rd w p k [] := fun h => by simp at h
theorem Rd.lt (h : Rd w p k xs) (hx : 0 < xs.length) : ∃ b off, p = some ⟨b, off, none⟩ ∧ b < w.heap.size := by
  obtain ⟨b, off, hp, hc⟩ := h hx
  exact ⟨b, off, hp, block_lt_of_cell (hc 0 hx)⟩
theorem Rd.same (h : Rd w p k xs) (hs : ∀ a, p = some a → a.block < w.heap.size → w'.heap[a.block]? = w.heap[a.block]?) : Rd w' p k xs := fun hx => by
  obtain ⟨b, off, hp, hc⟩ := h hx
  refine ⟨b, off, hp, fun j hj => ?_⟩
  have hlt : b < w.heap.size := block_lt_of_cell (hc 0 hx)
  rw [← hc j hj]
  exact World.cell?_of_block (a := ⟨b, off + j, none⟩) (hs ⟨b, off, none⟩ hp hlt)
theorem Rd.kept {row : Option Nat} (h : Rd w p k xs) (hg : w.grownBy w' row) (hne : ∀ a, p = some a → some a.block ≠ row) : Rd w' p k xs :=
  h.same fun a ha hlt => hg.block a.block hlt (hne a ha)
theorem Rd.keptOff (h : Rd w p k xs) (hg : w.grownBy w' (some g)) (hne : Off g p) : Rd w' p k xs :=
  h.kept hg fun a ha e => hne a ha (Option.some.inj e)
theorem Rd.below (h : Rd w p k xs) (hb : Below w.heap.size w w') : Rd w' p k xs := h.same fun a _ hlt => hb.block a.block hlt
theorem Rd.off (h : Rd w p k xs) (hg : w.heap.size ≤ g) (hx : 0 < xs.length) : Off g p := fun a ha e => by
  obtain ⟨b, off, hp, hlt⟩ := h.lt hx
  rw [hp] at ha
  cases ha
  simp at e; omega
theorem Rd.drew (h : Rd w p k xs) : Rd w.drew p k xs := h
theorem Rd.alloc (h : Rd w p k xs) (o : Obj) : Rd (w.alloc o) p k xs := h.same fun a _ hlt => Below.heap_alloc w o a.block hlt
theorem Rd.set_other (h : Rd w p k xs) (a : Addr) (v : Value) (hne : Off a.block p) : Rd (w.setCell a v) p k xs := h.same fun b hb _ => heap_setCell_other w a b.block v (hne b hb)
theorem Rd.take (h : Rd w p k xs) (n : Nat) : Rd w p k (xs.take n) := fun hx => by
  obtain ⟨b, off, hp, hc⟩ := h (by simp at hx; omega)
  refine ⟨b, off, hp, fun j hj => ?_⟩
  have : j < n ∧ j < xs.length := by simp at hj; omega
  rw [gx_take _ _ _ this.1]; exact hc j this.2
theorem Rd.tr (h : Rd w p k xs) : Rd w p k (tr xs) := h.take _
end

/-- p lies, if anywhere, in a block that may be written. -/
def Fz (w : World) (p : Option Addr) : Prop := ∀ a, p = some a → a.block < w.heap.size ∧ ∀ j, w.frozen? ⟨a.block, j, none⟩ = false
theorem Row.fz {w : World} {g : Nat} {e : TypeId} {k : IntKind} {xs : List Int} (h : Row w g e k xs) (o : Nat) : Fz w (some ⟨g, o, none⟩) := fun a ha => by cases ha; exact ⟨h.lt, h.frozen⟩
theorem Fz.nil (w : World) : Fz w none := fun a ha => by cases ha
theorem Fz.below {w w' : World} {p : Option Addr} (h : Fz w p) (hb : Below w.heap.size w w') : Fz w' p := fun a ha => ⟨Nat.lt_of_lt_of_le (h a ha).1 hb.size, fun j => (hb.frozen (p := ⟨a.block, j, none⟩) (h a ha).1).trans ((h a ha).2 j)⟩
theorem Fz.set {w : World} {p : Option Addr} (h : Fz w p) (b : Addr) (v : Value) : Fz (w.setCell b v) p := fun a ha => ⟨by simpa [World.setCell] using (h a ha).1, fun j => by rw [World.frozen?_setCell]; exact (h a ha).2 j⟩
theorem Fz.drew {w : World} {p : Option Addr} (h : Fz w p) : Fz w.drew p := h
theorem Fz.kept {w w' : World} {p : Option Addr} {row : Option Nat} (h : Fz w p) (hg : w.grownBy w' row) (hne : ∀ a, p = some a → some a.block ≠ row) : Fz w' p := fun a ha => ⟨Nat.lt_of_lt_of_le (h a ha).1 hg.size, fun j => (hg.frozen_far ⟨a.block, j, none⟩ (h a ha).1 (hne a ha)).trans ((h a ha).2 j)⟩

theorem grownBy_refl (w : World) (row : Option Nat) : w.grownBy w row := ⟨rfl, rfl, rfl, Nat.le_refl _, fun _ _ _ => rfl⟩
theorem grownBy_trans {a b c : World} {row : Option Nat} (h : a.grownBy b row) (k : b.grownBy c row) : a.grownBy c row :=
  ⟨k.os.trans h.os, k.tape.trans h.tape, k.output.trans h.output, Nat.le_trans h.size k.size, fun i hi hne => (k.block i (Nat.lt_of_lt_of_le hi h.size) hne).trans (h.block i hi hne)⟩
theorem grownBy_setCell {a w : World} {g : Nat} (h : a.grownBy w (some g)) (j : Nat) (v : Value) : a.grownBy (w.setCell ⟨g, j, none⟩ v) (some g) :=
  grownBy_trans h ⟨rfl, rfl, rfl, by simp [World.setCell], fun i _ hne => heap_setCell_other w _ i v (fun e => hne (by rw [e]))⟩
theorem grownBy_drew {a w : World} {row : Option Nat} (h : a.grownBy w row) : a.grownBy w.drew row := ⟨h.os, h.tape, h.output, h.size, h.block⟩
theorem grownBy_below {a w : World} (h : Below a.heap.size a w) (row : Option Nat) : a.grownBy w row := ⟨h.os, h.tape, h.output, h.size, fun k hk _ => h.block k hk⟩
theorem below_of_grown {w w' : World} (h : w.grownBy w' none) : Below w.heap.size w w' := ⟨h.os, h.tape, h.output, h.size, fun k hk => h.block k hk (by simp)⟩
/-- The one row that was written is newer than B. -/
theorem below_grown {B : Nat} {a w w' : World} {g : Nat} (h : Below B a w) (hg : w.grownBy w' (some g)) (hB : B ≤ w.heap.size) (hr : B ≤ g) : Below B a w' :=
  h.grown hg hB (fun k e => by cases e; exact hr)

/-- What make lays: noughts. -/
def zeros (n : Nat) : List Int := List.replicate n 0
theorem length_zeros (n : Nat) : (zeros n).length = n := by simp [zeros]
theorem gx_zeros (n j : Nat) : gx (zeros n) j = 0 := by
  by_cases h : j < n
  · simp [gx, zeros, h]
  · exact gx_past _ n (by simp [zeros]) j (by omega)
theorem val_zero (n : Nat) : val (zeros n) = 0 := val_zeros _ (gx_zeros n)
theorem u32_zeros (n : Nat) : U32 (zeros n) := fun j => by rw [gx_zeros]; decide
theorem made_zeros (k : IntKind) (n : Nat) : madeCells #[.int k 0] (n * 1) = ca k (zeros n) := by
  apply Array.ext
  · simp [size_madeCells, zeros, ca]
  · intro i h1 h2
    simp [madeCells, zeros, ca, Nat.mod_one]
theorem size_ca (k : IntKind) (xs : List Int) : (ca k xs).size = xs.length := by simp [ca]
theorem oneCell_ca (k : IntKind) (xs : List Int) : ∀ v ∈ xs.map (Value.int k), v.oneCell' = true := fun v hv => by
  obtain ⟨x, _, rfl⟩ := List.mem_map.1 hv
  rfl
/-- The cells that are read, as the laws of copy and append ask for them. -/
theorem Rd.src {w : World} {k : IntKind} {xs : List Int} {b off : Nat} (h : ∀ j, j < xs.length → w.cell? ⟨b, off + j, none⟩ = some (.int k (gx xs j))) :
    ∀ j v, (xs.map (Value.int k))[j]? = some v → w.cell? ((⟨b, off, none⟩ : Addr).add j) = some v := fun j v hv => by
  rw [Addr.add_mid]
  rw [List.getElem?_map] at hv
  cases hx : xs[j]? with
  | none => rw [hx] at hv; cases hv
  | some x =>
    rw [hx] at hv
    have hj := (List.getElem?_eq_some_iff.1 hx)
    rw [h j hj.1, gx_mem xs j hj.1, hj.2]
    exact hv
end Go.Proofs.YtcdfckjlmifjiaaGreat
/-
  What a function leaves that writes into two rows.
-/
namespace Go.Proofs.YtcdfckjlmifjiaaGreat
open Go.RowKit
set_option linter.unusedVariables false
set_option linter.unusedSimpArgs false

/-- All but the blocks g and h is as it was. -/
structure Kp (g h : Nat) (w w' : World) : Prop where
  block : ∀ k, k < w.heap.size → k ≠ g → k ≠ h → w'.heap[k]? = w.heap[k]?
  os : w'.os = w.os
  tape : w'.tape = w.tape
  output : w'.output = w.output
  size : w.heap.size ≤ w'.heap.size
theorem Kp.refl (g h : Nat) (w : World) : Kp g h w w := ⟨fun _ _ _ _ => rfl, rfl, rfl, rfl, Nat.le_refl _⟩
theorem Kp.grown {g h x : Nat} {w w1 w2 : World} (k : Kp g h w w1) (hg : w1.grownBy w2 (some x)) (hx : x = g ∨ x = h) : Kp g h w w2 :=
  ⟨fun i hi a b => (hg.block i (Nat.lt_of_lt_of_le hi k.size) (fun e => by cases e; rcases hx with rfl | rfl <;> contradiction)).trans (k.block i hi a b), hg.os.trans k.os, hg.tape.trans k.tape, hg.output.trans k.output, Nat.le_trans k.size hg.size⟩
end Go.Proofs.YtcdfckjlmifjiaaGreat
/-
  math/bits.Mul64; the totals of package estimate, and its Times.
-/
namespace Go.Proofs.YtcdfckjlmifjiaaGreat
open Go.RowKit
set_option linter.unusedVariables false
set_option linter.unusedSimpArgs false

/-- A product that stops at the top; a factor below 1 counts as 1. -/
def tmf (c x : Int) : Int := min (c * max x 1) 4611686018427387904
def tms (xs : List Int) : Int := xs.foldl tmf 1
theorem tms_take (c : Int) (xs : List Int) (k : Nat) (h : k < xs.length) : (xs.take (k + 1)).foldl tmf c = tmf ((xs.take k).foldl tmf c) (gx xs k) := by
  rw [List.take_succ_eq_append_getElem h, List.foldl_append, gx_mem xs k h]
  rfl
theorem tmf_bd {c x : Int} (h0 : 1 ≤ c) : 1 ≤ tmf c x ∧ tmf c x ≤ 4611686018427387904 := by
  have h := Int.mul_le_mul h0 (Int.le_max_right x 1) (by decide) (by omega)
  unfold tmf
  omega
theorem tms_bd : ∀ (xs : List Int) (c : Int), 1 ≤ c → c ≤ 4611686018427387904 → 1 ≤ xs.foldl tmf c ∧ xs.foldl tmf c ≤ 4611686018427387904
  | [], c, h0, h1 => ⟨h0, h1⟩
  | x :: xs, c, h0, h1 => tms_bd xs (tmf c x) (tmf_bd h0).1 (tmf_bd h0).2
theorem m64_mask (a : Nat) (ha : a < 18446744073709551616) : bits .and .u64 (a : Int) 4294967295 = ((a % 4294967296 : Nat) : Int) := by
  have h := bits_and_u64_nat a 4294967295 ha (by omega)
  have e : a &&& 4294967295 = a % 4294967296 := Nat.and_two_pow_sub_one_eq_mod a 32
  rw [e] at h
  exact h
theorem m64_div (a : Nat) : (a : Int) / 4294967296 = ((a / 4294967296 : Nat) : Int) := by omega
theorem m64_mul (a b : Nat) : (a : Int) * (b : Int) = ((a * b : Nat) : Int) := (Int.natCast_mul a b).symm
theorem m64_add (a b : Nat) : (a : Int) + (b : Int) = ((a + b : Nat) : Int) := (Int.natCast_add a b).symm
theorem m64_wrap (a : Nat) (ha : a < 18446744073709551616) : IntKind.u64.wrap (a : Int) = (a : Int) := by rw [IntKind.wrap_u64]; omega
theorem m64_wrapM (a : Nat) : IntKind.u64.wrap (a : Int) = ((a % 18446744073709551616 : Nat) : Int) := by rw [IntKind.wrap_u64]; omega
set_option maxHeartbeats 1000000 in
set_option maxRecDepth 100000 in
/-- math/bits.Mul64. -/
theorem Mul64_any (x y : Nat) (hx : x < 18446744073709551616) (hy : y < 18446744073709551616) (w : World) :
    Calls Tryz.prog 88 #[.int .u64 x, .int .u64 y] w fun e w' => e = .returned (.tuple #[.int .u64 ((x * y / 18446744073709551616 : Nat) : Int), .int .u64 ((x * y % 18446744073709551616 : Nat) : Int)]) ∧ w' = w := by
  obtain ⟨bd, bt, bw, hhi⟩ := Lib.mul64_hi x y hx hy
  have ba := Lib.half_mul_le (a := x / 4294967296) (b := y / 4294967296) (by omega) (by omega)
  have bb := Lib.half_mul_le (a := x / 4294967296) (b := y % 4294967296) (by omega) (by omega)
  have bc := Lib.half_mul_le (a := x % 4294967296) (b := y / 4294967296) (by omega) (by omega)
  have ba' : x / 4294967296 * (y / 4294967296) < 18446744073709551616 := by omega
  have bb' : x / 4294967296 * (y % 4294967296) < 18446744073709551616 := by omega
  have bc' : x % 4294967296 * (y / 4294967296) < 18446744073709551616 := by omega
  have bh1 : x / 4294967296 * (y / 4294967296) + (x / 4294967296 * (y % 4294967296) + x % 4294967296 * (y % 4294967296) / 4294967296) / 4294967296 < 18446744073709551616 := by omega
  have bh : x / 4294967296 * (y / 4294967296) + (x / 4294967296 * (y % 4294967296) + x % 4294967296 * (y % 4294967296) / 4294967296) / 4294967296 + ((x / 4294967296 * (y % 4294967296) + x % 4294967296 * (y % 4294967296) / 4294967296) % 4294967296 + x % 4294967296 * (y / 4294967296)) / 4294967296 < 18446744073709551616 := by omega
  go_enter Tryz.func88, Tryz.ntmps88
  go_wp2
  simp only [m64_mask x hx, m64_mask y hy, m64_div, m64_mul, m64_add, m64_wrap _ bd, m64_wrap _ bb', m64_wrap _ bt, m64_mask _ bt, m64_wrap _ bc', m64_wrap _ bw, m64_wrap _ ba', m64_wrap _ bh1, m64_wrap _ bh, m64_wrapM (x * y)]
  rw [hhi]
  go_ret2
  exact ⟨rfl, rfl⟩
/-- What a total's methods leave. -/
structure TmP (r : Nat) (v : Int) (w w' : World) : Prop where
  cell : w'.cell? ⟨r, 0, none⟩ = some (.int .i64 v)
  fz : w'.frozen? ⟨r, 0, none⟩ = false
  kp : Kp r r w w'
set_option maxHeartbeats 1000000 in
set_option maxRecDepth 100000 in
/-- (total).multiply. -/
theorem emul_any {w : World} {r : Nat} {c n : Int} (hc : w.cell? ⟨r, 0, none⟩ = some (.int .i64 c)) (hf : w.frozen? ⟨r, 0, none⟩ = false) (h0 : 0 ≤ c) (h1 : c ≤ 4611686018427387904) (h2 : 0 ≤ n) (h3 : n ≤ 9223372036854775807) :
    Calls Tryz.prog 76 #[.pointer (some ⟨r, 0, none⟩), .int .i64 n] w fun e w' => e = .returned (.tuple #[]) ∧ TmP r (min (c * n) 4611686018427387904) w w' := by
  obtain ⟨x, rfl⟩ := Int.eq_ofNat_of_zero_le h0
  obtain ⟨y, rfl⟩ := Int.eq_ofNat_of_zero_le h2
  have hm := fun w => Mul64_any x y (by omega) (by omega) w
  have e0 : x * y = 18446744073709551616 * (x * y / 18446744073709551616) + x * y % 18446744073709551616 := (Nat.div_add_mod _ _).symm
  have e1 : x * y % 18446744073709551616 < 18446744073709551616 := Nat.mod_lt _ (by decide)
  have v1 : IntKind.u64.wrap (x : Int) = x := m64_wrap x (by omega)
  have v2 : IntKind.u64.wrap (y : Int) = y := m64_wrap y (by omega)
  have HM : Hid (((x : Int) * (y : Int)) = ((x * y : Nat) : Int)) := m64_mul x y
  generalize x * y / 18446744073709551616 = H at *
  generalize x * y % 18446744073709551616 = L at *
  generalize hq : x * y = q at *
  clear hq
  have fin : ∀ v : Int, v = min ((x : Int) * (y : Int)) 4611686018427387904 → TmP r (min ((x : Int) * (y : Int)) 4611686018427387904) w (w.setCell ⟨r, 0, none⟩ (.int .i64 v)) := fun v hv => by
    subst hv
    refine ⟨?_, ?_, ?_⟩
    · simp [go_sem, hc]
    · simp [go_sem, hf]
    · exact ⟨fun i hi a b => heap_setCell_other w ⟨r, 0, none⟩ i _ a, rfl, rfl, rfl, by simp [World.setCell]⟩
  go_enter Tryz.func76, Tryz.ntmps76
  go_wp2_with fail
  refine (hm _).mono ?_
  rintro e w1 ⟨rfl, rfl⟩
  have HF : Hid (∀ v : Int, v = min ((x : Int) * (y : Int)) 4611686018427387904 → TmP r (min ((x : Int) * (y : Int)) 4611686018427387904) w1 (w1.setCell ⟨r, 0, none⟩ (.int .i64 v))) := fin
  have HE : Hid (q = 18446744073709551616 * H + L) := e0
  clear fin hm v1 v2 e0
  rcases Nat.lt_or_ge 0 H with hH | hH
  · have i1 : (0 : Int) < (H : Int) := by omega
    have hv : (4611686018427387904 : Int) = min ((x : Int) * (y : Int)) 4611686018427387904 := by have := HM.out; have := HE.out; omega
    have HV : Hid _ := HF.out _ hv
    clear hv
    go_wp2
    go_end0
    exact ⟨rfl, HV.out⟩
  · have i1 : ¬ (0 : Int) < (H : Int) := by omega
    rcases Nat.lt_or_ge 4611686018427387904 L with hL | hL
    · have i2 : (4611686018427387904 : Int) < (L : Int) := by omega
      have hv : (4611686018427387904 : Int) = min ((x : Int) * (y : Int)) 4611686018427387904 := by have := HM.out; have := HE.out; omega
      have HV : Hid _ := HF.out _ hv
      clear hv
      go_wp2
      go_end0
      exact ⟨rfl, HV.out⟩
    · have i2 : ¬ (4611686018427387904 : Int) < (L : Int) := by omega
      have v3 : wrap64 (L : Int) = L := by unfold wrap64; omega
      have hv : (L : Int) = min ((x : Int) * (y : Int)) 4611686018427387904 := by have := HM.out; have := HE.out; omega
      have HV : Hid _ := HF.out _ hv
      clear hv
      go_wp2
      go_end0
      exact ⟨rfl, HV.out⟩
set_option maxHeartbeats 1000000 in
set_option maxRecDepth 100000 in
/-- (total).raise. -/
theorem eraise_any {w : World} {r : Nat} {c n : Int} (hc : w.cell? ⟨r, 0, none⟩ = some (.int .i64 c)) (hf : w.frozen? ⟨r, 0, none⟩ = false) (h0 : 1 ≤ c) (h1 : c ≤ 4611686018427387904) (h3 : n ≤ 9223372036854775807) :
    Calls Tryz.prog 71 #[.pointer (some ⟨r, 0, none⟩), .int .i64 n] w fun e w' => e = .returned (.tuple #[]) ∧ TmP r (tmf c n) w w' := by
  have ht : tmf c n = min (c * max n 1) 4611686018427387904 := by unfold tmf; rfl
  rcases Int.lt_or_le n 1 with hn | hn
  · have h4 : max n 1 = 1 := by omega
    rw [h4] at ht
    have hm := emul_any (n := 1) hc hf (by omega) h1 (by omega) (by omega)
    rw [← ht] at hm
    clear ht
    have hn' : ¬ 1 ≤ n := by omega
    go_enter Tryz.func71, Tryz.ntmps71
    go_wp2_with fail
    all_goals first
      | omega
      | (go_fit hm
         rintro e w1 ⟨rfl, h⟩
         have H : Hid (TmP r (tmf c n) w w1) := h
         clear h
         go_wp2
         go_end0
         exact ⟨rfl, H.out⟩)
  · have h4 : max n 1 = n := by omega
    rw [h4] at ht
    have hm := emul_any (n := n) hc hf (by omega) h1 (by omega) (by omega)
    rw [← ht] at hm
    clear ht
    have hn' : ¬ n < 1 := by omega
    go_enter Tryz.func71, Tryz.ntmps71
    go_wp2_with fail
    all_goals first
      | omega
      | (go_fit hm
         rintro e w1 ⟨rfl, h⟩
         have H : Hid (TmP r (tmf c n) w w1) := h
         clear h
         go_wp2
         go_end0
         exact ⟨rfl, H.out⟩)
theorem Kp.comp {r : Nat} {a b c : World} (h : Kp r r a b) (k : Kp r r b c) : Kp r r a c :=
  ⟨fun i hi x y => (k.block i (Nat.lt_of_lt_of_le hi h.size) x y).trans (h.block i hi x y), k.os.trans h.os, k.tape.trans h.tape, k.output.trans h.output, Nat.le_trans h.size k.size⟩
theorem Kp.cells {r : Nat} {a b : World} (h : Kp r r a b) {x : Addr} {v : Value} (hx : x.block ≠ r) (hc : a.cell? x = some v) : b.cell? x = some v :=
  (World.cell?_of_block (h.block x.block (block_lt_of_cell hc) hx hx)).trans hc
theorem Kp.bel {r B : Nat} {w0 a b : World} (h : Kp r r a b) (hB : Below B w0 a) (h1 : B ≤ r) (h2 : B ≤ a.heap.size) : Below B w0 b :=
  ⟨h.os.trans hB.os, h.tape.trans hB.tape, h.output.trans hB.output, Nat.le_trans hB.size h.size, fun k hk => (h.block k (by omega) (by omega) (by omega)).trans (hB.block k hk)⟩
set_option maxHeartbeats 1000000 in
set_option maxRecDepth 100000 in
/-- each, with raise. -/
theorem eeach_any {w : World} {p : Option Addr} {n nc r : Nat} {xs : List Int} (hl : xs.length = n) (hX : Rd w p .i64 xs) (hn : n ≤ 1000000) (hx : ∀ j, j < n → gx xs j ≤ 9223372036854775807) (hr : ∀ a, p = some a → 0 < n → a.block ≠ r)
    (hc : w.cell? ⟨r, 0, none⟩ = some (.int .i64 1)) (hf : w.frozen? ⟨r, 0, none⟩ = false) :
    Calls Tryz.prog 70 #[.slice p n nc, .func (.func 71) #[.pointer (some ⟨r, 0, none⟩)] #[]] w fun e w' => e = .returned (.tuple #[]) ∧ TmP r (tms xs) w w' := by
  have HX : Hid (xs.length = n ∧ Rd w p .i64 xs ∧ (∀ j, j < n → gx xs j ≤ 9223372036854775807) ∧ ∀ a, p = some a → 0 < n → a.block ≠ r) := ⟨hl, hX, hx, hr⟩
  have H0 : Hid (TmP r 1 w w) := ⟨hc, hf, ⟨fun _ _ _ _ => rfl, rfl, rfl, rfl, Nat.le_refl _⟩⟩
  clear hl hX hx hr hc hf
  go_enter Tryz.func70, Tryz.ntmps70
  go_wp2_with fail
  go_loopw [5, 8] (fun nv iv wr => ∃ k : Nat, k ≤ n ∧ iv = .int .i64 k ∧ Hid (TmP r (tms (xs.take k)) w wr)) (fun _ iv _ => n - (intOf iv).toNat)
  case atStart => exact ⟨0, Nat.zero_le _, by go_num, H0.out⟩
  case round =>
    obtain ⟨k, hk, rfl, H⟩ := hrel
    obtain ⟨hl, hX, hx, hr⟩ := HX.out
    rcases Nat.lt_or_ge k n with hlt | hge
    · obtain ⟨b, o, hp, hc⟩ := hX (by omega)
      subst hp
      have c0 := H.out.kp.cells (x := ⟨b, o + k, none⟩) (hr ⟨b, o, none⟩ rfl (by omega)) (hc k (by omega))
      obtain ⟨d1, d2⟩ := tms_bd (xs.take k) 1 (by decide) (by decide)
      have hm := eraise_any H.out.cell H.out.fz d1 d2 (hx k hlt)
      have HT : Hid (tms (xs.take (k + 1)) = tmf (tms (xs.take k)) (gx xs k)) := tms_take 1 xs k (by omega)
      have i1 : (k : Int) < (n : Int) := by omega
      clear hl hX hx hr hc d1 d2
      go_wp2_with fail
      refine hm.mono ?_
      rintro e w1 ⟨rfl, h⟩
      have H1 : Hid (TmP r (tms (xs.take (k + 1))) w w1) := ⟨by rw [HT.out]; exact h.cell, h.fz, H.out.kp.comp h.kp⟩
      clear h hm c0
      go_wp2_with fail
      refine ⟨⟨k + 1, by omega, by go_num, H1.out⟩, by simp [intOf]; omega⟩
    · obtain rfl : k = n := by omega
      have HE : Hid (TmP r (tms xs) w wr) := by have h := H.out; rw [List.take_of_length_le (by omega)] at h; exact h
      have i1 : ¬ (k : Int) < (k : Int) := by omega
      clear hX hx hl hr
      go_wp2
      go_end0
      exact ⟨rfl, HE.out⟩
set_option maxHeartbeats 1000000 in
set_option maxRecDepth 100000 in
/-- estimate.Times. -/
theorem eTimes_any {w : World} {p : Option Addr} {n nc : Nat} {xs : List Int} (hl : xs.length = n) (hX : Rd w p .i64 xs) (hn : n ≤ 1000000) (hx : ∀ j, j < n → gx xs j ≤ 9223372036854775807) :
    Calls Tryz.prog 49 #[.slice p n nc] w fun e w' => e = .returned (.int .i64 (tms xs)) ∧ Below w.heap.size w w' := by
  have hp : ∀ a, p = some a → 0 < n → a.block < w.heap.size := fun a ha h0 => by
    obtain ⟨b, o, e, hlt⟩ := hX.lt (by omega)
    rw [e] at ha
    cases ha
    exact hlt
  have HX : Hid (xs.length = n ∧ Rd w p .i64 xs ∧ (∀ j, j < n → gx xs j ≤ 9223372036854775807) ∧ ∀ a, p = some a → 0 < n → a.block < w.heap.size) := ⟨hl, hX, hx, hp⟩
  clear hl hX hx hp
  go_enter Tryz.func49, Tryz.ntmps49
  go_wp2_with fail
  obtain ⟨hl, hX, hx, hp⟩ := HX.out
  have hb0 : Below w.heap.size w (w.alloc (.cells #[.int .i64 1] 102)) := (Below.refl _ _).alloc (Nat.le_refl _) _
  refine (eeach_any (xs := xs) hl (hX.below hb0) hn hx (fun a ha h0 => Nat.ne_of_lt (hp a ha h0)) (by simp [go_sem]) (by simp [go_sem])).mono ?_
  rintro e w1 ⟨rfl, h⟩
  have c1 := h.cell
  have HB : Hid (Below w.heap.size w w1) := h.kp.bel hb0 (Nat.le_refl _) (by simp)
  clear h hb0 hl hX hx hp
  go_wp2
  go_ret
  exact ⟨rfl, HB.out⟩
end Go.Proofs.YtcdfckjlmifjiaaGreat
