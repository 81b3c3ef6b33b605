/-
  Arguments, read as data: what every card wants.
-/
import Derived.Test.YtcdfckjlmifjiaaMm
import Derived.Test.YtcdfckjlmifjiaaProg
import Derived.ProofKit
import Derived.OpenShut
import Derived.Lib.SmallJoins
import Derived.Lay
import Derived.LaidOnce
import Derived.SevenTiedAt
namespace Go.Proofs.Ytcdfckjlmifjiaa
open Go.ChangeShapes Go.WideShapes Go.ChangeAt Go.RowKit Go.Joins
set_option linter.unusedVariables false
set_option linter.unusedSimpArgs false

theorem own : ownKnob Try.prog.godebug = none := by kernel_rfl
theorem laidOut : laidOutB Try.prog = true := by kernel_rfl
end Go.Proofs.Ytcdfckjlmifjiaa
/-
  The contracts of the small functions of limbs, read off the program by walking it.
-/
namespace Go.Proofs.Ytcdfckjlmifjiaa
open Go.RowKit
set_option linter.unusedVariables false
set_option linter.unusedSimpArgs false

set_option maxHeartbeats 400000 in
/-- limbs.trim: the same memory, without the highest limbs that are 0. -/
theorem trim_any (p : Option Addr) (len cap : Nat) (xs : List Int) (w : World) (hl : xs.length = len) (hc : len ≤ cap) (hm : cap ≤ maxLen) (hx : Rd w p .u32 xs) :
    Calls Try.prog 56 #[.slice p len cap] w fun e w' => e = .returned (.slice p (tlen xs) cap) ∧ w = w' := by
  unfold maxLen at hm
  go_enter Try.func56, Try.ntmps56
  go_wp2
  go_loop [3] (fun n => ∃ k : Nat, k ≤ len ∧ n = .int .i64 k ∧ Hid (∀ j, k ≤ j → gx xs j = 0)) (fun n => (intOf n).toNat)
  case atStart => exact ⟨len, Nat.le_refl _, rfl, gx_past xs len (by omega)⟩
  case round =>
    obtain ⟨k, hk, rfl, hz⟩ := hrel
    by_cases h0 : k = 0
    · subst h0
      go_wp2
      go_ret
      rw [tlen_eq xs 0 hz.out (.inl rfl)]
      exact ⟨rfl, rfl⟩
    · obtain ⟨m, rfl⟩ : ∃ m, k = m + 1 := ⟨k - 1, by omega⟩
      obtain ⟨b, off, rfl, hcell⟩ := hx (by omega)
      have hcm := hcell m (by omega)
      clear hcell
      by_cases h1 : gx xs m = 0
      · have h2 : (gx xs m == 0) = true := by simp only [h1]; rfl
        go_wp2
        go_round
        case rel => exact ⟨m, by omega, by go_num, fun j hj => by
          rcases Nat.lt_or_ge m j with h | h
          · exact hz.out j h
          · have : j = m := by omega
            subst this; exact h1⟩
        case measure => simp [intOf]
      · have h2 : (gx xs m == 0) = false := by simpa using h1
        go_wp2
        go_ret
        rw [tlen_eq xs (m + 1) hz.out (.inr h1)]
        exact ⟨rfl, rfl⟩
end Go.Proofs.Ytcdfckjlmifjiaa
/-
  limbs.takeFrom.
-/
namespace Go.Proofs.Ytcdfckjlmifjiaa
open Go.RowKit
set_option linter.unusedVariables false
set_option linter.unusedSimpArgs false

end Go.Proofs.Ytcdfckjlmifjiaa
/-
  limbs: what makes memory: clone, words, number, Of; sums and differences of sizes.
-/
namespace Go.Proofs.Ytcdfckjlmifjiaa
open Go.RowKit
set_option linter.unusedVariables false
set_option linter.unusedSimpArgs false

theorem info_u32 : (Try.prog.info? 59).map (fun i => (i.zero, i.size, i.bytes)) = some (some (.int .u32 0), 1, 4) := by kernel_rfl
theorem mk_u32 (n : Nat) (h : n ≤ 1099511627776) (w : World) : (Instr.makeSlice 26 (.int .i64 n) (.int .i64 n)).run Try.prog w =
    .ok (.slice (some ⟨w.heap.size, 0, none⟩) n n) (w.alloc (.cells (ca .u32 (zeros n)) 59)) := by
  have hi := info_u32
  cases hq : Try.prog.info? 59 with
  | none => rw [hq] at hi; cases hi
  | some i =>
    rw [hq] at hi
    simp only [Option.map_some, Option.some.injEq, Prod.mk.injEq] at hi
    obtain ⟨h1, h2, h3⟩ := hi
    have hr := run_make (P := Try.prog) w 26 59 i (.int .u32 0) Try.underlying26 hq h1 .i64 .i64 n n (by omega) (Int.le_refl _) (by rw [h3]; omega) (by omega)
    rw [Int.toNat_natCast, h2] at hr
    rw [hr]
    exact congrArg (fun c => Result.ok (Value.slice (some ⟨w.heap.size, 0, none⟩) n n) (w.alloc (.cells c 59))) (made_zeros .u32 n)

theorem copy_u32 (ty : TypeId) (w : World) (q : Option Addr) (m mc n : Nat) (xs : List Int) (hX : Rd w q .u32 xs) (hl : xs.length = m) (hmn : m ≤ n) :
    (Builtin.copy_ #[26, 26] ty #[.slice (some ⟨w.heap.size, 0, none⟩) n n, .slice q m mc]).run Try.prog (w.alloc (.cells (ca .u32 (zeros n)) 59)) =
      .ok (.int .i64 m) (w.alloc (.cells (ca .u32 (xs ++ zeros (n - m))) 59)) := by
  by_cases h0 : m = 0
  · subst h0
    have : xs = [] := List.eq_nil_of_length_eq_zero hl
    subst this
    exact run_copy_none (P := Try.prog) _ 26 26 ty 59 _ _ n n 0 mc Try.underlying26 (by kernel_rfl) (by simp)
  · obtain ⟨b, off, rfl, hc⟩ := (hX.alloc (.cells (ca .u32 (zeros n)) 59)) (by omega)
    rw [run_copy_row Try.prog _ 26 26 ty 59 w.heap.size 0 n n ⟨b, off, none⟩ m mc _ 59 (xs.map (Value.int .u32)) Try.underlying26 (by kernel_rfl) (heap_alloc_new w _) (by simp only [List.length_map, hl]; exact (Nat.min_eq_left hmn).symm) (Rd.src hc) (by simp [size_ca, length_zeros]; omega) (oneCell_ca _ _)]
    rw [World.setRow_alloc_new]
    congr 2
    · simp [hl]
    · simp [ca, zeros, hl]

/-- The sign and the place of a number in normal form. -/
def nsg (neg : Bool) (xs : List Int) : Bool := if tlen xs = 0 then false else neg
def nad (q : Option Addr) (xs : List Int) : Option Addr := if tlen xs = 0 then none else q

end Go.Proofs.Ytcdfckjlmifjiaa
/-
  limbs: sums and differences of sizes, the order of sizes.
-/
namespace Go.Proofs.Ytcdfckjlmifjiaa
open Go.RowKit
set_option linter.unusedVariables false
set_option linter.unusedSimpArgs false
theorem sum_top (xs ys new : List Int) (n m M : Nat) (c : Int) (hn : xs.length = n) (hm : ys.length = m) (h1 : n < M) (h2 : m < M) (hX : U32 xs) (hY : U32 ys) (hU : U32 new) (hl : new.length = M) (hc0 : 0 ≤ c) (hc1 : c ≤ 1)
    (h : val new + pw M * c = val xs + val ys) : val new = val xs + val ys := by
  rcases Int.lt_or_le 0 c with hc | hc
  · have e : c = 1 := by omega
    subst e
    have a1 := val_lt hX
    have a2 := val_lt hY
    have a3 := val_nonneg hU
    have a4 : pw xs.length ≤ pw (M - 1) := pw_mono (by omega)
    have a5 : pw ys.length ≤ pw (M - 1) := pw_mono (by omega)
    have a6 := pw_succ (M - 1)
    rw [show M - 1 + 1 = M by omega] at a6
    have a7 := pw_pos (M - 1)
    omega
  · have e : c = 0 := by omega
    subst e
    omega

end Go.Proofs.Ytcdfckjlmifjiaa
/-
  limbs: the order of sizes and of numbers.
-/
namespace Go.Proofs.Ytcdfckjlmifjiaa
open Go.RowKit
set_option linter.unusedVariables false
set_option linter.unusedSimpArgs false

theorem ret_int {k : IntKind} {a b : Int} (h : a = b) : Ending.returned (.int k a) = .returned (.int k b) := by rw [h]
theorem flip_same {P : Program} {f : FuncId} {args : Array Value} {w : World} {v : Value} (h : Calls P f args w fun e w' => e = .returned v ∧ w = w') :
    Calls P f args w fun e w' => e = .returned v ∧ w' = w := h.mono fun _ _ ⟨a, b⟩ => ⟨a, b.symm⟩

end Go.Proofs.Ytcdfckjlmifjiaa
/-
  Numbers as the program hands them about: a sign and limbs.
-/
namespace Go.Proofs.Ytcdfckjlmifjiaa
open Go.RowKit
set_option linter.unusedVariables false
set_option linter.unusedSimpArgs false

/-- The number of a sign and limbs. -/
def ival (s : Bool) (xs : List Int) : Int := if s then - val xs else val xs

/-- A number that is handed in, in whatever form. -/
structure AI (w : World) (p : Option Addr) (n nc : Nat) (xs : List Int) : Prop where
  len : xs.length = n
  cap : n ≤ nc
  bnd : nc ≤ maxLen
  sml : n ≤ 100000000
  rd : Rd w p .u32 xs
  u : U32 xs

/-- A number that is answered: in normal form, in memory from block B on. -/
structure NI (B : Nat) (w : World) (s : Bool) (p : Option Addr) (n : Nat) (xs : List Int) (z : Int) : Prop where
  len : xs.length = n
  rd : Rd w p .u32 xs
  u : U32 xs
  nrm : tlen xs = n
  sg : n = 0 → s = false
  pn : n = 0 → p = none
  v : ival s xs = z
  fr : From B p
  fz : Fz w p

theorem AI.below {w w' : World} {p : Option Addr} {n nc : Nat} {xs : List Int} (h : AI w p n nc xs) (hb : Below w.heap.size w w') : AI w' p n nc xs := ⟨h.len, h.cap, h.bnd, h.sml, h.rd.below hb, h.u⟩
theorem AI.alloc {w : World} {p : Option Addr} {n nc : Nat} {xs : List Int} (h : AI w p n nc xs) (o : Obj) : AI (w.alloc o) p n nc xs := ⟨h.len, h.cap, h.bnd, h.sml, h.rd.alloc o, h.u⟩
theorem NI.below {B : Nat} {w w' : World} {s : Bool} {p : Option Addr} {n : Nat} {xs : List Int} {z : Int} (h : NI B w s p n xs z) (hb : Below w.heap.size w w') : NI B w' s p n xs z :=
  ⟨h.len, h.rd.below hb, h.u, h.nrm, h.sg, h.pn, h.v, h.fr, h.fz.below hb⟩
theorem NI.mono {B B' : Nat} {w : World} {s : Bool} {p : Option Addr} {n : Nat} {xs : List Int} {z : Int} (h : NI B w s p n xs z) (hB : B' ≤ B) : NI B' w s p n xs z :=
  ⟨h.len, h.rd, h.u, h.nrm, h.sg, h.pn, h.v, fun a ha => Nat.le_trans hB (h.fr a ha), h.fz⟩
theorem NI.ai {B : Nat} {w : World} {s : Bool} {p : Option Addr} {n : Nat} {xs : List Int} {z : Int} (h : NI B w s p n xs z) (hn : n ≤ 100000000) : AI w p n n xs :=
  ⟨h.len, Nat.le_refl _, by unfold maxLen; omega, hn, h.rd, h.u⟩

theorem ival_tr (s : Bool) (xs : List Int) : ival s (tr xs) = ival s xs := by simp only [ival, val_tr]
theorem ni_number {B : Nat} {w : World} {q : Option Addr} {xs : List Int} (neg : Bool) (hX : Rd w q .u32 xs) (hU : U32 xs) (hf : From B q) (hz : Fz w q) : NI B w (nsg neg xs) (nad q xs) (tlen xs) (tr xs) (ival neg xs) := by
  refine ⟨length_tr xs, ?_, u32_tr hU, tlen_tr xs, fun h => by rw [nsg, if_pos h], fun h => by rw [nad, if_pos h], ?_, ?_, ?_⟩
  · intro h
    rw [length_tr] at h
    rw [nad, if_neg (by omega)]
    exact hX.tr (by rw [length_tr]; exact h)
  · rw [ival_tr, nsg]
    split
    · rename_i h
      have := (tlen_zero_iff hU).1 h
      simp [ival, this]
    · rfl
  · rw [nad]
    split
    · intro a ha; cases ha
    · exact hf
  · rw [nad]
    split
    · exact Fz.nil _
    · exact hz

theorem Row.new1 (w : World) (a : Obj) (e : TypeId) (k : IntKind) (xs : List Int) : Row ((w.alloc a).alloc (.cells (ca k xs) e)) (w.heap.size + 1) e k xs := by
  have := Row.new (w.alloc a) e k xs
  rwa [World.size_alloc] at this
theorem Row.new2 (w : World) (a b : Obj) (e : TypeId) (k : IntKind) (xs : List Int) : Row (((w.alloc a).alloc b).alloc (.cells (ca k xs) e)) (w.heap.size + 1 + 1) e k xs := by
  have := Row.new ((w.alloc a).alloc b) e k xs
  rwa [World.size_alloc, World.size_alloc] at this
theorem Row.new3 (w : World) (a b c : Obj) (e : TypeId) (k : IntKind) (xs : List Int) : Row ((((w.alloc a).alloc b).alloc c).alloc (.cells (ca k xs) e)) (w.heap.size + 1 + 1 + 1) e k xs := by
  have := Row.new (((w.alloc a).alloc b).alloc c) e k xs
  rwa [World.size_alloc, World.size_alloc, World.size_alloc] at this
/-- Two cells that a callee has left. -/
theorem keepc2 {w1 w2 : World} {a b : Addr} {u v : Value} (h : w1.cell? a = some u ∧ w1.cell? b = some v) (hb : Below w1.heap.size w1 w2) : w2.cell? a = some u ∧ w2.cell? b = some v :=
  ⟨cell_later hb h.1, cell_later hb h.2⟩
theorem keepc4 {w1 w2 : World} {a b c d : Addr} {u v x y : Value} (h : w1.cell? a = some u ∧ w1.cell? b = some v ∧ w1.cell? c = some x ∧ w1.cell? d = some y) (hb : Below w1.heap.size w1 w2) : w2.cell? a = some u ∧ w2.cell? b = some v ∧ w2.cell? c = some x ∧ w2.cell? d = some y :=
  ⟨cell_later hb h.1, cell_later hb h.2.1, cell_later hb h.2.2.1, cell_later hb h.2.2.2⟩
theorem NI.set {B : Nat} {w : World} {s : Bool} {p : Option Addr} {n : Nat} {xs : List Int} {z : Int} (h : NI B w s p n xs z) {a : Addr} (ha : a.block < B) (v : Value) : NI B (w.setCell a v) s p n xs z :=
  ⟨h.len, h.rd.set_other a v (fun b hb e => by have := h.fr b hb; omega), h.u, h.nrm, h.sg, h.pn, h.v, h.fr, h.fz.set a v⟩
theorem NI.drew {B : Nat} {w : World} {s : Bool} {p : Option Addr} {n : Nat} {xs : List Int} {z : Int} (h : NI B w s p n xs z) : NI B w.drew s p n xs z := ⟨h.len, h.rd.drew, h.u, h.nrm, h.sg, h.pn, h.v, h.fr, h.fz.drew⟩
theorem AI.drew {w : World} {p : Option Addr} {n nc : Nat} {xs : List Int} (h : AI w p n nc xs) : AI w.drew p n nc xs := ⟨h.len, h.cap, h.bnd, h.sml, h.rd, h.u⟩
theorem AI.drewN {w : World} {p : Option Addr} {n nc : Nat} {xs : List Int} (h : AI w p n nc xs) (k : Nat) : AI (w.drewN k) p n nc xs := ⟨h.len, h.cap, h.bnd, h.sml, h.rd, h.u⟩
theorem AI.tr {w : World} {p : Option Addr} {n nc : Nat} {xs : List Int} (h : AI w p n nc xs) : AI w p (tlen xs) nc (tr xs) :=
  ⟨length_tr xs, by have := tlen_le xs; have := h.len; have := h.cap; omega, h.bnd, by have := tlen_le xs; have := h.len; have := h.sml; omega, h.rd.tr, u32_tr h.u⟩
theorem from_new {B b o : Nat} (h : B ≤ b) : From B (some ⟨b, o, none⟩) := fun a ha => by cases ha; exact h
theorem from_none {B : Nat} : From B none := fun a ha => by cases ha
/-- The variable of a result, which a callee has left as it was. -/
theorem resbox {W w1 : World} {r : Nat} {u v : Value} (hb : Below W.heap.size W w1) (h0 : W.cell? ⟨r, 0, none⟩ = some u) (h1 : W.cell? ⟨r, 1, none⟩ = some v) (f0 : W.frozen? ⟨r, 0, none⟩ = false) (f1 : W.frozen? ⟨r, 1, none⟩ = false) :
    w1.cell? ⟨r, 0, none⟩ = some u ∧ w1.cell? ⟨r, 1, none⟩ = some v ∧ w1.frozen? ⟨r, 0, none⟩ = false ∧ w1.frozen? ⟨r, 1, none⟩ = false := by
  have hr : r < W.heap.size := block_lt_of_cell h0
  exact ⟨cell_later hb h0, cell_later hb h1, by rw [hb.frozen (p := ⟨r, 0, none⟩) hr]; exact f0, by rw [hb.frozen (p := ⟨r, 1, none⟩) hr]; exact f1⟩
/-- Two boxed arguments and a result's variable, in a world that is a letter. -/
structure Boxes (w W : World) (a0 a1 b0 b1 r0 r1 : Value) : Prop where
  size : w.heap.size + 1 + 1 + 1 ≤ W.heap.size
  below : Below w.heap.size w W
  ca0 : W.cell? ⟨w.heap.size, 0, none⟩ = some a0
  ca1 : W.cell? ⟨w.heap.size, 1, none⟩ = some a1
  cb0 : W.cell? ⟨w.heap.size + 1, 0, none⟩ = some b0
  cb1 : W.cell? ⟨w.heap.size + 1, 1, none⟩ = some b1
  cr0 : W.cell? ⟨w.heap.size + 1 + 1, 0, none⟩ = some r0
  cr1 : W.cell? ⟨w.heap.size + 1 + 1, 1, none⟩ = some r1
  fr0 : W.frozen? ⟨w.heap.size + 1 + 1, 0, none⟩ = false
  fr1 : W.frozen? ⟨w.heap.size + 1 + 1, 1, none⟩ = false
theorem boxes3 (w : World) (a0 a1 b0 b1 r0 r1 : Value) (ta tb tr k : Nat) : Boxes w ((((w.alloc (.cells #[a0, a1] ta)).alloc (.cells #[b0, b1] tb)).alloc (.cells #[r0, r1] tr)).drewN k) a0 a1 b0 b1 r0 r1 := by
  refine ⟨by simp, below_drewN ((((Below.refl _ _).alloc (Nat.le_refl _) _).alloc (by simp) _).alloc (by simp; omega) _) k, ?_, ?_, ?_, ?_, ?_, ?_, ?_, ?_⟩ <;> simp [go_sem, World.cell?_alloc_past, World.frozen?_alloc_past]
theorem boxes3' (w : World) (a0 a1 b0 b1 r0 r1 : Value) (ta tb tr : Nat) : Boxes w (((w.alloc (.cells #[a0, a1] ta)).alloc (.cells #[b0, b1] tb)).alloc (.cells #[r0, r1] tr)) a0 a1 b0 b1 r0 r1 := by
  refine ⟨by simp, (((Below.refl _ _).alloc (Nat.le_refl _) _).alloc (by simp) _).alloc (by simp; omega) _, ?_, ?_, ?_, ?_, ?_, ?_, ?_, ?_⟩ <;> simp [go_sem, World.cell?_alloc_past, World.frozen?_alloc_past]
theorem Boxes.later {w W W' : World} {a0 a1 b0 b1 r0 r1 : Value} (h : Boxes w W a0 a1 b0 b1 r0 r1) (hb : Below W.heap.size W W') : Boxes w W' a0 a1 b0 b1 r0 r1 := by
  obtain ⟨c0, c1, f0, f1⟩ := resbox hb h.cr0 h.cr1 h.fr0 h.fr1
  exact ⟨Nat.le_trans h.size hb.size, h.below.trans (hb.mono (by have := h.size; omega)), cell_later hb h.ca0, cell_later hb h.ca1, cell_later hb h.cb0, cell_later hb h.cb1, c0, c1, f0, f1⟩
/-- The end of a function that answers number(sg, zs), zs a row of its own. -/
theorem end_number {w W w1 w2 : World} {r : Nat} {sg : Bool} {zs : List Int} {e : TypeId} {z : Int} {u v : Value} (hw : Below w.heap.size w W) (hr : w.heap.size ≤ r) (hr' : r < W.heap.size)
    (hz : Row w1 W.heap.size e .u32 zs) (hu : U32 zs) (hb1 : Below W.heap.size W w1) (hb2 : Below w1.heap.size w1 w2) (hv : ival sg zs = z) :
    NI w.heap.size ((w2.setCell ⟨r, 0, none⟩ u).setCell ⟨r, 1, none⟩ v) (nsg sg zs) (nad (some ⟨W.heap.size, 0, none⟩) zs) (tlen zs) (tr zs) z ∧ Below w.heap.size w ((w2.setCell ⟨r, 0, none⟩ u).setCell ⟨r, 1, none⟩ v) := by
  have s1 := hw.size
  have s2 := hb1.size
  subst hv
  exact ⟨((((ni_number (B := W.heap.size) sg hz.rd_all hu (from_new (Nat.le_refl _)) (hz.fz 0)).below hb2).set hr' _).set hr' _).mono s1,
    (((hw.trans (hb1.mono s1)).trans (hb2.mono (by omega))).setCell (p := ⟨r, 0, none⟩) hr _).setCell (p := ⟨r, 1, none⟩) hr _⟩
/-- The end of a function that hands on a number that a callee has answered. -/
theorem end_ni {w W w1 : World} {r : Nat} {s : Bool} {p : Option Addr} {n : Nat} {xs : List Int} {z : Int} {u v : Value} (hw : Below w.heap.size w W) (hr : w.heap.size ≤ r) (hr' : r < W.heap.size)
    (hN : NI W.heap.size w1 s p n xs z) (hb : Below W.heap.size W w1) :
    NI w.heap.size ((w1.setCell ⟨r, 0, none⟩ u).setCell ⟨r, 1, none⟩ v) s p n xs z ∧ Below w.heap.size w ((w1.setCell ⟨r, 0, none⟩ u).setCell ⟨r, 1, none⟩ v) :=
  ⟨((hN.set hr' _).set hr' _).mono hw.size, ((hw.trans (hb.mono hw.size)).setCell (p := ⟨r, 0, none⟩) hr _).setCell (p := ⟨r, 1, none⟩) hr _⟩
theorem ival_not (s : Bool) (xs : List Int) : ival (!s) xs = - ival s xs := by cases s <;> simp [ival]
/-- Two boxed arguments, in a world that is a letter. -/
structure Box2 (w W : World) (a0 a1 b0 b1 : Value) : Prop where
  size : w.heap.size + 1 + 1 ≤ W.heap.size
  below : Below w.heap.size w W
  ca0 : W.cell? ⟨w.heap.size, 0, none⟩ = some a0
  ca1 : W.cell? ⟨w.heap.size, 1, none⟩ = some a1
  cb0 : W.cell? ⟨w.heap.size + 1, 0, none⟩ = some b0
  cb1 : W.cell? ⟨w.heap.size + 1, 1, none⟩ = some b1
theorem boxes2 (w : World) (a0 a1 b0 b1 : Value) (ta tb : Nat) : Box2 w ((w.alloc (.cells #[a0, a1] ta)).alloc (.cells #[b0, b1] tb)) a0 a1 b0 b1 := by
  refine ⟨by simp, ((Below.refl _ _).alloc (Nat.le_refl _) _).alloc (by simp) _, ?_, ?_, ?_, ?_⟩ <;> simp [go_sem, World.cell?_alloc_past, World.frozen?_alloc_past]
theorem Box2.later {w W W' : World} {a0 a1 b0 b1 : Value} (h : Box2 w W a0 a1 b0 b1) (hb : Below W.heap.size W W') : Box2 w W' a0 a1 b0 b1 :=
  ⟨Nat.le_trans h.size hb.size, h.below.trans (hb.mono (by have := h.size; omega)), cell_later hb h.ca0, cell_later hb h.ca1, cell_later hb h.cb0, cell_later hb h.cb1⟩
theorem undrew {W w1 : World} (h : Below W.drew.heap.size W.drew w1) : Below W.heap.size W w1 := ⟨h.os, h.tape, h.output, h.size, h.block⟩
/-- What a region keeps: two cells, and all below B. -/
theorem keep2 {B : Nat} {W w1 w2 : World} {a b : Addr} {u v : Value} (h : w1.cell? a = some u ∧ w1.cell? b = some v ∧ Below B W w1) (hb : Below w1.heap.size w1 w2) (hB : B ≤ w1.heap.size) : w2.cell? a = some u ∧ w2.cell? b = some v ∧ Below B W w2 :=
  ⟨cell_later hb h.1, cell_later hb h.2.1, h.2.2.trans (hb.mono hB)⟩

end Go.Proofs.Ytcdfckjlmifjiaa
