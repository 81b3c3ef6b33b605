/-
  The law begun answers true, in whatever memory, and leaves what was there: by a run with known calls.
-/
import Derived.Test.YtkbgeggflhfleaaGreatDoorC0
import Derived.Test.YtkbgeggflhfleaaGreatDoorProg
namespace Go.Proofs.YtkbgeggflhfleaaGreatDoor.begun
open Go.RowKit Go.Proofs.YtkbgeggflhfleaaGreatDoor
theorem nong : Ev.NoNG Tryz.prog := Ev.nong_of (by kernel_rfl)
theorem mix : Tryz.prog.follows .mixedOrders = true := by kernel_rfl
noncomputable def T0 : Ev.Tab := Rs.tzTab
theorem t0 : Ev.TabOK Tryz.prog T0 := Rs.tzTab_ok
/- ashlar/seq.each: 3030 operations -/
def e1 : Ev.Ent := ⟨[.slice 0 0 2 (.more 0), .func (.func 31) [] []], [⟨[.bool false, .nilSlice, .bool false, .slice 1 0 1 (.more 0), .bool false, .slice 2 0 1 (.more 0), .bool false, .slice 3 0 1 (.more 0)], 32, some 4, none⟩, ⟨[.int .u32 (.ofNat 1)], 134, some 1, none⟩, ⟨[.int .u32 (.ofNat 1)], 134, some 1, none⟩, ⟨[.int .u32 (.ofNat 1)], 134, some 1, none⟩], .slice 4 0 2 (.known 2), [⟨[.bool false, .nilSlice, .bool false, .slice 5 0 1 (.known 1), .bool false, .slice 6 0 1 (.known 1), .bool false, .slice 7 0 1 (.known 1)], 32, none, none⟩, ⟨[.int .u32 (.ofNat 1)], 134, none, none⟩, ⟨[.int .u32 (.ofNat 1)], 134, none, none⟩, ⟨[.int .u32 (.ofNat 1)], 134, none, none⟩]⟩
noncomputable def T1 : Ev.Tab := Ev.tabAdd T0 84 e1
theorem t1 : Ev.TabOK Tryz.prog T1 := Ev.tab_add nong mix t0 (n := 100000) (by kernel_rfl) (by kernel_rfl)
/- ashlar/gauge.window: 3664 operations -/
def e2 : Ev.Ent := ⟨[.slice 0 0 2 (.known 2)], [⟨[.bool false, .nilSlice, .bool false, .slice 1 0 1 (.known 1), .bool false, .slice 2 0 1 (.known 1), .bool false, .slice 3 0 1 (.known 1)], 32, none, none⟩, ⟨[.int .u32 (.ofNat 1)], 134, none, none⟩, ⟨[.int .u32 (.ofNat 1)], 134, none, none⟩, ⟨[.int .u32 (.ofNat 1)], 134, none, none⟩], .agg [.int .i64 (.ofNat 2), .int .i64 (.ofNat 2)], []⟩
noncomputable def T2 : Ev.Tab := Ev.tabAdd T1 81 e2
theorem t2 : Ev.TabOK Tryz.prog T2 := Ev.tab_add nong mix t1 (n := 100000) (by kernel_rfl) (by kernel_rfl)
/- (ashlar/seq.trial).isBig: 3039 operations -/
def e3 : Ev.Ent := ⟨[.agg [.slice 0 0 3 (.known 3), .slice 1 0 2 (.known 2)]], [⟨[.slice 2 0 1 (.known 1), .slice 3 0 1 (.known 1), .slice 4 0 1 (.known 1)], 154, none, none⟩, ⟨[.bool false, .nilSlice, .bool false, .slice 5 0 1 (.known 1), .bool false, .slice 6 0 1 (.known 1), .bool false, .slice 7 0 1 (.known 1)], 32, none, none⟩, ⟨[.bool true, .slice 8 0 1 (.known 1)], 30, none, none⟩, ⟨[.bool true, .slice 9 0 1 (.known 1)], 30, none, none⟩, ⟨[.bool false, .slice 10 0 1 (.known 1)], 30, none, none⟩, ⟨[.int .u32 (.ofNat 1)], 134, none, none⟩, ⟨[.int .u32 (.ofNat 1)], 134, none, none⟩, ⟨[.int .u32 (.ofNat 1)], 134, none, none⟩, ⟨[.int .u32 (.ofNat 1)], 134, none, none⟩, ⟨[.int .u32 (.ofNat 1)], 134, none, none⟩, ⟨[.int .u32 (.ofNat 1), .int .u32 (.ofNat 0)], 134, none, none⟩], .bool false, []⟩
noncomputable def T3 : Ev.Tab := Ev.tabAdd T2 102 e3
theorem t3 : Ev.TabOK Tryz.prog T3 := Ev.tab_add nong mix t2 (n := 100000) (by kernel_rfl) (by kernel_rfl)
/- (ashlar/roots.prime).roots: 9121 operations -/
def e4 : Ev.Ent := ⟨[.agg [.int .u64 (.ofNat 131)], .slice 0 0 1 (.known 1)], [⟨[.bool false, .slice 1 0 1 (.known 1)], 30, none, none⟩, ⟨[.int .u32 (.ofNat 1), .int .u32 (.ofNat 0)], 134, none, none⟩], .tuple [.nilSlice, .bool true], []⟩
noncomputable def T4 : Ev.Tab := Ev.tabAdd T3 249 e4
theorem t4 : Ev.TabOK Tryz.prog T4 := Ev.tab_add nong mix t3 (n := 100000) (by kernel_rfl) (by kernel_rfl)
/- ashlar/seq.Define: 4465 operations -/
def e5 : Ev.Ent := ⟨[.slice 0 0 3 (.more 0), .slice 1 0 2 (.more 0)], [⟨[.slice 2 0 1 (.more 0), .slice 3 0 1 (.more 0), .slice 4 0 1 (.more 0)], 154, some 1, none⟩, ⟨[.bool false, .nilSlice, .bool false, .slice 5 0 1 (.more 0), .bool false, .slice 6 0 1 (.more 0), .bool false, .slice 7 0 1 (.more 0)], 32, some 4, none⟩, ⟨[.bool true, .slice 8 0 1 (.more 0)], 30, some 2, none⟩, ⟨[.bool true, .slice 9 0 1 (.more 0)], 30, some 2, none⟩, ⟨[.bool false, .slice 10 0 1 (.more 0)], 30, some 2, none⟩, ⟨[.int .u32 (.ofNat 1)], 134, some 1, none⟩, ⟨[.int .u32 (.ofNat 1)], 134, some 1, none⟩, ⟨[.int .u32 (.ofNat 1)], 134, some 1, none⟩, ⟨[.int .u32 (.ofNat 1)], 134, some 1, none⟩, ⟨[.int .u32 (.ofNat 1)], 134, some 1, none⟩, ⟨[.int .u32 (.ofNat 1)], 134, some 1, none⟩], .tuple [.ptr 11 0, .int .i64 (.ofNat 0)], [⟨[.slice 12 0 3 (.known 3), .slice 13 0 2 (.known 2), .nilSlice], 112, none, none⟩, ⟨[.slice 14 0 1 (.known 1), .slice 15 0 1 (.known 1), .slice 16 0 1 (.known 1)], 154, none, none⟩, ⟨[.bool false, .nilSlice, .bool false, .slice 17 0 1 (.known 1), .bool false, .slice 18 0 1 (.known 1), .bool false, .slice 19 0 1 (.known 1)], 32, none, none⟩, ⟨[.bool true, .slice 20 0 1 (.known 1)], 30, none, none⟩, ⟨[.bool true, .slice 21 0 1 (.known 1)], 30, none, none⟩, ⟨[.bool false, .slice 22 0 1 (.known 1)], 30, none, none⟩, ⟨[.int .u32 (.ofNat 1)], 134, none, none⟩, ⟨[.int .u32 (.ofNat 1)], 134, none, none⟩, ⟨[.int .u32 (.ofNat 1)], 134, none, none⟩, ⟨[.int .u32 (.ofNat 1)], 134, none, none⟩, ⟨[.int .u32 (.ofNat 1)], 134, none, none⟩, ⟨[.int .u32 (.ofNat 1), .int .u32 (.ofNat 0)], 134, none, none⟩]⟩
noncomputable def T5 : Ev.Tab := Ev.tabAdd T4 20 e5
theorem t5 : Ev.TabOK Tryz.prog T5 := Ev.tab_add nong mix t4 (n := 100000) (by kernel_rfl) (by kernel_rfl)
/- ashlar/gauge.window: 3664 operations -/
def e6 : Ev.Ent := ⟨[.slice 0 0 2 (.known 2)], [⟨[.bool false, .nilSlice, .bool false, .slice 1 0 1 (.known 1), .bool false, .slice 2 0 1 (.known 1), .bool false, .slice 3 0 1 (.known 1)], 32, none, none⟩, ⟨[.int .u32 (.ofNat 1), .int .u32 (.ofNat 0)], 134, none, none⟩, ⟨[.int .u32 (.ofNat 1), .int .u32 (.ofNat 0)], 134, none, none⟩, ⟨[.int .u32 (.ofNat 1), .int .u32 (.ofNat 0)], 134, none, none⟩], .agg [.int .i64 (.ofNat 2), .int .i64 (.ofNat 2)], []⟩
noncomputable def T6 : Ev.Tab := Ev.tabAdd T5 81 e6
theorem t6 : Ev.TabOK Tryz.prog T6 := Ev.tab_add nong mix t5 (n := 100000) (by kernel_rfl) (by kernel_rfl)
/- ashlar/modular.imageOf: 4613 operations -/
def e7 : Ev.Ent := ⟨[.ptr 0 0, .int .u64 (.ofNat 7)], [⟨[.slice 1 0 3 (.known 3), .slice 2 0 2 (.known 2), .nilSlice], 112, none, none⟩, ⟨[.slice 3 0 1 (.known 1), .slice 4 0 1 (.known 1), .slice 5 0 1 (.known 1)], 154, none, none⟩, ⟨[.bool false, .nilSlice, .bool false, .slice 6 0 1 (.known 1), .bool false, .slice 7 0 1 (.known 1), .bool false, .slice 8 0 1 (.known 1)], 32, none, none⟩, ⟨[.bool true, .slice 9 0 1 (.known 1)], 30, none, none⟩, ⟨[.bool true, .slice 10 0 1 (.known 1)], 30, none, none⟩, ⟨[.bool false, .slice 11 0 1 (.known 1)], 30, none, none⟩, ⟨[.int .u32 (.ofNat 1)], 134, none, none⟩, ⟨[.int .u32 (.ofNat 1)], 134, none, none⟩, ⟨[.int .u32 (.ofNat 1)], 134, none, none⟩, ⟨[.int .u32 (.ofNat 1)], 134, none, none⟩, ⟨[.int .u32 (.ofNat 1)], 134, none, none⟩, ⟨[.int .u32 (.ofNat 1), .int .u32 (.ofNat 0)], 134, none, none⟩], .tuple [.ptr 12 0, .int .i64 (.ofNat 0)], [⟨[.int .u64 (.ofNat 7), .slice 13 0 3 (.more 0), .slice 14 0 2 (.more 0)], 84, none, none⟩, ⟨[.slice 15 0 1 (.known 1), .slice 16 0 1 (.known 1), .slice 17 0 1 (.known 1)], 82, some 1, none⟩, ⟨[.int .u64 (.ofNat 0), .int .u64 (.ofNat 1)], 62, some 1, none⟩, ⟨[.int .u64 (.ofNat 6)], 62, none, none⟩, ⟨[.int .u64 (.ofNat 6)], 62, none, none⟩, ⟨[.int .u64 (.ofNat 1)], 62, none, none⟩]⟩
noncomputable def T7 : Ev.Tab := Ev.tabAdd T6 40 e7
theorem t7 : Ev.TabOK Tryz.prog T7 := Ev.tab_add nong mix t6 (n := 100000) (by kernel_rfl) (by kernel_rfl)
/- ashlar/modular.Term: 10789 operations -/
def e8 : Ev.Ent := ⟨[.ptr 0 0, .int .i64 (.ofNat 10), .int .i64 (.ofNat 7)], [⟨[.slice 1 0 3 (.known 3), .slice 2 0 2 (.known 2), .nilSlice], 112, none, none⟩, ⟨[.slice 3 0 1 (.known 1), .slice 4 0 1 (.known 1), .slice 5 0 1 (.known 1)], 154, none, none⟩, ⟨[.bool false, .nilSlice, .bool false, .slice 6 0 1 (.known 1), .bool false, .slice 7 0 1 (.known 1), .bool false, .slice 8 0 1 (.known 1)], 32, none, none⟩, ⟨[.bool true, .slice 9 0 1 (.known 1)], 30, none, none⟩, ⟨[.bool true, .slice 10 0 1 (.known 1)], 30, none, none⟩, ⟨[.bool false, .slice 11 0 1 (.known 1)], 30, none, none⟩, ⟨[.int .u32 (.ofNat 1)], 134, none, none⟩, ⟨[.int .u32 (.ofNat 1)], 134, none, none⟩, ⟨[.int .u32 (.ofNat 1)], 134, none, none⟩, ⟨[.int .u32 (.ofNat 1)], 134, none, none⟩, ⟨[.int .u32 (.ofNat 1)], 134, none, none⟩, ⟨[.int .u32 (.ofNat 1), .int .u32 (.ofNat 0)], 134, none, none⟩], .tuple [.int .i64 (.ofNat 6), .int .i64 (.ofNat 0)], []⟩
noncomputable def T8 : Ev.Tab := Ev.tabAdd T7 17 e8
theorem t8 : Ev.TabOK Tryz.prog T8 := Ev.tab_add nong mix t7 (n := 100000) (by kernel_rfl) (by kernel_rfl)
end Go.Proofs.YtkbgeggflhfleaaGreatDoor.begun
namespace Go.Proofs.YtkbgeggflhfleaaGreatDoor
open Go.RowKit
theorem begun14_any (w : World) (hT : Rs.TzT w) : Calls Tryz.prog 8 #[] w fun r w' => r = .returned (.bool true) ∧ Below w.heap.size w w' :=
  Ev.closed_callT begun.nong begun.mix begun.t8 (n := 100000) (by kernel_rfl) w (Rs.tz_to hT)
end Go.Proofs.YtkbgeggflhfleaaGreatDoor
