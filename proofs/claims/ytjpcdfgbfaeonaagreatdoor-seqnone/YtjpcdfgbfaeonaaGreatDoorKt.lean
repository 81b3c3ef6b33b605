/-
  The law SeqNone answers true, in whatever memory, and leaves what was there: by a run with known calls.
-/
import Derived.Test.YtjpcdfgbfaeonaaGreatDoorH2
import Derived.Test.YtjpcdfgbfaeonaaGreatDoorProg
namespace Go.Proofs.YtjpcdfgbfaeonaaGreatDoor.SeqNone
open Go.RowKit Go.Proofs.YtjpcdfgbfaeonaaGreatDoor
theorem nong : Ev.NoNG Tryz.prog := Ev.nong_of (by kernel_rfl)
theorem mix : Tryz.prog.follows .mixedOrders = true := by kernel_rfl
noncomputable def T0 : Ev.Tab := .e
theorem t0 : Ev.TabOK Tryz.prog T0 := Ev.tab_nil
/- ashlar/seq.each: 3030 operations -/
def e1 : Ev.Ent := ⟨[.slice 0 0 2 (.more 0), .func (.func 123) [] []], [⟨[.bool false, .nilSlice, .bool false, .slice 1 0 1 (.more 0), .bool false, .slice 2 0 1 (.more 0), .bool false, .slice 3 0 1 (.more 0)], 129, some 4, none⟩, ⟨[.int .u32 (.ofNat 1)], 161, some 1, none⟩, ⟨[.int .u32 (.ofNat 1)], 161, some 1, none⟩, ⟨[.int .u32 (.ofNat 1)], 161, some 1, none⟩], .slice 4 0 2 (.known 2), [⟨[.bool false, .nilSlice, .bool false, .slice 5 0 1 (.known 1), .bool false, .slice 6 0 1 (.known 1), .bool false, .slice 7 0 1 (.known 1)], 129, none, none⟩, ⟨[.int .u32 (.ofNat 1)], 161, none, none⟩, ⟨[.int .u32 (.ofNat 1)], 161, none, none⟩, ⟨[.int .u32 (.ofNat 1)], 161, none, none⟩]⟩
noncomputable def T1 : Ev.Tab := Ev.tabAdd T0 43 e1
theorem t1 : Ev.TabOK Tryz.prog T1 := Ev.tab_add nong mix t0 (n := 100000) (by kernel_rfl) (by kernel_rfl)
/- ashlar/gauge.window: 3664 operations -/
def e2 : Ev.Ent := ⟨[.slice 0 0 2 (.known 2)], [⟨[.bool false, .nilSlice, .bool false, .slice 1 0 1 (.known 1), .bool false, .slice 2 0 1 (.known 1), .bool false, .slice 3 0 1 (.known 1)], 129, none, none⟩, ⟨[.int .u32 (.ofNat 1)], 161, none, none⟩, ⟨[.int .u32 (.ofNat 1)], 161, none, none⟩, ⟨[.int .u32 (.ofNat 1)], 161, none, none⟩], .agg [.int .i64 (.ofNat 2), .int .i64 (.ofNat 2)], []⟩
noncomputable def T2 : Ev.Tab := Ev.tabAdd T1 213 e2
theorem t2 : Ev.TabOK Tryz.prog T2 := Ev.tab_add nong mix t1 (n := 100000) (by kernel_rfl) (by kernel_rfl)
/- (ashlar/seq.trial).isBig: 3039 operations -/
def e3 : Ev.Ent := ⟨[.agg [.slice 0 0 3 (.known 3), .slice 1 0 2 (.known 2)]], [⟨[.slice 2 0 1 (.known 1), .slice 3 0 1 (.known 1), .slice 4 0 1 (.known 1)], 29, none, none⟩, ⟨[.bool false, .nilSlice, .bool false, .slice 5 0 1 (.known 1), .bool false, .slice 6 0 1 (.known 1), .bool false, .slice 7 0 1 (.known 1)], 129, none, none⟩, ⟨[.bool true, .slice 8 0 1 (.known 1)], 84, none, none⟩, ⟨[.bool true, .slice 9 0 1 (.known 1)], 84, none, none⟩, ⟨[.bool false, .slice 10 0 1 (.known 1)], 84, none, none⟩, ⟨[.int .u32 (.ofNat 1)], 161, none, none⟩, ⟨[.int .u32 (.ofNat 1)], 161, none, none⟩, ⟨[.int .u32 (.ofNat 1)], 161, none, none⟩, ⟨[.int .u32 (.ofNat 1)], 161, none, none⟩, ⟨[.int .u32 (.ofNat 1)], 161, none, none⟩, ⟨[.int .u32 (.ofNat 1), .int .u32 (.ofNat 0)], 161, none, none⟩], .bool false, []⟩
noncomputable def T3 : Ev.Tab := Ev.tabAdd T2 126 e3
theorem t3 : Ev.TabOK Tryz.prog T3 := Ev.tab_add nong mix t2 (n := 100000) (by kernel_rfl) (by kernel_rfl)
/- (ashlar/roots.prime).roots: 8977 operations -/
def e4 : Ev.Ent := ⟨[.int .u64 (.ofNat 131), .slice 0 0 1 (.known 1)], [⟨[.bool false, .slice 1 0 1 (.known 1)], 84, none, none⟩, ⟨[.int .u32 (.ofNat 1), .int .u32 (.ofNat 0)], 161, none, none⟩], .tuple [.nilSlice, .bool true], []⟩
noncomputable def T4 : Ev.Tab := Ev.tabAdd T3 259 e4
theorem t4 : Ev.TabOK Tryz.prog T4 := Ev.tab_add nong mix t3 (n := 100000) (by kernel_rfl) (by kernel_rfl)
/- ashlar/seq.Define: 4457 operations -/
def e5 : Ev.Ent := ⟨[.slice 0 0 3 (.more 0), .slice 1 0 2 (.more 0)], [⟨[.slice 2 0 1 (.more 0), .slice 3 0 1 (.more 0), .slice 4 0 1 (.more 0)], 29, some 1, none⟩, ⟨[.bool false, .nilSlice, .bool false, .slice 5 0 1 (.more 0), .bool false, .slice 6 0 1 (.more 0), .bool false, .slice 7 0 1 (.more 0)], 129, some 4, none⟩, ⟨[.bool true, .slice 8 0 1 (.more 0)], 84, some 2, none⟩, ⟨[.bool true, .slice 9 0 1 (.more 0)], 84, some 2, none⟩, ⟨[.bool false, .slice 10 0 1 (.more 0)], 84, some 2, none⟩, ⟨[.int .u32 (.ofNat 1)], 161, some 1, none⟩, ⟨[.int .u32 (.ofNat 1)], 161, some 1, none⟩, ⟨[.int .u32 (.ofNat 1)], 161, some 1, none⟩, ⟨[.int .u32 (.ofNat 1)], 161, some 1, none⟩, ⟨[.int .u32 (.ofNat 1)], 161, some 1, none⟩, ⟨[.int .u32 (.ofNat 1)], 161, some 1, none⟩], .tuple [.ptr 11 0, .int .i64 (.ofNat 0)], [⟨[.slice 12 0 3 (.known 3), .slice 13 0 2 (.known 2), .nilSlice], 86, none, none⟩, ⟨[.slice 14 0 1 (.known 1), .slice 15 0 1 (.known 1), .slice 16 0 1 (.known 1)], 29, none, none⟩, ⟨[.bool false, .nilSlice, .bool false, .slice 17 0 1 (.known 1), .bool false, .slice 18 0 1 (.known 1), .bool false, .slice 19 0 1 (.known 1)], 129, none, none⟩, ⟨[.bool true, .slice 20 0 1 (.known 1)], 84, none, none⟩, ⟨[.bool true, .slice 21 0 1 (.known 1)], 84, none, none⟩, ⟨[.bool false, .slice 22 0 1 (.known 1)], 84, none, none⟩, ⟨[.int .u32 (.ofNat 1)], 161, none, none⟩, ⟨[.int .u32 (.ofNat 1)], 161, none, none⟩, ⟨[.int .u32 (.ofNat 1)], 161, none, none⟩, ⟨[.int .u32 (.ofNat 1)], 161, none, none⟩, ⟨[.int .u32 (.ofNat 1)], 161, none, none⟩, ⟨[.int .u32 (.ofNat 1), .int .u32 (.ofNat 0)], 161, none, none⟩]⟩
noncomputable def T5 : Ev.Tab := Ev.tabAdd T4 39 e5
theorem t5 : Ev.TabOK Tryz.prog T5 := Ev.tab_add nong mix t4 (n := 100000) (by kernel_rfl) (by kernel_rfl)
/- ashlar/seq.trialOf: 3296 operations -/
def e6 : Ev.Ent := ⟨[.slice 0 0 3 (.more 0), .slice 1 0 1 (.more 0)], [⟨[.slice 2 0 1 (.more 0), .slice 3 0 1 (.more 0), .slice 4 0 1 (.more 0)], 29, some 1, none⟩, ⟨[.bool false, .nilSlice, .bool false, .slice 5 0 1 (.more 0)], 129, some 4, none⟩, ⟨[.bool true, .slice 6 0 1 (.more 0)], 84, some 2, none⟩, ⟨[.bool true, .slice 7 0 1 (.more 0)], 84, some 2, none⟩, ⟨[.bool false, .slice 8 0 1 (.more 0)], 84, some 2, none⟩, ⟨[.int .u32 (.ofNat 1)], 161, some 1, none⟩, ⟨[.int .u32 (.ofNat 1)], 161, some 1, none⟩, ⟨[.int .u32 (.ofNat 1)], 161, some 1, none⟩, ⟨[.int .u32 (.ofNat 1)], 161, some 1, none⟩], .agg [.slice 9 0 3 (.known 3), .slice 10 0 1 (.known 1)], [⟨[.slice 11 0 1 (.known 1), .slice 12 0 1 (.known 1), .slice 13 0 1 (.known 1)], 29, none, none⟩, ⟨[.bool false, .nilSlice, .bool false, .slice 14 0 1 (.known 1)], 129, none, none⟩, ⟨[.bool true, .slice 15 0 1 (.known 1)], 84, none, none⟩, ⟨[.bool true, .slice 16 0 1 (.known 1)], 84, none, none⟩, ⟨[.bool false, .slice 17 0 1 (.known 1)], 84, none, none⟩, ⟨[.int .u32 (.ofNat 1)], 161, none, none⟩, ⟨[.int .u32 (.ofNat 1)], 161, none, none⟩, ⟨[.int .u32 (.ofNat 1)], 161, none, none⟩, ⟨[.int .u32 (.ofNat 1), .int .u32 (.ofNat 0)], 161, none, none⟩]⟩
noncomputable def T6 : Ev.Tab := Ev.tabAdd T5 80 e6
theorem t6 : Ev.TabOK Tryz.prog T6 := Ev.tab_add nong mix t5 (n := 100000) (by kernel_rfl) (by kernel_rfl)
/- ashlar/gauge.Term: 4136 operations -/
def e7 : Ev.Ent := ⟨[.slice 0 0 3 (.known 3), .slice 1 0 1 (.known 1), .int .i64 (.ofNat 1)], [⟨[.slice 2 0 1 (.known 1), .slice 3 0 1 (.known 1), .slice 4 0 1 (.known 1)], 29, none, none⟩, ⟨[.bool false, .nilSlice, .bool false, .slice 5 0 1 (.known 1)], 129, none, none⟩, ⟨[.bool true, .slice 6 0 1 (.known 1)], 84, none, none⟩, ⟨[.bool true, .slice 7 0 1 (.known 1)], 84, none, none⟩, ⟨[.bool false, .slice 8 0 1 (.known 1)], 84, none, none⟩, ⟨[.int .u32 (.ofNat 1)], 161, none, none⟩, ⟨[.int .u32 (.ofNat 1)], 161, none, none⟩, ⟨[.int .u32 (.ofNat 1)], 161, none, none⟩, ⟨[.int .u32 (.ofNat 1), .int .u32 (.ofNat 0)], 161, none, none⟩], .int .i64 (.ofNat 66), []⟩
noncomputable def T7 : Ev.Tab := Ev.tabAdd T6 168 e7
theorem t7 : Ev.TabOK Tryz.prog T7 := Ev.tab_add nong mix t6 (n := 100000) (by kernel_rfl) (by kernel_rfl)
/- ashlar/seq.each: 4753 operations -/
def e8 : Ev.Ent := ⟨[.slice 0 0 3 (.more 0), .func (.func 123) [] []], [⟨[.bool false, .nilSlice, .bool false, .slice 1 0 1 (.more 0), .bool false, .slice 2 0 1 (.more 0), .bool false, .slice 3 0 1 (.more 0), .bool false, .slice 4 0 1 (.more 0), .bool false, .slice 5 0 1 (.more 0)], 129, some 4, none⟩, ⟨[.int .u32 (.ofNat 1)], 161, some 1, none⟩, ⟨[.int .u32 (.ofNat 1)], 161, some 1, none⟩, ⟨[.int .u32 (.ofNat 1)], 161, some 1, none⟩, ⟨[.int .u32 (.ofNat 7)], 161, some 1, none⟩, ⟨[.int .u32 (.ofNat 1)], 161, some 1, none⟩], .slice 6 0 3 (.known 3), [⟨[.bool false, .nilSlice, .bool false, .slice 7 0 1 (.known 1), .bool false, .slice 8 0 1 (.known 1), .bool false, .slice 9 0 1 (.known 1), .bool false, .slice 10 0 1 (.known 1), .bool false, .slice 11 0 1 (.known 1)], 129, none, none⟩, ⟨[.int .u32 (.ofNat 1)], 161, none, none⟩, ⟨[.int .u32 (.ofNat 1)], 161, none, none⟩, ⟨[.int .u32 (.ofNat 1)], 161, none, none⟩, ⟨[.int .u32 (.ofNat 7)], 161, none, none⟩, ⟨[.int .u32 (.ofNat 1)], 161, none, none⟩]⟩
noncomputable def T8 : Ev.Tab := Ev.tabAdd T7 43 e8
theorem t8 : Ev.TabOK Tryz.prog T8 := Ev.tab_add nong mix t7 (n := 100000) (by kernel_rfl) (by kernel_rfl)
/- ashlar/gauge.window: 5740 operations -/
def e9 : Ev.Ent := ⟨[.slice 0 0 3 (.known 3)], [⟨[.bool false, .nilSlice, .bool false, .slice 1 0 1 (.known 1), .bool false, .slice 2 0 1 (.known 1), .bool false, .slice 3 0 1 (.known 1), .bool false, .slice 4 0 1 (.known 1), .bool false, .slice 5 0 1 (.known 1)], 129, none, none⟩, ⟨[.int .u32 (.ofNat 1)], 161, none, none⟩, ⟨[.int .u32 (.ofNat 1)], 161, none, none⟩, ⟨[.int .u32 (.ofNat 1)], 161, none, none⟩, ⟨[.int .u32 (.ofNat 7)], 161, none, none⟩, ⟨[.int .u32 (.ofNat 1)], 161, none, none⟩], .agg [.int .i64 (.ofNat 3), .int .i64 (.ofNat 4)], []⟩
noncomputable def T9 : Ev.Tab := Ev.tabAdd T8 213 e9
theorem t9 : Ev.TabOK Tryz.prog T9 := Ev.tab_add nong mix t8 (n := 100000) (by kernel_rfl) (by kernel_rfl)
/- (ashlar/seq.trial).isBig: 3039 operations -/
def e10 : Ev.Ent := ⟨[.agg [.slice 0 0 3 (.known 3), .slice 1 0 3 (.known 3)]], [⟨[.slice 2 0 1 (.known 1), .slice 3 0 1 (.known 1), .slice 4 0 1 (.known 1)], 29, none, none⟩, ⟨[.bool false, .nilSlice, .bool false, .slice 5 0 1 (.known 1), .bool false, .slice 6 0 1 (.known 1), .bool false, .slice 7 0 1 (.known 1), .bool false, .slice 8 0 1 (.known 1), .bool false, .slice 9 0 1 (.known 1)], 129, none, none⟩, ⟨[.bool true, .slice 10 0 1 (.known 1)], 84, none, none⟩, ⟨[.bool true, .slice 11 0 1 (.known 1)], 84, none, none⟩, ⟨[.bool false, .slice 12 0 1 (.known 1)], 84, none, none⟩, ⟨[.int .u32 (.ofNat 1)], 161, none, none⟩, ⟨[.int .u32 (.ofNat 1)], 161, none, none⟩, ⟨[.int .u32 (.ofNat 1)], 161, none, none⟩, ⟨[.int .u32 (.ofNat 7)], 161, none, none⟩, ⟨[.int .u32 (.ofNat 1)], 161, none, none⟩, ⟨[.int .u32 (.ofNat 1)], 161, none, none⟩, ⟨[.int .u32 (.ofNat 1)], 161, none, none⟩, ⟨[.int .u32 (.ofNat 1), .int .u32 (.ofNat 0)], 161, none, none⟩], .bool false, []⟩
noncomputable def T10 : Ev.Tab := Ev.tabAdd T9 126 e10
theorem t10 : Ev.TabOK Tryz.prog T10 := Ev.tab_add nong mix t9 (n := 100000) (by kernel_rfl) (by kernel_rfl)
/- (ashlar/seq.trial).holds: 6693 operations -/
def e11 : Ev.Ent := ⟨[.agg [.slice 0 0 3 (.known 3), .slice 1 0 3 (.known 3)], .int .i64 (.ofNat 0)], [⟨[.slice 2 0 1 (.known 1), .slice 3 0 1 (.known 1), .slice 4 0 1 (.known 1)], 29, none, none⟩, ⟨[.bool false, .nilSlice, .bool false, .slice 5 0 1 (.known 1), .bool false, .slice 6 0 1 (.known 1), .bool false, .slice 7 0 1 (.known 1), .bool false, .slice 8 0 1 (.known 1), .bool false, .slice 9 0 1 (.known 1)], 129, none, none⟩, ⟨[.bool true, .slice 10 0 1 (.known 1)], 84, none, none⟩, ⟨[.bool true, .slice 11 0 1 (.known 1)], 84, none, none⟩, ⟨[.bool false, .slice 12 0 1 (.known 1)], 84, none, none⟩, ⟨[.int .u32 (.ofNat 1)], 161, none, none⟩, ⟨[.int .u32 (.ofNat 1)], 161, none, none⟩, ⟨[.int .u32 (.ofNat 1)], 161, none, none⟩, ⟨[.int .u32 (.ofNat 7)], 161, none, none⟩, ⟨[.int .u32 (.ofNat 1)], 161, none, none⟩, ⟨[.int .u32 (.ofNat 1)], 161, none, none⟩, ⟨[.int .u32 (.ofNat 1)], 161, none, none⟩, ⟨[.int .u32 (.ofNat 1), .int .u32 (.ofNat 0)], 161, none, none⟩], .bool false, []⟩
noncomputable def T11 : Ev.Tab := Ev.tabAdd T10 170 e11
theorem t11 : Ev.TabOK Tryz.prog T11 := Ev.tab_add nong mix t10 (n := 100000) (by kernel_rfl) (by kernel_rfl)
/- ashlar/seq.Define: 5383 operations -/
def e12 : Ev.Ent := ⟨[.slice 0 0 3 (.more 0), .slice 1 0 3 (.more 0)], [⟨[.slice 2 0 1 (.more 0), .slice 3 0 1 (.more 0), .slice 4 0 1 (.more 0)], 29, some 1, none⟩, ⟨[.bool false, .nilSlice, .bool false, .slice 5 0 1 (.more 0), .bool false, .slice 6 0 1 (.more 0), .bool false, .slice 7 0 1 (.more 0), .bool false, .slice 8 0 1 (.more 0), .bool false, .slice 9 0 1 (.more 0)], 129, some 4, none⟩, ⟨[.bool true, .slice 10 0 1 (.more 0)], 84, some 2, none⟩, ⟨[.bool true, .slice 11 0 1 (.more 0)], 84, some 2, none⟩, ⟨[.bool false, .slice 12 0 1 (.more 0)], 84, some 2, none⟩, ⟨[.int .u32 (.ofNat 1)], 161, some 1, none⟩, ⟨[.int .u32 (.ofNat 1)], 161, some 1, none⟩, ⟨[.int .u32 (.ofNat 1)], 161, some 1, none⟩, ⟨[.int .u32 (.ofNat 7)], 161, some 1, none⟩, ⟨[.int .u32 (.ofNat 1)], 161, some 1, none⟩, ⟨[.int .u32 (.ofNat 1)], 161, some 1, none⟩, ⟨[.int .u32 (.ofNat 1)], 161, some 1, none⟩, ⟨[.int .u32 (.ofNat 1)], 161, some 1, none⟩], .tuple [.nil, .int .i64 (.ofNat 6)], []⟩
noncomputable def T12 : Ev.Tab := Ev.tabAdd T11 39 e12
theorem t12 : Ev.TabOK Tryz.prog T12 := Ev.tab_add nong mix t11 (n := 100000) (by kernel_rfl) (by kernel_rfl)
/- ashlar/ashlarlaw11.Begun: 11987 operations -/
def e13 : Ev.Ent := ⟨[], [], .bool true, []⟩
noncomputable def T13 : Ev.Tab := Ev.tabAdd T12 13 e13
theorem t13 : Ev.TabOK Tryz.prog T13 := Ev.tab_add nong mix t12 (n := 100000) (by kernel_rfl) (by kernel_rfl)
end Go.Proofs.YtjpcdfgbfaeonaaGreatDoor.SeqNone
namespace Go.Proofs.YtjpcdfgbfaeonaaGreatDoor
open Go.RowKit
theorem SeqNone_walk (w : World) : Calls Tryz.prog 4 #[] w fun r w' => r = .returned (.bool true) ∧ Below w.heap.size w w' :=
  Ev.closed_callT SeqNone.nong SeqNone.mix SeqNone.t13 (n := 100000) (by kernel_rfl) w
end Go.Proofs.YtjpcdfgbfaeonaaGreatDoor
