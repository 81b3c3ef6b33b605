/-
  NARROWER THAN 'FOR EVERY INPUT', by the rows' own cells (each row's printed sentence says how): IntSums: laid · IntQuo: laid · IntGcd: laid · IntPower: laid · IntSmall: laid · IntMod: laid.
  DERIVED. THE GIVEN ROWS OF THIS SEAT. 6 by the template 'for every input the law returns true; each argument reads behind the call as it read before'; 0 by the template 'total and deterministic' (their statements: YtgjgdhihpdpmcaaDoorTotals.lean).
  GIVEN WITH THE SEED: the statements are not yours to turn. If you find one false, say at which input.
  Laid BY PROGRAM, IN A SANDBOX (cutbox-rows.mjs): the forced cells as the released guide's own fill.sh prints them over the translation c237b5724d8eb426… (all of the seat's roots in one cut). By AI agents, Wed Nov 11 2026. No macro, syntax, notation, axiom, sorry.
-/
import Derived.Test.YtgjgdhihpdpmcaaDoorChecked
import GoSem.PinnedTables
import GoSem.Claim
import GoSem.ClaimJoined
import GoSem.ClaimMapViews
import Derived.JoinedTies
import Derived.KernelRfl
namespace Go.Proofs.YtgjgdhihpdpmcaaDoor
/- THE CELL 'sum', in the pinned program and in every row, IS THE sha256 OF THE DUMP (.gsa) THAT YtgjgdhihpdpmcaaDoorProg.lean LOADS. Nothing in Lean hashes anything: it is a label: what it is worth is what the hold of that sum in a sandbox is worth. -/
noncomputable def Tryd.pinned : Pinned := { name := "ytgjgdhihpdpmcaadoor", sum := "c237b5724d8eb4260b0ce8a79256847c62e639c5fb50b7416e696dced1f96802", checked := Tryd.checked }
namespace Rows
def none {H : Type} : Left H := { results := [], args := [] }

/- WHAT THE LISTED PACKAGE-LEVEL VARIABLES READ AS WHEN THE CALL BEGINS. Each datum BY PROGRAM (the guide's laid-datum.mjs) off the statement by which the dump's own 'gosem.cut.vars' lays the variable. In a bare row this is a premise. The card (YtgjgdhihpdpmcaaDoorCards.lean) ties it to the program's text. -/
def laid_unicode_utf8_acceptRanges {H : Type} : DataW H := .agg [.agg [.lit (.int .u8 128), .lit (.int .u8 191)], .agg [.lit (.int .u8 160), .lit (.int .u8 191)], .agg [.lit (.int .u8 128), .lit (.int .u8 159)], .agg [.lit (.int .u8 144), .lit (.int .u8 191)], .agg [.lit (.int .u8 128), .lit (.int .u8 143)], .agg [.lit (.int .u8 0), .lit (.int .u8 0)], .agg [.lit (.int .u8 0), .lit (.int .u8 0)], .agg [.lit (.int .u8 0), .lit (.int .u8 0)], .agg [.lit (.int .u8 0), .lit (.int .u8 0)], .agg [.lit (.int .u8 0), .lit (.int .u8 0)], .agg [.lit (.int .u8 0), .lit (.int .u8 0)], .agg [.lit (.int .u8 0), .lit (.int .u8 0)], .agg [.lit (.int .u8 0), .lit (.int .u8 0)], .agg [.lit (.int .u8 0), .lit (.int .u8 0)], .agg [.lit (.int .u8 0), .lit (.int .u8 0)], .agg [.lit (.int .u8 0), .lit (.int .u8 0)]]
/-- One of Go's own tables, pinned by name: the form's constant. -/
def laid_unicode_utf8_first : DataW Unit := Go.Pinned.utf8First

/-- 'ashlarlaw1.IntSums': WHATEVER THE INPUT: true; the input reads as it did. -/
def intSumsSpec : ChangeSpec := { name := "intSums", fn := fun _ => fun
  | [d1, d2] => { results := [.lit (.bool true)], args := [d1, d2] }
  | _ => none }
def intSumsRow : OpenClaim := { program := "ytgjgdhihpdpmcaadoor", sum := "c237b5724d8eb4260b0ce8a79256847c62e639c5fb50b7416e696dced1f96802", func := "ashlar/ashlarlaw1.IntSums", spec := "intSums", inPlace := ["internal/bytealg.IndexByteString", "internal/bytealg.IndexString"], recurses := true, named := ["unicode/utf8.first", "unicode/utf8.acceptRanges", "internal/bytealg.MaxLen"], apart := false, laid := [("unicode/utf8.acceptRanges", laid_unicode_utf8_acceptRanges), ("unicode/utf8.first", laid_unicode_utf8_first)] }
def IntSumsSaid : Prop := intSumsRow.holds Tryd.pinned (OpenSpec.ofChange intSumsSpec)

/-- ITS FALSE NEIGHBOUR: 'it returns false'. Refute it at one input. -/
def intSumsWrong : ChangeSpec := { name := "intSums", fn := fun _ => fun
  | [d1, d2] => { results := [.lit (.bool false)], args := [d1, d2] }
  | _ => none }
def IntSumsWrongFalsely : Prop := intSumsRow.holds Tryd.pinned (OpenSpec.ofChange intSumsWrong)

/-- 'ashlarlaw1.IntQuo': WHATEVER THE INPUT: true; the input reads as it did. -/
def intQuoSpec : ChangeSpec := { name := "intQuo", fn := fun _ => fun
  | [d1, d2] => { results := [.lit (.bool true)], args := [d1, d2] }
  | _ => none }
def intQuoRow : OpenClaim := { program := "ytgjgdhihpdpmcaadoor", sum := "c237b5724d8eb4260b0ce8a79256847c62e639c5fb50b7416e696dced1f96802", func := "ashlar/ashlarlaw1.IntQuo", spec := "intQuo", inPlace := ["internal/bytealg.IndexByteString", "internal/bytealg.IndexString"], recurses := true, named := ["unicode/utf8.first", "unicode/utf8.acceptRanges", "internal/bytealg.MaxLen"], apart := false, laid := [("unicode/utf8.acceptRanges", laid_unicode_utf8_acceptRanges), ("unicode/utf8.first", laid_unicode_utf8_first)] }
def IntQuoSaid : Prop := intQuoRow.holds Tryd.pinned (OpenSpec.ofChange intQuoSpec)

/-- ITS FALSE NEIGHBOUR: 'it returns false'. Refute it at one input. -/
def intQuoWrong : ChangeSpec := { name := "intQuo", fn := fun _ => fun
  | [d1, d2] => { results := [.lit (.bool false)], args := [d1, d2] }
  | _ => none }
def IntQuoWrongFalsely : Prop := intQuoRow.holds Tryd.pinned (OpenSpec.ofChange intQuoWrong)

/-- 'ashlarlaw1.IntGcd': WHATEVER THE INPUT: true; the input reads as it did. -/
def intGcdSpec : ChangeSpec := { name := "intGcd", fn := fun _ => fun
  | [d1, d2, d3] => { results := [.lit (.bool true)], args := [d1, d2, d3] }
  | _ => none }
def intGcdRow : OpenClaim := { program := "ytgjgdhihpdpmcaadoor", sum := "c237b5724d8eb4260b0ce8a79256847c62e639c5fb50b7416e696dced1f96802", func := "ashlar/ashlarlaw1.IntGcd", spec := "intGcd", inPlace := ["internal/bytealg.IndexByteString", "internal/bytealg.IndexString"], unfollowed := true, recurses := true, named := ["unicode/utf8.first", "unicode/utf8.acceptRanges", "internal/bytealg.MaxLen"], apart := false, laid := [("unicode/utf8.acceptRanges", laid_unicode_utf8_acceptRanges), ("unicode/utf8.first", laid_unicode_utf8_first)] }
def IntGcdSaid : Prop := intGcdRow.holds Tryd.pinned (OpenSpec.ofChange intGcdSpec)

/-- ITS FALSE NEIGHBOUR: 'it returns false'. Refute it at one input. -/
def intGcdWrong : ChangeSpec := { name := "intGcd", fn := fun _ => fun
  | [d1, d2, d3] => { results := [.lit (.bool false)], args := [d1, d2, d3] }
  | _ => none }
def IntGcdWrongFalsely : Prop := intGcdRow.holds Tryd.pinned (OpenSpec.ofChange intGcdWrong)

/-- 'ashlarlaw1.IntPower': WHATEVER THE INPUT: true; the input reads as it did. -/
def intPowerSpec : ChangeSpec := { name := "intPower", fn := fun _ => fun
  | [d1, d2] => { results := [.lit (.bool true)], args := [d1, d2] }
  | _ => none }
def intPowerRow : OpenClaim := { program := "ytgjgdhihpdpmcaadoor", sum := "c237b5724d8eb4260b0ce8a79256847c62e639c5fb50b7416e696dced1f96802", func := "ashlar/ashlarlaw1.IntPower", spec := "intPower", inPlace := ["internal/bytealg.IndexByteString", "internal/bytealg.IndexString"], recurses := true, named := ["unicode/utf8.first", "unicode/utf8.acceptRanges", "internal/bytealg.MaxLen"], apart := false, laid := [("unicode/utf8.acceptRanges", laid_unicode_utf8_acceptRanges), ("unicode/utf8.first", laid_unicode_utf8_first)] }
def IntPowerSaid : Prop := intPowerRow.holds Tryd.pinned (OpenSpec.ofChange intPowerSpec)

/-- ITS FALSE NEIGHBOUR: 'it returns false'. Refute it at one input. -/
def intPowerWrong : ChangeSpec := { name := "intPower", fn := fun _ => fun
  | [d1, d2] => { results := [.lit (.bool false)], args := [d1, d2] }
  | _ => none }
def IntPowerWrongFalsely : Prop := intPowerRow.holds Tryd.pinned (OpenSpec.ofChange intPowerWrong)

/-- 'ashlarlaw1.IntSmall': WHATEVER THE INPUT: true; the input reads as it did. -/
def intSmallSpec : ChangeSpec := { name := "intSmall", fn := fun _ => fun
  | [d1, d2] => { results := [.lit (.bool true)], args := [d1, d2] }
  | _ => none }
def intSmallRow : OpenClaim := { program := "ytgjgdhihpdpmcaadoor", sum := "c237b5724d8eb4260b0ce8a79256847c62e639c5fb50b7416e696dced1f96802", func := "ashlar/ashlarlaw1.IntSmall", spec := "intSmall", inPlace := ["internal/bytealg.IndexByteString", "internal/bytealg.IndexString"], recurses := true, named := ["unicode/utf8.first", "unicode/utf8.acceptRanges", "internal/bytealg.MaxLen"], apart := false, laid := [("unicode/utf8.acceptRanges", laid_unicode_utf8_acceptRanges), ("unicode/utf8.first", laid_unicode_utf8_first)] }
def IntSmallSaid : Prop := intSmallRow.holds Tryd.pinned (OpenSpec.ofChange intSmallSpec)

/-- ITS FALSE NEIGHBOUR: 'it returns false'. Refute it at one input. -/
def intSmallWrong : ChangeSpec := { name := "intSmall", fn := fun _ => fun
  | [d1, d2] => { results := [.lit (.bool false)], args := [d1, d2] }
  | _ => none }
def IntSmallWrongFalsely : Prop := intSmallRow.holds Tryd.pinned (OpenSpec.ofChange intSmallWrong)

/-- 'ashlarlaw1.IntMod': WHATEVER THE INPUT: true; the input reads as it did. -/
def intModSpec : ChangeSpec := { name := "intMod", fn := fun _ => fun
  | [d1, d2] => { results := [.lit (.bool true)], args := [d1, d2] }
  | _ => none }
def intModRow : OpenClaim := { program := "ytgjgdhihpdpmcaadoor", sum := "c237b5724d8eb4260b0ce8a79256847c62e639c5fb50b7416e696dced1f96802", func := "ashlar/ashlarlaw1.IntMod", spec := "intMod", inPlace := ["internal/bytealg.IndexByteString", "internal/bytealg.IndexString"], recurses := true, named := ["unicode/utf8.first", "unicode/utf8.acceptRanges", "internal/bytealg.MaxLen"], apart := false, laid := [("unicode/utf8.acceptRanges", laid_unicode_utf8_acceptRanges), ("unicode/utf8.first", laid_unicode_utf8_first)] }
def IntModSaid : Prop := intModRow.holds Tryd.pinned (OpenSpec.ofChange intModSpec)

/-- ITS FALSE NEIGHBOUR: 'it returns false'. Refute it at one input. -/
def intModWrong : ChangeSpec := { name := "intMod", fn := fun _ => fun
  | [d1, d2] => { results := [.lit (.bool false)], args := [d1, d2] }
  | _ => none }
def IntModWrongFalsely : Prop := intModRow.holds Tryd.pinned (OpenSpec.ofChange intModWrong)

/- THE SECOND FORM. 'bulk': how many values and letters a reading holds, each counted each time it is reached (what is shared counts as often as it is met; a slice's spare places count too). A statement '..UptoSaid' is the law's where the arguments, and the package variables that the reading takes, are together of bulk at most 1048576: NARROWER than '..Said'. Prove '..Said' where nothing that the law and all that it calls make is longer than what came in: it says more and counts as full. Else prove '..UptoSaid'. A law counts once. -/
mutual
def uptoBulk {H : Type} : DataW H → Nat
  | .lit (.string bytes) => bytes.length + 1
  | .lit _ => 1
  | .nil => 1
  | .ptr d => uptoBulk d + 1
  | .slice elems spare => uptoBulkAll elems + uptoBulkAll spare + 1
  | .agg parts => uptoBulkAll parts + 1
  | .iface _ d => uptoBulk d + 1
  | .map entries => uptoBulkEntries entries + 1
  | .held _ => 1
def uptoBulkAll {H : Type} : List (DataW H) → Nat
  | [] => 0
  | d :: r => uptoBulk d + uptoBulkAll r
def uptoBulkEntries {H : Type} : List (Lit × DataW H) → Nat
  | [] => 0
  | x :: r => uptoBulkEntry x + uptoBulkEntries r
def uptoBulkEntry {H : Type} : Lit × DataW H → Nat
  | (.string bytes, d) => bytes.length + uptoBulk d + 1
  | (_, d) => uptoBulk d + 1
 end
def uptoSmall : (H : Type) → List (DataW H) → Bool := fun _ ds => decide (uptoBulkAll ds ≤ 1048576)
def OpenSpec.upto (s : _root_.Go.ChangeSpec) : _root_.Go.OpenSpec := { _root_.Go.OpenSpec.ofChange s with cond := some uptoSmall }

/-- 'ashlarlaw1.IntSums', WHERE WHAT IT READS IS OF BULK AT MOST 1048576: true; the input reads as it did. -/
def intSumsUptoRow : OpenClaim := { program := "ytgjgdhihpdpmcaadoor", sum := "c237b5724d8eb4260b0ce8a79256847c62e639c5fb50b7416e696dced1f96802", func := "ashlar/ashlarlaw1.IntSums", spec := "intSums", inPlace := ["internal/bytealg.IndexByteString", "internal/bytealg.IndexString"], recurses := true, named := ["unicode/utf8.first", "unicode/utf8.acceptRanges", "internal/bytealg.MaxLen"], apart := false, laid := [("unicode/utf8.acceptRanges", laid_unicode_utf8_acceptRanges), ("unicode/utf8.first", laid_unicode_utf8_first)], narrowed := true }
def IntSumsUptoSaid : Prop := intSumsUptoRow.holds Tryd.pinned (OpenSpec.upto intSumsSpec)

/-- 'ashlarlaw1.IntQuo', WHERE WHAT IT READS IS OF BULK AT MOST 1048576: true; the input reads as it did. -/
def intQuoUptoRow : OpenClaim := { program := "ytgjgdhihpdpmcaadoor", sum := "c237b5724d8eb4260b0ce8a79256847c62e639c5fb50b7416e696dced1f96802", func := "ashlar/ashlarlaw1.IntQuo", spec := "intQuo", inPlace := ["internal/bytealg.IndexByteString", "internal/bytealg.IndexString"], recurses := true, named := ["unicode/utf8.first", "unicode/utf8.acceptRanges", "internal/bytealg.MaxLen"], apart := false, laid := [("unicode/utf8.acceptRanges", laid_unicode_utf8_acceptRanges), ("unicode/utf8.first", laid_unicode_utf8_first)], narrowed := true }
def IntQuoUptoSaid : Prop := intQuoUptoRow.holds Tryd.pinned (OpenSpec.upto intQuoSpec)

/-- 'ashlarlaw1.IntGcd', WHERE WHAT IT READS IS OF BULK AT MOST 1048576: true; the input reads as it did. -/
def intGcdUptoRow : OpenClaim := { program := "ytgjgdhihpdpmcaadoor", sum := "c237b5724d8eb4260b0ce8a79256847c62e639c5fb50b7416e696dced1f96802", func := "ashlar/ashlarlaw1.IntGcd", spec := "intGcd", inPlace := ["internal/bytealg.IndexByteString", "internal/bytealg.IndexString"], unfollowed := true, recurses := true, named := ["unicode/utf8.first", "unicode/utf8.acceptRanges", "internal/bytealg.MaxLen"], apart := false, laid := [("unicode/utf8.acceptRanges", laid_unicode_utf8_acceptRanges), ("unicode/utf8.first", laid_unicode_utf8_first)], narrowed := true }
def IntGcdUptoSaid : Prop := intGcdUptoRow.holds Tryd.pinned (OpenSpec.upto intGcdSpec)

/-- 'ashlarlaw1.IntPower', WHERE WHAT IT READS IS OF BULK AT MOST 1048576: true; the input reads as it did. -/
def intPowerUptoRow : OpenClaim := { program := "ytgjgdhihpdpmcaadoor", sum := "c237b5724d8eb4260b0ce8a79256847c62e639c5fb50b7416e696dced1f96802", func := "ashlar/ashlarlaw1.IntPower", spec := "intPower", inPlace := ["internal/bytealg.IndexByteString", "internal/bytealg.IndexString"], recurses := true, named := ["unicode/utf8.first", "unicode/utf8.acceptRanges", "internal/bytealg.MaxLen"], apart := false, laid := [("unicode/utf8.acceptRanges", laid_unicode_utf8_acceptRanges), ("unicode/utf8.first", laid_unicode_utf8_first)], narrowed := true }
def IntPowerUptoSaid : Prop := intPowerUptoRow.holds Tryd.pinned (OpenSpec.upto intPowerSpec)

/-- 'ashlarlaw1.IntSmall', WHERE WHAT IT READS IS OF BULK AT MOST 1048576: true; the input reads as it did. -/
def intSmallUptoRow : OpenClaim := { program := "ytgjgdhihpdpmcaadoor", sum := "c237b5724d8eb4260b0ce8a79256847c62e639c5fb50b7416e696dced1f96802", func := "ashlar/ashlarlaw1.IntSmall", spec := "intSmall", inPlace := ["internal/bytealg.IndexByteString", "internal/bytealg.IndexString"], recurses := true, named := ["unicode/utf8.first", "unicode/utf8.acceptRanges", "internal/bytealg.MaxLen"], apart := false, laid := [("unicode/utf8.acceptRanges", laid_unicode_utf8_acceptRanges), ("unicode/utf8.first", laid_unicode_utf8_first)], narrowed := true }
def IntSmallUptoSaid : Prop := intSmallUptoRow.holds Tryd.pinned (OpenSpec.upto intSmallSpec)

/-- 'ashlarlaw1.IntMod', WHERE WHAT IT READS IS OF BULK AT MOST 1048576: true; the input reads as it did. -/
def intModUptoRow : OpenClaim := { program := "ytgjgdhihpdpmcaadoor", sum := "c237b5724d8eb4260b0ce8a79256847c62e639c5fb50b7416e696dced1f96802", func := "ashlar/ashlarlaw1.IntMod", spec := "intMod", inPlace := ["internal/bytealg.IndexByteString", "internal/bytealg.IndexString"], recurses := true, named := ["unicode/utf8.first", "unicode/utf8.acceptRanges", "internal/bytealg.MaxLen"], apart := false, laid := [("unicode/utf8.acceptRanges", laid_unicode_utf8_acceptRanges), ("unicode/utf8.first", laid_unicode_utf8_first)], narrowed := true }
def IntModUptoSaid : Prop := intModUptoRow.holds Tryd.pinned (OpenSpec.upto intModSpec)

end Rows
end Go.Proofs.YtgjgdhihpdpmcaaDoor
