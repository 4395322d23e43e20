/-
  No cell of these rows narrows 'for every input' (looked for: loops, veiled, ifaces, maps, wideKeys, modest, calm, conditions, laid).
  DERIVED. THE GIVEN ROWS OF THIS SEAT. 11 by the template 'for every input the law returns true; each argument reads behind the call as it read before'; 0 by the template 'total and deterministic' (their statements: YtndpkmgjmpfgdabTotals.lean).
  GIVEN WITH THE SEED: the statements are not yours to turn. If you find one false, say at which input.
  Laid BY PROGRAM, IN A SANDBOX (cutbox-rows.mjs): the forced cells as the released guide's own fill.sh prints them over the translation 96e4706ede24b099… (all of the seat's roots in one cut). By AI agents, Wed Nov 11 2026. No macro, syntax, notation, axiom, sorry.
-/
import Derived.Test.YtndpkmgjmpfgdabChecked
import GoSem.Claim
import GoSem.ClaimJoined
import GoSem.ClaimMapViews
import Derived.JoinedTies
import Derived.KernelRfl
namespace Go.Proofs.Ytndpkmgjmpfgdab
/- THE CELL 'sum', in the pinned program and in every row, IS THE sha256 OF THE DUMP (.gsa) THAT YtndpkmgjmpfgdabProg.lean LOADS. Nothing in Lean hashes anything: it is a label: what it is worth is what the hold of that sum in a sandbox is worth. -/
noncomputable def Try.pinned : Pinned := { name := "ytndpkmgjmpfgdab", sum := "96e4706ede24b099b4472fcc38a45b7fa11f3678a97fd842a806388fa7da1f94", checked := Try.checked }
namespace Rows
def none {H : Type} : Left H := { results := [], args := [] }

/-- 'laws.FnExactSetIn': WHATEVER THE INPUT: true; the input reads as it did. -/
def fnExactSetInSpec : ChangeSpec := { name := "fnExactSetIn", fn := fun _ => fun
  | [d] => { results := [.lit (.bool true)], args := [d] }
  | _ => none }
def fnExactSetInRow : OpenClaim := { program := "ytndpkmgjmpfgdab", sum := "96e4706ede24b099b4472fcc38a45b7fa11f3678a97fd842a806388fa7da1f94", func := "loop.example/oneletter/laws.FnExactSetIn", spec := "fnExactSetIn", inPlace := ["internal/bytealg.IndexByteString", "internal/bytealg.IndexString"], named := ["internal/bytealg.MaxLen"], apart := false }
def FnExactSetInSaid : Prop := fnExactSetInRow.holds Try.pinned (OpenSpec.ofChange fnExactSetInSpec)

/-- ITS FALSE NEIGHBOUR: 'it returns false'. Refute it at one input. -/
def fnExactSetInWrong : ChangeSpec := { name := "fnExactSetIn", fn := fun _ => fun
  | [d] => { results := [.lit (.bool false)], args := [d] }
  | _ => none }
def FnExactSetInWrongFalsely : Prop := fnExactSetInRow.holds Try.pinned (OpenSpec.ofChange fnExactSetInWrong)

/-- 'laws.FnExactSetHas': WHATEVER THE INPUT: true; the input reads as it did. -/
def fnExactSetHasSpec : ChangeSpec := { name := "fnExactSetHas", fn := fun _ => fun
  | [d1, d2] => { results := [.lit (.bool true)], args := [d1, d2] }
  | _ => none }
def fnExactSetHasRow : OpenClaim := { program := "ytndpkmgjmpfgdab", sum := "96e4706ede24b099b4472fcc38a45b7fa11f3678a97fd842a806388fa7da1f94", func := "loop.example/oneletter/laws.FnExactSetHas", spec := "fnExactSetHas", inPlace := ["internal/bytealg.IndexByteString", "internal/bytealg.IndexString"], named := ["internal/bytealg.MaxLen"], apart := false }
def FnExactSetHasSaid : Prop := fnExactSetHasRow.holds Try.pinned (OpenSpec.ofChange fnExactSetHasSpec)

/-- ITS FALSE NEIGHBOUR: 'it returns false'. Refute it at one input. -/
def fnExactSetHasWrong : ChangeSpec := { name := "fnExactSetHas", fn := fun _ => fun
  | [d1, d2] => { results := [.lit (.bool false)], args := [d1, d2] }
  | _ => none }
def FnExactSetHasWrongFalsely : Prop := fnExactSetHasRow.holds Try.pinned (OpenSpec.ofChange fnExactSetHasWrong)

/-- 'laws.FnExactSetTidy': WHATEVER THE INPUT: true; the input reads as it did. -/
def fnExactSetTidySpec : ChangeSpec := { name := "fnExactSetTidy", fn := fun _ => fun
  | [d] => { results := [.lit (.bool true)], args := [d] }
  | _ => none }
def fnExactSetTidyRow : OpenClaim := { program := "ytndpkmgjmpfgdab", sum := "96e4706ede24b099b4472fcc38a45b7fa11f3678a97fd842a806388fa7da1f94", func := "loop.example/oneletter/laws.FnExactSetTidy", spec := "fnExactSetTidy", inPlace := ["internal/bytealg.IndexByteString", "internal/bytealg.IndexString", "internal/abi.NoEscape"], recurses := true, named := ["internal/bytealg.MaxLen"], apart := false }
def FnExactSetTidySaid : Prop := fnExactSetTidyRow.holds Try.pinned (OpenSpec.ofChange fnExactSetTidySpec)

/-- ITS FALSE NEIGHBOUR: 'it returns false'. Refute it at one input. -/
def fnExactSetTidyWrong : ChangeSpec := { name := "fnExactSetTidy", fn := fun _ => fun
  | [d] => { results := [.lit (.bool false)], args := [d] }
  | _ => none }
def FnExactSetTidyWrongFalsely : Prop := fnExactSetTidyRow.holds Try.pinned (OpenSpec.ofChange fnExactSetTidyWrong)

/-- 'laws.FnExactSetSame': WHATEVER THE INPUT: true; the input reads as it did. -/
def fnExactSetSameSpec : ChangeSpec := { name := "fnExactSetSame", fn := fun _ => fun
  | [d1, d2] => { results := [.lit (.bool true)], args := [d1, d2] }
  | _ => none }
def fnExactSetSameRow : OpenClaim := { program := "ytndpkmgjmpfgdab", sum := "96e4706ede24b099b4472fcc38a45b7fa11f3678a97fd842a806388fa7da1f94", func := "loop.example/oneletter/laws.FnExactSetSame", spec := "fnExactSetSame", inPlace := ["internal/bytealg.IndexByteString", "internal/bytealg.IndexString"], recurses := true, named := ["internal/bytealg.MaxLen"], apart := false }
def FnExactSetSameSaid : Prop := fnExactSetSameRow.holds Try.pinned (OpenSpec.ofChange fnExactSetSameSpec)

/-- ITS FALSE NEIGHBOUR: 'it returns false'. Refute it at one input. -/
def fnExactSetSameWrong : ChangeSpec := { name := "fnExactSetSame", fn := fun _ => fun
  | [d1, d2] => { results := [.lit (.bool false)], args := [d1, d2] }
  | _ => none }
def FnExactSetSameWrongFalsely : Prop := fnExactSetSameRow.holds Try.pinned (OpenSpec.ofChange fnExactSetSameWrong)

/-- 'laws.FnExactSetBelow': WHATEVER THE INPUT: true; the input reads as it did. -/
def fnExactSetBelowSpec : ChangeSpec := { name := "fnExactSetBelow", fn := fun _ => fun
  | [d1, d2] => { results := [.lit (.bool true)], args := [d1, d2] }
  | _ => none }
def fnExactSetBelowRow : OpenClaim := { program := "ytndpkmgjmpfgdab", sum := "96e4706ede24b099b4472fcc38a45b7fa11f3678a97fd842a806388fa7da1f94", func := "loop.example/oneletter/laws.FnExactSetBelow", spec := "fnExactSetBelow", inPlace := ["internal/bytealg.IndexByteString", "internal/bytealg.IndexString"], named := ["internal/bytealg.MaxLen"], apart := false }
def FnExactSetBelowSaid : Prop := fnExactSetBelowRow.holds Try.pinned (OpenSpec.ofChange fnExactSetBelowSpec)

/-- ITS FALSE NEIGHBOUR: 'it returns false'. Refute it at one input. -/
def fnExactSetBelowWrong : ChangeSpec := { name := "fnExactSetBelow", fn := fun _ => fun
  | [d1, d2] => { results := [.lit (.bool false)], args := [d1, d2] }
  | _ => none }
def FnExactSetBelowWrongFalsely : Prop := fnExactSetBelowRow.holds Try.pinned (OpenSpec.ofChange fnExactSetBelowWrong)

/-- 'laws.FnExactSetSizes': WHATEVER THE INPUT: true; the input reads as it did. -/
def fnExactSetSizesSpec : ChangeSpec := { name := "fnExactSetSizes", fn := fun _ => fun
  | [d] => { results := [.lit (.bool true)], args := [d] }
  | _ => none }
def fnExactSetSizesRow : OpenClaim := { program := "ytndpkmgjmpfgdab", sum := "96e4706ede24b099b4472fcc38a45b7fa11f3678a97fd842a806388fa7da1f94", func := "loop.example/oneletter/laws.FnExactSetSizes", spec := "fnExactSetSizes", inPlace := ["internal/bytealg.IndexByteString", "internal/bytealg.IndexString"], recurses := true, named := ["internal/bytealg.MaxLen"], apart := false }
def FnExactSetSizesSaid : Prop := fnExactSetSizesRow.holds Try.pinned (OpenSpec.ofChange fnExactSetSizesSpec)

/-- ITS FALSE NEIGHBOUR: 'it returns false'. Refute it at one input. -/
def fnExactSetSizesWrong : ChangeSpec := { name := "fnExactSetSizes", fn := fun _ => fun
  | [d] => { results := [.lit (.bool false)], args := [d] }
  | _ => none }
def FnExactSetSizesWrongFalsely : Prop := fnExactSetSizesRow.holds Try.pinned (OpenSpec.ofChange fnExactSetSizesWrong)

/-- 'laws.FnExactSetFrom': WHATEVER THE INPUT: true; the input reads as it did. -/
def fnExactSetFromSpec : ChangeSpec := { name := "fnExactSetFrom", fn := fun _ => fun
  | [d1, d2] => { results := [.lit (.bool true)], args := [d1, d2] }
  | _ => none }
def fnExactSetFromRow : OpenClaim := { program := "ytndpkmgjmpfgdab", sum := "96e4706ede24b099b4472fcc38a45b7fa11f3678a97fd842a806388fa7da1f94", func := "loop.example/oneletter/laws.FnExactSetFrom", spec := "fnExactSetFrom", inPlace := ["internal/bytealg.IndexByteString", "internal/bytealg.IndexString"], named := ["internal/bytealg.MaxLen"], apart := false }
def FnExactSetFromSaid : Prop := fnExactSetFromRow.holds Try.pinned (OpenSpec.ofChange fnExactSetFromSpec)

/-- ITS FALSE NEIGHBOUR: 'it returns false'. Refute it at one input. -/
def fnExactSetFromWrong : ChangeSpec := { name := "fnExactSetFrom", fn := fun _ => fun
  | [d1, d2] => { results := [.lit (.bool false)], args := [d1, d2] }
  | _ => none }
def FnExactSetFromWrongFalsely : Prop := fnExactSetFromRow.holds Try.pinned (OpenSpec.ofChange fnExactSetFromWrong)

/-- 'laws.FnExactSetCount': WHATEVER THE INPUT: true; the input reads as it did. -/
def fnExactSetCountSpec : ChangeSpec := { name := "fnExactSetCount", fn := fun _ => fun
  | [d1, d2] => { results := [.lit (.bool true)], args := [d1, d2] }
  | _ => none }
def fnExactSetCountRow : OpenClaim := { program := "ytndpkmgjmpfgdab", sum := "96e4706ede24b099b4472fcc38a45b7fa11f3678a97fd842a806388fa7da1f94", func := "loop.example/oneletter/laws.FnExactSetCount", spec := "fnExactSetCount", inPlace := ["internal/bytealg.IndexByteString", "internal/bytealg.IndexString"], named := ["internal/bytealg.MaxLen"], apart := false }
def FnExactSetCountSaid : Prop := fnExactSetCountRow.holds Try.pinned (OpenSpec.ofChange fnExactSetCountSpec)

/-- ITS FALSE NEIGHBOUR: 'it returns false'. Refute it at one input. -/
def fnExactSetCountWrong : ChangeSpec := { name := "fnExactSetCount", fn := fun _ => fun
  | [d1, d2] => { results := [.lit (.bool false)], args := [d1, d2] }
  | _ => none }
def FnExactSetCountWrongFalsely : Prop := fnExactSetCountRow.holds Try.pinned (OpenSpec.ofChange fnExactSetCountWrong)

/-- 'laws.FnExactSetList': WHATEVER THE INPUT: true; the input reads as it did. -/
def fnExactSetListSpec : ChangeSpec := { name := "fnExactSetList", fn := fun _ => fun
  | [d1, d2] => { results := [.lit (.bool true)], args := [d1, d2] }
  | _ => none }
def fnExactSetListRow : OpenClaim := { program := "ytndpkmgjmpfgdab", sum := "96e4706ede24b099b4472fcc38a45b7fa11f3678a97fd842a806388fa7da1f94", func := "loop.example/oneletter/laws.FnExactSetList", spec := "fnExactSetList", inPlace := ["internal/bytealg.IndexByteString", "internal/bytealg.IndexString"], named := ["internal/bytealg.MaxLen"], apart := false }
def FnExactSetListSaid : Prop := fnExactSetListRow.holds Try.pinned (OpenSpec.ofChange fnExactSetListSpec)

/-- ITS FALSE NEIGHBOUR: 'it returns false'. Refute it at one input. -/
def fnExactSetListWrong : ChangeSpec := { name := "fnExactSetList", fn := fun _ => fun
  | [d1, d2] => { results := [.lit (.bool false)], args := [d1, d2] }
  | _ => none }
def FnExactSetListWrongFalsely : Prop := fnExactSetListRow.holds Try.pinned (OpenSpec.ofChange fnExactSetListWrong)

/-- 'laws.FnExactSetOf': WHATEVER THE INPUT: true; the input reads as it did. -/
def fnExactSetOfSpec : ChangeSpec := { name := "fnExactSetOf", fn := fun _ => fun
  | [d] => { results := [.lit (.bool true)], args := [d] }
  | _ => none }
def fnExactSetOfRow : OpenClaim := { program := "ytndpkmgjmpfgdab", sum := "96e4706ede24b099b4472fcc38a45b7fa11f3678a97fd842a806388fa7da1f94", func := "loop.example/oneletter/laws.FnExactSetOf", spec := "fnExactSetOf", inPlace := ["internal/abi.NoEscape"], recurses := true, apart := false }
def FnExactSetOfSaid : Prop := fnExactSetOfRow.holds Try.pinned (OpenSpec.ofChange fnExactSetOfSpec)

/-- ITS FALSE NEIGHBOUR: 'it returns false'. Refute it at one input. -/
def fnExactSetOfWrong : ChangeSpec := { name := "fnExactSetOf", fn := fun _ => fun
  | [d] => { results := [.lit (.bool false)], args := [d] }
  | _ => none }
def FnExactSetOfWrongFalsely : Prop := fnExactSetOfRow.holds Try.pinned (OpenSpec.ofChange fnExactSetOfWrong)

/-- 'laws.FnExactSetEnds': WHATEVER THE INPUT: true; the input reads as it did. -/
def fnExactSetEndsSpec : ChangeSpec := { name := "fnExactSetEnds", fn := fun _ => fun
  | [d] => { results := [.lit (.bool true)], args := [d] }
  | _ => none }
def fnExactSetEndsRow : OpenClaim := { program := "ytndpkmgjmpfgdab", sum := "96e4706ede24b099b4472fcc38a45b7fa11f3678a97fd842a806388fa7da1f94", func := "loop.example/oneletter/laws.FnExactSetEnds", spec := "fnExactSetEnds", inPlace := ["internal/bytealg.IndexByteString", "internal/bytealg.IndexString"], named := ["internal/bytealg.MaxLen"], apart := false }
def FnExactSetEndsSaid : Prop := fnExactSetEndsRow.holds Try.pinned (OpenSpec.ofChange fnExactSetEndsSpec)

/-- ITS FALSE NEIGHBOUR: 'it returns false'. Refute it at one input. -/
def fnExactSetEndsWrong : ChangeSpec := { name := "fnExactSetEnds", fn := fun _ => fun
  | [d] => { results := [.lit (.bool false)], args := [d] }
  | _ => none }
def FnExactSetEndsWrongFalsely : Prop := fnExactSetEndsRow.holds Try.pinned (OpenSpec.ofChange fnExactSetEndsWrong)

/- THE SECOND FORM. 'bulk': how many values and letters a reading holds, each counted each time it is reached (what is shared counts as often as it is met; a slice's spare places count too). A statement '..UptoSaid' is the law's where the arguments, and the package variables that the reading takes, are together of bulk at most 1048576: NARROWER than '..Said'. Prove '..Said' where nothing that the law and all that it calls make is longer than what came in: it says more and counts as full. Else prove '..UptoSaid'. A law counts once. -/
mutual
def uptoBulk {H : Type} : DataW H → Nat
  | .lit (.string bytes) => bytes.length + 1
  | .lit _ => 1
  | .nil => 1
  | .ptr d => uptoBulk d + 1
  | .slice elems spare => uptoBulkAll elems + uptoBulkAll spare + 1
  | .agg parts => uptoBulkAll parts + 1
  | .iface _ d => uptoBulk d + 1
  | .map entries => uptoBulkEntries entries + 1
  | .held _ => 1
def uptoBulkAll {H : Type} : List (DataW H) → Nat
  | [] => 0
  | d :: r => uptoBulk d + uptoBulkAll r
def uptoBulkEntries {H : Type} : List (Lit × DataW H) → Nat
  | [] => 0
  | x :: r => uptoBulkEntry x + uptoBulkEntries r
def uptoBulkEntry {H : Type} : Lit × DataW H → Nat
  | (.string bytes, d) => bytes.length + uptoBulk d + 1
  | (_, d) => uptoBulk d + 1
 end
def uptoSmall : (H : Type) → List (DataW H) → Bool := fun _ ds => decide (uptoBulkAll ds ≤ 1048576)
def OpenSpec.upto (s : _root_.Go.ChangeSpec) : _root_.Go.OpenSpec := { _root_.Go.OpenSpec.ofChange s with cond := some uptoSmall }

/-- 'laws.FnExactSetIn', WHERE WHAT IT READS IS OF BULK AT MOST 1048576: true; the input reads as it did. -/
def fnExactSetInUptoRow : OpenClaim := { program := "ytndpkmgjmpfgdab", sum := "96e4706ede24b099b4472fcc38a45b7fa11f3678a97fd842a806388fa7da1f94", func := "loop.example/oneletter/laws.FnExactSetIn", spec := "fnExactSetIn", inPlace := ["internal/bytealg.IndexByteString", "internal/bytealg.IndexString"], named := ["internal/bytealg.MaxLen"], apart := false, narrowed := true }
def FnExactSetInUptoSaid : Prop := fnExactSetInUptoRow.holds Try.pinned (OpenSpec.upto fnExactSetInSpec)

/-- 'laws.FnExactSetHas', WHERE WHAT IT READS IS OF BULK AT MOST 1048576: true; the input reads as it did. -/
def fnExactSetHasUptoRow : OpenClaim := { program := "ytndpkmgjmpfgdab", sum := "96e4706ede24b099b4472fcc38a45b7fa11f3678a97fd842a806388fa7da1f94", func := "loop.example/oneletter/laws.FnExactSetHas", spec := "fnExactSetHas", inPlace := ["internal/bytealg.IndexByteString", "internal/bytealg.IndexString"], named := ["internal/bytealg.MaxLen"], apart := false, narrowed := true }
def FnExactSetHasUptoSaid : Prop := fnExactSetHasUptoRow.holds Try.pinned (OpenSpec.upto fnExactSetHasSpec)

/-- 'laws.FnExactSetTidy', WHERE WHAT IT READS IS OF BULK AT MOST 1048576: true; the input reads as it did. -/
def fnExactSetTidyUptoRow : OpenClaim := { program := "ytndpkmgjmpfgdab", sum := "96e4706ede24b099b4472fcc38a45b7fa11f3678a97fd842a806388fa7da1f94", func := "loop.example/oneletter/laws.FnExactSetTidy", spec := "fnExactSetTidy", inPlace := ["internal/bytealg.IndexByteString", "internal/bytealg.IndexString", "internal/abi.NoEscape"], recurses := true, named := ["internal/bytealg.MaxLen"], apart := false, narrowed := true }
def FnExactSetTidyUptoSaid : Prop := fnExactSetTidyUptoRow.holds Try.pinned (OpenSpec.upto fnExactSetTidySpec)

/-- 'laws.FnExactSetSame', WHERE WHAT IT READS IS OF BULK AT MOST 1048576: true; the input reads as it did. -/
def fnExactSetSameUptoRow : OpenClaim := { program := "ytndpkmgjmpfgdab", sum := "96e4706ede24b099b4472fcc38a45b7fa11f3678a97fd842a806388fa7da1f94", func := "loop.example/oneletter/laws.FnExactSetSame", spec := "fnExactSetSame", inPlace := ["internal/bytealg.IndexByteString", "internal/bytealg.IndexString"], recurses := true, named := ["internal/bytealg.MaxLen"], apart := false, narrowed := true }
def FnExactSetSameUptoSaid : Prop := fnExactSetSameUptoRow.holds Try.pinned (OpenSpec.upto fnExactSetSameSpec)

/-- 'laws.FnExactSetBelow', WHERE WHAT IT READS IS OF BULK AT MOST 1048576: true; the input reads as it did. -/
def fnExactSetBelowUptoRow : OpenClaim := { program := "ytndpkmgjmpfgdab", sum := "96e4706ede24b099b4472fcc38a45b7fa11f3678a97fd842a806388fa7da1f94", func := "loop.example/oneletter/laws.FnExactSetBelow", spec := "fnExactSetBelow", inPlace := ["internal/bytealg.IndexByteString", "internal/bytealg.IndexString"], named := ["internal/bytealg.MaxLen"], apart := false, narrowed := true }
def FnExactSetBelowUptoSaid : Prop := fnExactSetBelowUptoRow.holds Try.pinned (OpenSpec.upto fnExactSetBelowSpec)

/-- 'laws.FnExactSetSizes', WHERE WHAT IT READS IS OF BULK AT MOST 1048576: true; the input reads as it did. -/
def fnExactSetSizesUptoRow : OpenClaim := { program := "ytndpkmgjmpfgdab", sum := "96e4706ede24b099b4472fcc38a45b7fa11f3678a97fd842a806388fa7da1f94", func := "loop.example/oneletter/laws.FnExactSetSizes", spec := "fnExactSetSizes", inPlace := ["internal/bytealg.IndexByteString", "internal/bytealg.IndexString"], recurses := true, named := ["internal/bytealg.MaxLen"], apart := false, narrowed := true }
def FnExactSetSizesUptoSaid : Prop := fnExactSetSizesUptoRow.holds Try.pinned (OpenSpec.upto fnExactSetSizesSpec)

/-- 'laws.FnExactSetFrom', WHERE WHAT IT READS IS OF BULK AT MOST 1048576: true; the input reads as it did. -/
def fnExactSetFromUptoRow : OpenClaim := { program := "ytndpkmgjmpfgdab", sum := "96e4706ede24b099b4472fcc38a45b7fa11f3678a97fd842a806388fa7da1f94", func := "loop.example/oneletter/laws.FnExactSetFrom", spec := "fnExactSetFrom", inPlace := ["internal/bytealg.IndexByteString", "internal/bytealg.IndexString"], named := ["internal/bytealg.MaxLen"], apart := false, narrowed := true }
def FnExactSetFromUptoSaid : Prop := fnExactSetFromUptoRow.holds Try.pinned (OpenSpec.upto fnExactSetFromSpec)

/-- 'laws.FnExactSetCount', WHERE WHAT IT READS IS OF BULK AT MOST 1048576: true; the input reads as it did. -/
def fnExactSetCountUptoRow : OpenClaim := { program := "ytndpkmgjmpfgdab", sum := "96e4706ede24b099b4472fcc38a45b7fa11f3678a97fd842a806388fa7da1f94", func := "loop.example/oneletter/laws.FnExactSetCount", spec := "fnExactSetCount", inPlace := ["internal/bytealg.IndexByteString", "internal/bytealg.IndexString"], named := ["internal/bytealg.MaxLen"], apart := false, narrowed := true }
def FnExactSetCountUptoSaid : Prop := fnExactSetCountUptoRow.holds Try.pinned (OpenSpec.upto fnExactSetCountSpec)

/-- 'laws.FnExactSetList', WHERE WHAT IT READS IS OF BULK AT MOST 1048576: true; the input reads as it did. -/
def fnExactSetListUptoRow : OpenClaim := { program := "ytndpkmgjmpfgdab", sum := "96e4706ede24b099b4472fcc38a45b7fa11f3678a97fd842a806388fa7da1f94", func := "loop.example/oneletter/laws.FnExactSetList", spec := "fnExactSetList", inPlace := ["internal/bytealg.IndexByteString", "internal/bytealg.IndexString"], named := ["internal/bytealg.MaxLen"], apart := false, narrowed := true }
def FnExactSetListUptoSaid : Prop := fnExactSetListUptoRow.holds Try.pinned (OpenSpec.upto fnExactSetListSpec)

/-- 'laws.FnExactSetOf', WHERE WHAT IT READS IS OF BULK AT MOST 1048576: true; the input reads as it did. -/
def fnExactSetOfUptoRow : OpenClaim := { program := "ytndpkmgjmpfgdab", sum := "96e4706ede24b099b4472fcc38a45b7fa11f3678a97fd842a806388fa7da1f94", func := "loop.example/oneletter/laws.FnExactSetOf", spec := "fnExactSetOf", inPlace := ["internal/abi.NoEscape"], recurses := true, apart := false, narrowed := true }
def FnExactSetOfUptoSaid : Prop := fnExactSetOfUptoRow.holds Try.pinned (OpenSpec.upto fnExactSetOfSpec)

/-- 'laws.FnExactSetEnds', WHERE WHAT IT READS IS OF BULK AT MOST 1048576: true; the input reads as it did. -/
def fnExactSetEndsUptoRow : OpenClaim := { program := "ytndpkmgjmpfgdab", sum := "96e4706ede24b099b4472fcc38a45b7fa11f3678a97fd842a806388fa7da1f94", func := "loop.example/oneletter/laws.FnExactSetEnds", spec := "fnExactSetEnds", inPlace := ["internal/bytealg.IndexByteString", "internal/bytealg.IndexString"], named := ["internal/bytealg.MaxLen"], apart := false, narrowed := true }
def FnExactSetEndsUptoSaid : Prop := fnExactSetEndsUptoRow.holds Try.pinned (OpenSpec.upto fnExactSetEndsSpec)

end Rows
end Go.Proofs.Ytndpkmgjmpfgdab
