/-
  No cell of these rows narrows 'for every input' (looked for: loops, veiled, ifaces, maps, wideKeys, modest, calm, conditions, laid).
  DERIVED. THE GIVEN ROWS OF THIS SEAT. 9 by the template 'for every input the law returns true; each argument reads behind the call as it read before'; 0 by the template 'total and deterministic' (their statements: YtcacdgojibojgacTotals.lean).
  GIVEN WITH THE SEED: the statements are not yours to turn. If you find one false, say at which input.
  Laid BY PROGRAM, IN A SANDBOX (cutbox-rows.mjs): the forced cells as the released guide's own fill.sh prints them over the translation b12abc1efc75e91a… (all of the seat's roots in one cut). By AI agents, Wed Nov 11 2026. No macro, syntax, notation, axiom, sorry.
-/
import Derived.Test.YtcacdgojibojgacChecked
import GoSem.Claim
import GoSem.ClaimJoined
import GoSem.ClaimMapViews
import Derived.JoinedTies
import Derived.KernelRfl
namespace Go.Proofs.Ytcacdgojibojgac
/- THE CELL 'sum', in the pinned program and in every row, IS THE sha256 OF THE DUMP (.gsa) THAT YtcacdgojibojgacProg.lean LOADS. Nothing in Lean hashes anything: it is a label: what it is worth is what the hold of that sum in a sandbox is worth. -/
noncomputable def Try.pinned : Pinned := { name := "ytcacdgojibojgac", sum := "b12abc1efc75e91a5f00281ce24687e0f32f29fea33c51ce26982a243f5f599d", checked := Try.checked }
namespace Rows
def none {H : Type} : Left H := { results := [], args := [] }

/-- 'laws.FnMachTakes': WHATEVER THE INPUT: true; the input reads as it did. -/
def fnMachTakesSpec : ChangeSpec := { name := "fnMachTakes", fn := fun _ => fun
  | [d] => { results := [.lit (.bool true)], args := [d] }
  | _ => none }
def fnMachTakesRow : OpenClaim := { program := "ytcacdgojibojgac", sum := "b12abc1efc75e91a5f00281ce24687e0f32f29fea33c51ce26982a243f5f599d", func := "loop.example/oneletter/laws.FnMachTakes", spec := "fnMachTakes", plainKeys := false, apart := false }
def FnMachTakesSaid : Prop := fnMachTakesRow.holds Try.pinned (OpenSpec.ofChange fnMachTakesSpec)

/-- ITS FALSE NEIGHBOUR: 'it returns false'. Refute it at one input. -/
def fnMachTakesWrong : ChangeSpec := { name := "fnMachTakes", fn := fun _ => fun
  | [d] => { results := [.lit (.bool false)], args := [d] }
  | _ => none }
def FnMachTakesWrongFalsely : Prop := fnMachTakesRow.holds Try.pinned (OpenSpec.ofChange fnMachTakesWrong)

/-- 'laws.FnMachAt': WHATEVER THE INPUT: true; the input reads as it did. -/
def fnMachAtSpec : ChangeSpec := { name := "fnMachAt", fn := fun _ => fun
  | [d] => { results := [.lit (.bool true)], args := [d] }
  | _ => none }
def fnMachAtRow : OpenClaim := { program := "ytcacdgojibojgac", sum := "b12abc1efc75e91a5f00281ce24687e0f32f29fea33c51ce26982a243f5f599d", func := "loop.example/oneletter/laws.FnMachAt", spec := "fnMachAt", plainKeys := false, apart := false }
def FnMachAtSaid : Prop := fnMachAtRow.holds Try.pinned (OpenSpec.ofChange fnMachAtSpec)

/-- ITS FALSE NEIGHBOUR: 'it returns false'. Refute it at one input. -/
def fnMachAtWrong : ChangeSpec := { name := "fnMachAt", fn := fun _ => fun
  | [d] => { results := [.lit (.bool false)], args := [d] }
  | _ => none }
def FnMachAtWrongFalsely : Prop := fnMachAtRow.holds Try.pinned (OpenSpec.ofChange fnMachAtWrong)

/-- 'laws.FnMachOf': WHATEVER THE INPUT: true; the input reads as it did. -/
def fnMachOfSpec : ChangeSpec := { name := "fnMachOf", fn := fun _ => fun
  | [d] => { results := [.lit (.bool true)], args := [d] }
  | _ => none }
def fnMachOfRow : OpenClaim := { program := "ytcacdgojibojgac", sum := "b12abc1efc75e91a5f00281ce24687e0f32f29fea33c51ce26982a243f5f599d", func := "loop.example/oneletter/laws.FnMachOf", spec := "fnMachOf", inPlace := ["internal/bytealg.IndexByteString", "internal/bytealg.IndexString", "internal/abi.NoEscape"], unfollowed := true, recurses := true, named := ["internal/bytealg.MaxLen"], plainKeys := false, apart := false }
def FnMachOfSaid : Prop := fnMachOfRow.holds Try.pinned (OpenSpec.ofChange fnMachOfSpec)

/-- ITS FALSE NEIGHBOUR: 'it returns false'. Refute it at one input. -/
def fnMachOfWrong : ChangeSpec := { name := "fnMachOf", fn := fun _ => fun
  | [d] => { results := [.lit (.bool false)], args := [d] }
  | _ => none }
def FnMachOfWrongFalsely : Prop := fnMachOfRow.holds Try.pinned (OpenSpec.ofChange fnMachOfWrong)

/-- 'laws.FnMachBoth': WHATEVER THE INPUT: true; the input reads as it did. -/
def fnMachBothSpec : ChangeSpec := { name := "fnMachBoth", fn := fun _ => fun
  | [d] => { results := [.lit (.bool true)], args := [d] }
  | _ => none }
def fnMachBothRow : OpenClaim := { program := "ytcacdgojibojgac", sum := "b12abc1efc75e91a5f00281ce24687e0f32f29fea33c51ce26982a243f5f599d", func := "loop.example/oneletter/laws.FnMachBoth", spec := "fnMachBoth", plainKeys := false, apart := false }
def FnMachBothSaid : Prop := fnMachBothRow.holds Try.pinned (OpenSpec.ofChange fnMachBothSpec)

/-- ITS FALSE NEIGHBOUR: 'it returns false'. Refute it at one input. -/
def fnMachBothWrong : ChangeSpec := { name := "fnMachBoth", fn := fun _ => fun
  | [d] => { results := [.lit (.bool false)], args := [d] }
  | _ => none }
def FnMachBothWrongFalsely : Prop := fnMachBothRow.holds Try.pinned (OpenSpec.ofChange fnMachBothWrong)

/-- 'laws.FnMachSum': WHATEVER THE INPUT: true; the input reads as it did. -/
def fnMachSumSpec : ChangeSpec := { name := "fnMachSum", fn := fun _ => fun
  | [d] => { results := [.lit (.bool true)], args := [d] }
  | _ => none }
def fnMachSumRow : OpenClaim := { program := "ytcacdgojibojgac", sum := "b12abc1efc75e91a5f00281ce24687e0f32f29fea33c51ce26982a243f5f599d", func := "loop.example/oneletter/laws.FnMachSum", spec := "fnMachSum", inPlace := ["internal/abi.NoEscape", "internal/bytealg.IndexByteString", "internal/bytealg.IndexString"], unfollowed := true, recurses := true, named := ["internal/bytealg.MaxLen"], plainKeys := false, apart := false }
def FnMachSumSaid : Prop := fnMachSumRow.holds Try.pinned (OpenSpec.ofChange fnMachSumSpec)

/-- ITS FALSE NEIGHBOUR: 'it returns false'. Refute it at one input. -/
def fnMachSumWrong : ChangeSpec := { name := "fnMachSum", fn := fun _ => fun
  | [d] => { results := [.lit (.bool false)], args := [d] }
  | _ => none }
def FnMachSumWrongFalsely : Prop := fnMachSumRow.holds Try.pinned (OpenSpec.ofChange fnMachSumWrong)

/-- 'laws.FnExactMachBoth': WHATEVER THE INPUT: true; the input reads as it did. -/
def fnExactMachBothSpec : ChangeSpec := { name := "fnExactMachBoth", fn := fun _ => fun
  | [d1, d2] => { results := [.lit (.bool true)], args := [d1, d2] }
  | _ => none }
def fnExactMachBothRow : OpenClaim := { program := "ytcacdgojibojgac", sum := "b12abc1efc75e91a5f00281ce24687e0f32f29fea33c51ce26982a243f5f599d", func := "loop.example/oneletter/laws.FnExactMachBoth", spec := "fnExactMachBoth", plainKeys := false, apart := false }
def FnExactMachBothSaid : Prop := fnExactMachBothRow.holds Try.pinned (OpenSpec.ofChange fnExactMachBothSpec)

/-- ITS FALSE NEIGHBOUR: 'it returns false'. Refute it at one input. -/
def fnExactMachBothWrong : ChangeSpec := { name := "fnExactMachBoth", fn := fun _ => fun
  | [d1, d2] => { results := [.lit (.bool false)], args := [d1, d2] }
  | _ => none }
def FnExactMachBothWrongFalsely : Prop := fnExactMachBothRow.holds Try.pinned (OpenSpec.ofChange fnExactMachBothWrong)

/-- 'laws.FnRestUndo': WHATEVER THE INPUT: true; the input reads as it did. -/
def fnRestUndoSpec : ChangeSpec := { name := "fnRestUndo", fn := fun _ => fun
  | [d] => { results := [.lit (.bool true)], args := [d] }
  | _ => none }
def fnRestUndoRow : OpenClaim := { program := "ytcacdgojibojgac", sum := "b12abc1efc75e91a5f00281ce24687e0f32f29fea33c51ce26982a243f5f599d", func := "loop.example/oneletter/laws.FnRestUndo", spec := "fnRestUndo", inPlace := ["internal/bytealg.IndexByteString", "internal/bytealg.IndexString", "internal/abi.NoEscape"], unfollowed := true, recurses := true, named := ["internal/bytealg.MaxLen"], plainKeys := false, apart := false }
def FnRestUndoSaid : Prop := fnRestUndoRow.holds Try.pinned (OpenSpec.ofChange fnRestUndoSpec)

/-- ITS FALSE NEIGHBOUR: 'it returns false'. Refute it at one input. -/
def fnRestUndoWrong : ChangeSpec := { name := "fnRestUndo", fn := fun _ => fun
  | [d] => { results := [.lit (.bool false)], args := [d] }
  | _ => none }
def FnRestUndoWrongFalsely : Prop := fnRestUndoRow.holds Try.pinned (OpenSpec.ofChange fnRestUndoWrong)

/-- 'laws.FnExactStarHas': WHATEVER THE INPUT: true; the input reads as it did. -/
def fnExactStarHasSpec : ChangeSpec := { name := "fnExactStarHas", fn := fun _ => fun
  | [d1, d2] => { results := [.lit (.bool true)], args := [d1, d2] }
  | _ => none }
def fnExactStarHasRow : OpenClaim := { program := "ytcacdgojibojgac", sum := "b12abc1efc75e91a5f00281ce24687e0f32f29fea33c51ce26982a243f5f599d", func := "loop.example/oneletter/laws.FnExactStarHas", spec := "fnExactStarHas", inPlace := ["internal/bytealg.IndexByteString", "internal/bytealg.IndexString", "internal/abi.NoEscape"], recurses := true, named := ["internal/bytealg.MaxLen"], plainKeys := false, apart := false }
def FnExactStarHasSaid : Prop := fnExactStarHasRow.holds Try.pinned (OpenSpec.ofChange fnExactStarHasSpec)

/-- ITS FALSE NEIGHBOUR: 'it returns false'. Refute it at one input. -/
def fnExactStarHasWrong : ChangeSpec := { name := "fnExactStarHas", fn := fun _ => fun
  | [d1, d2] => { results := [.lit (.bool false)], args := [d1, d2] }
  | _ => none }
def FnExactStarHasWrongFalsely : Prop := fnExactStarHasRow.holds Try.pinned (OpenSpec.ofChange fnExactStarHasWrong)

/-- 'laws.FnExactStarGap': WHATEVER THE INPUT: true; the input reads as it did. -/
def fnExactStarGapSpec : ChangeSpec := { name := "fnExactStarGap", fn := fun _ => fun
  | [d] => { results := [.lit (.bool true)], args := [d] }
  | _ => none }
def fnExactStarGapRow : OpenClaim := { program := "ytcacdgojibojgac", sum := "b12abc1efc75e91a5f00281ce24687e0f32f29fea33c51ce26982a243f5f599d", func := "loop.example/oneletter/laws.FnExactStarGap", spec := "fnExactStarGap", inPlace := ["internal/bytealg.IndexByteString", "internal/bytealg.IndexString", "internal/abi.NoEscape"], recurses := true, named := ["internal/bytealg.MaxLen"], plainKeys := false, apart := false }
def FnExactStarGapSaid : Prop := fnExactStarGapRow.holds Try.pinned (OpenSpec.ofChange fnExactStarGapSpec)

/-- ITS FALSE NEIGHBOUR: 'it returns false'. Refute it at one input. -/
def fnExactStarGapWrong : ChangeSpec := { name := "fnExactStarGap", fn := fun _ => fun
  | [d] => { results := [.lit (.bool false)], args := [d] }
  | _ => none }
def FnExactStarGapWrongFalsely : Prop := fnExactStarGapRow.holds Try.pinned (OpenSpec.ofChange fnExactStarGapWrong)

/- THE SECOND FORM. 'bulk': how many values and letters a reading holds, each counted each time it is reached (what is shared counts as often as it is met; a slice's spare places count too). A statement '..UptoSaid' is the law's where the arguments, and the package variables that the reading takes, are together of bulk at most 1048576: NARROWER than '..Said'. Prove '..Said' where nothing that the law and all that it calls make is longer than what came in: it says more and counts as full. Else prove '..UptoSaid'. A law counts once. -/
mutual
def uptoBulk {H : Type} : DataW H → Nat
  | .lit (.string bytes) => bytes.length + 1
  | .lit _ => 1
  | .nil => 1
  | .ptr d => uptoBulk d + 1
  | .slice elems spare => uptoBulkAll elems + uptoBulkAll spare + 1
  | .agg parts => uptoBulkAll parts + 1
  | .iface _ d => uptoBulk d + 1
  | .map entries => uptoBulkEntries entries + 1
  | .held _ => 1
def uptoBulkAll {H : Type} : List (DataW H) → Nat
  | [] => 0
  | d :: r => uptoBulk d + uptoBulkAll r
def uptoBulkEntries {H : Type} : List (Lit × DataW H) → Nat
  | [] => 0
  | x :: r => uptoBulkEntry x + uptoBulkEntries r
def uptoBulkEntry {H : Type} : Lit × DataW H → Nat
  | (.string bytes, d) => bytes.length + uptoBulk d + 1
  | (_, d) => uptoBulk d + 1
 end
def uptoSmall : (H : Type) → List (DataW H) → Bool := fun _ ds => decide (uptoBulkAll ds ≤ 1048576)
def OpenSpec.upto (s : _root_.Go.ChangeSpec) : _root_.Go.OpenSpec := { _root_.Go.OpenSpec.ofChange s with cond := some uptoSmall }

/-- 'laws.FnMachTakes', WHERE WHAT IT READS IS OF BULK AT MOST 1048576: true; the input reads as it did. -/
def fnMachTakesUptoRow : OpenClaim := { program := "ytcacdgojibojgac", sum := "b12abc1efc75e91a5f00281ce24687e0f32f29fea33c51ce26982a243f5f599d", func := "loop.example/oneletter/laws.FnMachTakes", spec := "fnMachTakes", plainKeys := false, apart := false, narrowed := true }
def FnMachTakesUptoSaid : Prop := fnMachTakesUptoRow.holds Try.pinned (OpenSpec.upto fnMachTakesSpec)

/-- 'laws.FnMachAt', WHERE WHAT IT READS IS OF BULK AT MOST 1048576: true; the input reads as it did. -/
def fnMachAtUptoRow : OpenClaim := { program := "ytcacdgojibojgac", sum := "b12abc1efc75e91a5f00281ce24687e0f32f29fea33c51ce26982a243f5f599d", func := "loop.example/oneletter/laws.FnMachAt", spec := "fnMachAt", plainKeys := false, apart := false, narrowed := true }
def FnMachAtUptoSaid : Prop := fnMachAtUptoRow.holds Try.pinned (OpenSpec.upto fnMachAtSpec)

/-- 'laws.FnMachOf', WHERE WHAT IT READS IS OF BULK AT MOST 1048576: true; the input reads as it did. -/
def fnMachOfUptoRow : OpenClaim := { program := "ytcacdgojibojgac", sum := "b12abc1efc75e91a5f00281ce24687e0f32f29fea33c51ce26982a243f5f599d", func := "loop.example/oneletter/laws.FnMachOf", spec := "fnMachOf", inPlace := ["internal/bytealg.IndexByteString", "internal/bytealg.IndexString", "internal/abi.NoEscape"], unfollowed := true, recurses := true, named := ["internal/bytealg.MaxLen"], plainKeys := false, apart := false, narrowed := true }
def FnMachOfUptoSaid : Prop := fnMachOfUptoRow.holds Try.pinned (OpenSpec.upto fnMachOfSpec)

/-- 'laws.FnMachBoth', WHERE WHAT IT READS IS OF BULK AT MOST 1048576: true; the input reads as it did. -/
def fnMachBothUptoRow : OpenClaim := { program := "ytcacdgojibojgac", sum := "b12abc1efc75e91a5f00281ce24687e0f32f29fea33c51ce26982a243f5f599d", func := "loop.example/oneletter/laws.FnMachBoth", spec := "fnMachBoth", plainKeys := false, apart := false, narrowed := true }
def FnMachBothUptoSaid : Prop := fnMachBothUptoRow.holds Try.pinned (OpenSpec.upto fnMachBothSpec)

/-- 'laws.FnMachSum', WHERE WHAT IT READS IS OF BULK AT MOST 1048576: true; the input reads as it did. -/
def fnMachSumUptoRow : OpenClaim := { program := "ytcacdgojibojgac", sum := "b12abc1efc75e91a5f00281ce24687e0f32f29fea33c51ce26982a243f5f599d", func := "loop.example/oneletter/laws.FnMachSum", spec := "fnMachSum", inPlace := ["internal/abi.NoEscape", "internal/bytealg.IndexByteString", "internal/bytealg.IndexString"], unfollowed := true, recurses := true, named := ["internal/bytealg.MaxLen"], plainKeys := false, apart := false, narrowed := true }
def FnMachSumUptoSaid : Prop := fnMachSumUptoRow.holds Try.pinned (OpenSpec.upto fnMachSumSpec)

/-- 'laws.FnExactMachBoth', WHERE WHAT IT READS IS OF BULK AT MOST 1048576: true; the input reads as it did. -/
def fnExactMachBothUptoRow : OpenClaim := { program := "ytcacdgojibojgac", sum := "b12abc1efc75e91a5f00281ce24687e0f32f29fea33c51ce26982a243f5f599d", func := "loop.example/oneletter/laws.FnExactMachBoth", spec := "fnExactMachBoth", plainKeys := false, apart := false, narrowed := true }
def FnExactMachBothUptoSaid : Prop := fnExactMachBothUptoRow.holds Try.pinned (OpenSpec.upto fnExactMachBothSpec)

/-- 'laws.FnRestUndo', WHERE WHAT IT READS IS OF BULK AT MOST 1048576: true; the input reads as it did. -/
def fnRestUndoUptoRow : OpenClaim := { program := "ytcacdgojibojgac", sum := "b12abc1efc75e91a5f00281ce24687e0f32f29fea33c51ce26982a243f5f599d", func := "loop.example/oneletter/laws.FnRestUndo", spec := "fnRestUndo", inPlace := ["internal/bytealg.IndexByteString", "internal/bytealg.IndexString", "internal/abi.NoEscape"], unfollowed := true, recurses := true, named := ["internal/bytealg.MaxLen"], plainKeys := false, apart := false, narrowed := true }
def FnRestUndoUptoSaid : Prop := fnRestUndoUptoRow.holds Try.pinned (OpenSpec.upto fnRestUndoSpec)

/-- 'laws.FnExactStarHas', WHERE WHAT IT READS IS OF BULK AT MOST 1048576: true; the input reads as it did. -/
def fnExactStarHasUptoRow : OpenClaim := { program := "ytcacdgojibojgac", sum := "b12abc1efc75e91a5f00281ce24687e0f32f29fea33c51ce26982a243f5f599d", func := "loop.example/oneletter/laws.FnExactStarHas", spec := "fnExactStarHas", inPlace := ["internal/bytealg.IndexByteString", "internal/bytealg.IndexString", "internal/abi.NoEscape"], recurses := true, named := ["internal/bytealg.MaxLen"], plainKeys := false, apart := false, narrowed := true }
def FnExactStarHasUptoSaid : Prop := fnExactStarHasUptoRow.holds Try.pinned (OpenSpec.upto fnExactStarHasSpec)

/-- 'laws.FnExactStarGap', WHERE WHAT IT READS IS OF BULK AT MOST 1048576: true; the input reads as it did. -/
def fnExactStarGapUptoRow : OpenClaim := { program := "ytcacdgojibojgac", sum := "b12abc1efc75e91a5f00281ce24687e0f32f29fea33c51ce26982a243f5f599d", func := "loop.example/oneletter/laws.FnExactStarGap", spec := "fnExactStarGap", inPlace := ["internal/bytealg.IndexByteString", "internal/bytealg.IndexString", "internal/abi.NoEscape"], recurses := true, named := ["internal/bytealg.MaxLen"], plainKeys := false, apart := false, narrowed := true }
def FnExactStarGapUptoSaid : Prop := fnExactStarGapUptoRow.holds Try.pinned (OpenSpec.upto fnExactStarGapSpec)

end Rows
end Go.Proofs.Ytcacdgojibojgac
