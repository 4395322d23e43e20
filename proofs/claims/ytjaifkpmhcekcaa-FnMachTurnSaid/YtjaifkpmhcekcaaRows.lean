/-
  No cell of these rows narrows 'for every input' (looked for: loops, veiled, ifaces, maps, wideKeys, modest, calm, conditions, laid).
  DERIVED. THE GIVEN ROWS OF THIS SEAT. 12 by the template 'for every input the law returns true; each argument reads behind the call as it read before'; 0 by the template 'total and deterministic' (their statements: YtjaifkpmhcekcaaTotals.lean).
  GIVEN WITH THE SEED: the statements are not yours to turn. If you find one false, say at which input.
  Laid BY PROGRAM, IN A SANDBOX (cutbox-rows.mjs): the forced cells as the released guide's own fill.sh prints them over the translation 19afe238c20e56e7… (all of the seat's roots in one cut). By AI agents, Wed Nov 11 2026. No macro, syntax, notation, axiom, sorry.
-/
import Derived.Test.YtjaifkpmhcekcaaChecked
import GoSem.Claim
import GoSem.ClaimJoined
import GoSem.ClaimMapViews
import Derived.JoinedTies
import Derived.KernelRfl
namespace Go.Proofs.Ytjaifkpmhcekcaa
/- THE CELL 'sum', in the pinned program and in every row, IS THE sha256 OF THE DUMP (.gsa) THAT YtjaifkpmhcekcaaProg.lean LOADS. Nothing in Lean hashes anything: it is a label: what it is worth is what the hold of that sum in a sandbox is worth. -/
noncomputable def Try.pinned : Pinned := { name := "ytjaifkpmhcekcaa", sum := "19afe238c20e56e77ba96247a2e1e6e92cb530f083dad62a1e535760c29fe6ae", checked := Try.checked }
namespace Rows
def none {H : Type} : Left H := { results := [], args := [] }

/-- 'laws.FnMachIn': WHATEVER THE INPUT: true; the input reads as it did. -/
def fnMachInSpec : ChangeSpec := { name := "fnMachIn", fn := fun _ => fun
  | [d] => { results := [.lit (.bool true)], args := [d] }
  | _ => none }
def fnMachInRow : OpenClaim := { program := "ytjaifkpmhcekcaa", sum := "19afe238c20e56e77ba96247a2e1e6e92cb530f083dad62a1e535760c29fe6ae", func := "loop.example/oneletter/laws.FnMachIn", spec := "fnMachIn", plainKeys := false, apart := false }
def FnMachInSaid : Prop := fnMachInRow.holds Try.pinned (OpenSpec.ofChange fnMachInSpec)

/-- ITS FALSE NEIGHBOUR: 'it returns false'. Refute it at one input. -/
def fnMachInWrong : ChangeSpec := { name := "fnMachIn", fn := fun _ => fun
  | [d] => { results := [.lit (.bool false)], args := [d] }
  | _ => none }
def FnMachInWrongFalsely : Prop := fnMachInRow.holds Try.pinned (OpenSpec.ofChange fnMachInWrong)

/-- 'laws.FnMachTakes': WHATEVER THE INPUT: true; the input reads as it did. -/
def fnMachTakesSpec : ChangeSpec := { name := "fnMachTakes", fn := fun _ => fun
  | [d] => { results := [.lit (.bool true)], args := [d] }
  | _ => none }
def fnMachTakesRow : OpenClaim := { program := "ytjaifkpmhcekcaa", sum := "19afe238c20e56e77ba96247a2e1e6e92cb530f083dad62a1e535760c29fe6ae", func := "loop.example/oneletter/laws.FnMachTakes", spec := "fnMachTakes", plainKeys := false, apart := false }
def FnMachTakesSaid : Prop := fnMachTakesRow.holds Try.pinned (OpenSpec.ofChange fnMachTakesSpec)

/-- ITS FALSE NEIGHBOUR: 'it returns false'. Refute it at one input. -/
def fnMachTakesWrong : ChangeSpec := { name := "fnMachTakes", fn := fun _ => fun
  | [d] => { results := [.lit (.bool false)], args := [d] }
  | _ => none }
def FnMachTakesWrongFalsely : Prop := fnMachTakesRow.holds Try.pinned (OpenSpec.ofChange fnMachTakesWrong)

/-- 'laws.FnMachAt': WHATEVER THE INPUT: true; the input reads as it did. -/
def fnMachAtSpec : ChangeSpec := { name := "fnMachAt", fn := fun _ => fun
  | [d] => { results := [.lit (.bool true)], args := [d] }
  | _ => none }
def fnMachAtRow : OpenClaim := { program := "ytjaifkpmhcekcaa", sum := "19afe238c20e56e77ba96247a2e1e6e92cb530f083dad62a1e535760c29fe6ae", func := "loop.example/oneletter/laws.FnMachAt", spec := "fnMachAt", plainKeys := false, apart := false }
def FnMachAtSaid : Prop := fnMachAtRow.holds Try.pinned (OpenSpec.ofChange fnMachAtSpec)

/-- ITS FALSE NEIGHBOUR: 'it returns false'. Refute it at one input. -/
def fnMachAtWrong : ChangeSpec := { name := "fnMachAt", fn := fun _ => fun
  | [d] => { results := [.lit (.bool false)], args := [d] }
  | _ => none }
def FnMachAtWrongFalsely : Prop := fnMachAtRow.holds Try.pinned (OpenSpec.ofChange fnMachAtWrong)

/-- 'laws.FnMachSet': WHATEVER THE INPUT: true; the input reads as it did. -/
def fnMachSetSpec : ChangeSpec := { name := "fnMachSet", fn := fun _ => fun
  | [d] => { results := [.lit (.bool true)], args := [d] }
  | _ => none }
def fnMachSetRow : OpenClaim := { program := "ytjaifkpmhcekcaa", sum := "19afe238c20e56e77ba96247a2e1e6e92cb530f083dad62a1e535760c29fe6ae", func := "loop.example/oneletter/laws.FnMachSet", spec := "fnMachSet", inPlace := ["internal/abi.NoEscape", "internal/bytealg.IndexByteString", "internal/bytealg.IndexString"], recurses := true, named := ["internal/bytealg.MaxLen"], plainKeys := false, apart := false }
def FnMachSetSaid : Prop := fnMachSetRow.holds Try.pinned (OpenSpec.ofChange fnMachSetSpec)

/-- ITS FALSE NEIGHBOUR: 'it returns false'. Refute it at one input. -/
def fnMachSetWrong : ChangeSpec := { name := "fnMachSet", fn := fun _ => fun
  | [d] => { results := [.lit (.bool false)], args := [d] }
  | _ => none }
def FnMachSetWrongFalsely : Prop := fnMachSetRow.holds Try.pinned (OpenSpec.ofChange fnMachSetWrong)

/-- 'laws.FnMachTurn': WHATEVER THE INPUT: true; the input reads as it did. -/
def fnMachTurnSpec : ChangeSpec := { name := "fnMachTurn", fn := fun _ => fun
  | [d] => { results := [.lit (.bool true)], args := [d] }
  | _ => none }
def fnMachTurnRow : OpenClaim := { program := "ytjaifkpmhcekcaa", sum := "19afe238c20e56e77ba96247a2e1e6e92cb530f083dad62a1e535760c29fe6ae", func := "loop.example/oneletter/laws.FnMachTurn", spec := "fnMachTurn", plainKeys := false, apart := false }
def FnMachTurnSaid : Prop := fnMachTurnRow.holds Try.pinned (OpenSpec.ofChange fnMachTurnSpec)

/-- ITS FALSE NEIGHBOUR: 'it returns false'. Refute it at one input. -/
def fnMachTurnWrong : ChangeSpec := { name := "fnMachTurn", fn := fun _ => fun
  | [d] => { results := [.lit (.bool false)], args := [d] }
  | _ => none }
def FnMachTurnWrongFalsely : Prop := fnMachTurnRow.holds Try.pinned (OpenSpec.ofChange fnMachTurnWrong)

/-- 'laws.FnMachSingle': WHATEVER THE INPUT: true; the input reads as it did. -/
def fnMachSingleSpec : ChangeSpec := { name := "fnMachSingle", fn := fun _ => fun
  | [d] => { results := [.lit (.bool true)], args := [d] }
  | _ => none }
def fnMachSingleRow : OpenClaim := { program := "ytjaifkpmhcekcaa", sum := "19afe238c20e56e77ba96247a2e1e6e92cb530f083dad62a1e535760c29fe6ae", func := "loop.example/oneletter/laws.FnMachSingle", spec := "fnMachSingle", plainKeys := false, apart := false }
def FnMachSingleSaid : Prop := fnMachSingleRow.holds Try.pinned (OpenSpec.ofChange fnMachSingleSpec)

/-- ITS FALSE NEIGHBOUR: 'it returns false'. Refute it at one input. -/
def fnMachSingleWrong : ChangeSpec := { name := "fnMachSingle", fn := fun _ => fun
  | [d] => { results := [.lit (.bool false)], args := [d] }
  | _ => none }
def FnMachSingleWrongFalsely : Prop := fnMachSingleRow.holds Try.pinned (OpenSpec.ofChange fnMachSingleWrong)

/-- 'laws.FnMachOf': WHATEVER THE INPUT: true; the input reads as it did. -/
def fnMachOfSpec : ChangeSpec := { name := "fnMachOf", fn := fun _ => fun
  | [d] => { results := [.lit (.bool true)], args := [d] }
  | _ => none }
def fnMachOfRow : OpenClaim := { program := "ytjaifkpmhcekcaa", sum := "19afe238c20e56e77ba96247a2e1e6e92cb530f083dad62a1e535760c29fe6ae", func := "loop.example/oneletter/laws.FnMachOf", spec := "fnMachOf", inPlace := ["internal/bytealg.IndexByteString", "internal/bytealg.IndexString", "internal/abi.NoEscape"], unfollowed := true, recurses := true, named := ["internal/bytealg.MaxLen"], plainKeys := false, apart := false }
def FnMachOfSaid : Prop := fnMachOfRow.holds Try.pinned (OpenSpec.ofChange fnMachOfSpec)

/-- ITS FALSE NEIGHBOUR: 'it returns false'. Refute it at one input. -/
def fnMachOfWrong : ChangeSpec := { name := "fnMachOf", fn := fun _ => fun
  | [d] => { results := [.lit (.bool false)], args := [d] }
  | _ => none }
def FnMachOfWrongFalsely : Prop := fnMachOfRow.holds Try.pinned (OpenSpec.ofChange fnMachOfWrong)

/-- 'laws.FnMachBoth': WHATEVER THE INPUT: true; the input reads as it did. -/
def fnMachBothSpec : ChangeSpec := { name := "fnMachBoth", fn := fun _ => fun
  | [d] => { results := [.lit (.bool true)], args := [d] }
  | _ => none }
def fnMachBothRow : OpenClaim := { program := "ytjaifkpmhcekcaa", sum := "19afe238c20e56e77ba96247a2e1e6e92cb530f083dad62a1e535760c29fe6ae", func := "loop.example/oneletter/laws.FnMachBoth", spec := "fnMachBoth", plainKeys := false, apart := false }
def FnMachBothSaid : Prop := fnMachBothRow.holds Try.pinned (OpenSpec.ofChange fnMachBothSpec)

/-- ITS FALSE NEIGHBOUR: 'it returns false'. Refute it at one input. -/
def fnMachBothWrong : ChangeSpec := { name := "fnMachBoth", fn := fun _ => fun
  | [d] => { results := [.lit (.bool false)], args := [d] }
  | _ => none }
def FnMachBothWrongFalsely : Prop := fnMachBothRow.holds Try.pinned (OpenSpec.ofChange fnMachBothWrong)

/-- 'laws.FnMachFew': WHATEVER THE INPUT: true; the input reads as it did. -/
def fnMachFewSpec : ChangeSpec := { name := "fnMachFew", fn := fun _ => fun
  | [d] => { results := [.lit (.bool true)], args := [d] }
  | _ => none }
def fnMachFewRow : OpenClaim := { program := "ytjaifkpmhcekcaa", sum := "19afe238c20e56e77ba96247a2e1e6e92cb530f083dad62a1e535760c29fe6ae", func := "loop.example/oneletter/laws.FnMachFew", spec := "fnMachFew", inPlace := ["internal/abi.NoEscape", "internal/bytealg.IndexByteString", "internal/bytealg.IndexString"], unfollowed := true, recurses := true, named := ["internal/bytealg.MaxLen"], plainKeys := false, apart := false }
def FnMachFewSaid : Prop := fnMachFewRow.holds Try.pinned (OpenSpec.ofChange fnMachFewSpec)

/-- ITS FALSE NEIGHBOUR: 'it returns false'. Refute it at one input. -/
def fnMachFewWrong : ChangeSpec := { name := "fnMachFew", fn := fun _ => fun
  | [d] => { results := [.lit (.bool false)], args := [d] }
  | _ => none }
def FnMachFewWrongFalsely : Prop := fnMachFewRow.holds Try.pinned (OpenSpec.ofChange fnMachFewWrong)

/-- 'laws.FnMachSum': WHATEVER THE INPUT: true; the input reads as it did. -/
def fnMachSumSpec : ChangeSpec := { name := "fnMachSum", fn := fun _ => fun
  | [d] => { results := [.lit (.bool true)], args := [d] }
  | _ => none }
def fnMachSumRow : OpenClaim := { program := "ytjaifkpmhcekcaa", sum := "19afe238c20e56e77ba96247a2e1e6e92cb530f083dad62a1e535760c29fe6ae", func := "loop.example/oneletter/laws.FnMachSum", spec := "fnMachSum", inPlace := ["internal/abi.NoEscape", "internal/bytealg.IndexByteString", "internal/bytealg.IndexString"], unfollowed := true, recurses := true, named := ["internal/bytealg.MaxLen"], plainKeys := false, apart := false }
def FnMachSumSaid : Prop := fnMachSumRow.holds Try.pinned (OpenSpec.ofChange fnMachSumSpec)

/-- ITS FALSE NEIGHBOUR: 'it returns false'. Refute it at one input. -/
def fnMachSumWrong : ChangeSpec := { name := "fnMachSum", fn := fun _ => fun
  | [d] => { results := [.lit (.bool false)], args := [d] }
  | _ => none }
def FnMachSumWrongFalsely : Prop := fnMachSumRow.holds Try.pinned (OpenSpec.ofChange fnMachSumWrong)

/-- 'laws.FnExactMachIn': WHATEVER THE INPUT: true; the input reads as it did. -/
def fnExactMachInSpec : ChangeSpec := { name := "fnExactMachIn", fn := fun _ => fun
  | [d] => { results := [.lit (.bool true)], args := [d] }
  | _ => none }
def fnExactMachInRow : OpenClaim := { program := "ytjaifkpmhcekcaa", sum := "19afe238c20e56e77ba96247a2e1e6e92cb530f083dad62a1e535760c29fe6ae", func := "loop.example/oneletter/laws.FnExactMachIn", spec := "fnExactMachIn", plainKeys := false, apart := false }
def FnExactMachInSaid : Prop := fnExactMachInRow.holds Try.pinned (OpenSpec.ofChange fnExactMachInSpec)

/-- ITS FALSE NEIGHBOUR: 'it returns false'. Refute it at one input. -/
def fnExactMachInWrong : ChangeSpec := { name := "fnExactMachIn", fn := fun _ => fun
  | [d] => { results := [.lit (.bool false)], args := [d] }
  | _ => none }
def FnExactMachInWrongFalsely : Prop := fnExactMachInRow.holds Try.pinned (OpenSpec.ofChange fnExactMachInWrong)

/-- 'laws.FnExactMachTakes': WHATEVER THE INPUT: true; the input reads as it did. -/
def fnExactMachTakesSpec : ChangeSpec := { name := "fnExactMachTakes", fn := fun _ => fun
  | [d1, d2] => { results := [.lit (.bool true)], args := [d1, d2] }
  | _ => none }
def fnExactMachTakesRow : OpenClaim := { program := "ytjaifkpmhcekcaa", sum := "19afe238c20e56e77ba96247a2e1e6e92cb530f083dad62a1e535760c29fe6ae", func := "loop.example/oneletter/laws.FnExactMachTakes", spec := "fnExactMachTakes", plainKeys := false, apart := false }
def FnExactMachTakesSaid : Prop := fnExactMachTakesRow.holds Try.pinned (OpenSpec.ofChange fnExactMachTakesSpec)

/-- ITS FALSE NEIGHBOUR: 'it returns false'. Refute it at one input. -/
def fnExactMachTakesWrong : ChangeSpec := { name := "fnExactMachTakes", fn := fun _ => fun
  | [d1, d2] => { results := [.lit (.bool false)], args := [d1, d2] }
  | _ => none }
def FnExactMachTakesWrongFalsely : Prop := fnExactMachTakesRow.holds Try.pinned (OpenSpec.ofChange fnExactMachTakesWrong)

/- THE SECOND FORM. 'bulk': how many values and letters a reading holds, each counted each time it is reached (what is shared counts as often as it is met; a slice's spare places count too). A statement '..UptoSaid' is the law's where the arguments, and the package variables that the reading takes, are together of bulk at most 1048576: NARROWER than '..Said'. Prove '..Said' where nothing that the law and all that it calls make is longer than what came in: it says more and counts as full. Else prove '..UptoSaid'. A law counts once. -/
mutual
def uptoBulk {H : Type} : DataW H → Nat
  | .lit (.string bytes) => bytes.length + 1
  | .lit _ => 1
  | .nil => 1
  | .ptr d => uptoBulk d + 1
  | .slice elems spare => uptoBulkAll elems + uptoBulkAll spare + 1
  | .agg parts => uptoBulkAll parts + 1
  | .iface _ d => uptoBulk d + 1
  | .map entries => uptoBulkEntries entries + 1
  | .held _ => 1
def uptoBulkAll {H : Type} : List (DataW H) → Nat
  | [] => 0
  | d :: r => uptoBulk d + uptoBulkAll r
def uptoBulkEntries {H : Type} : List (Lit × DataW H) → Nat
  | [] => 0
  | x :: r => uptoBulkEntry x + uptoBulkEntries r
def uptoBulkEntry {H : Type} : Lit × DataW H → Nat
  | (.string bytes, d) => bytes.length + uptoBulk d + 1
  | (_, d) => uptoBulk d + 1
 end
def uptoSmall : (H : Type) → List (DataW H) → Bool := fun _ ds => decide (uptoBulkAll ds ≤ 1048576)
def OpenSpec.upto (s : _root_.Go.ChangeSpec) : _root_.Go.OpenSpec := { _root_.Go.OpenSpec.ofChange s with cond := some uptoSmall }

/-- 'laws.FnMachIn', WHERE WHAT IT READS IS OF BULK AT MOST 1048576: true; the input reads as it did. -/
def fnMachInUptoRow : OpenClaim := { program := "ytjaifkpmhcekcaa", sum := "19afe238c20e56e77ba96247a2e1e6e92cb530f083dad62a1e535760c29fe6ae", func := "loop.example/oneletter/laws.FnMachIn", spec := "fnMachIn", plainKeys := false, apart := false, narrowed := true }
def FnMachInUptoSaid : Prop := fnMachInUptoRow.holds Try.pinned (OpenSpec.upto fnMachInSpec)

/-- 'laws.FnMachTakes', WHERE WHAT IT READS IS OF BULK AT MOST 1048576: true; the input reads as it did. -/
def fnMachTakesUptoRow : OpenClaim := { program := "ytjaifkpmhcekcaa", sum := "19afe238c20e56e77ba96247a2e1e6e92cb530f083dad62a1e535760c29fe6ae", func := "loop.example/oneletter/laws.FnMachTakes", spec := "fnMachTakes", plainKeys := false, apart := false, narrowed := true }
def FnMachTakesUptoSaid : Prop := fnMachTakesUptoRow.holds Try.pinned (OpenSpec.upto fnMachTakesSpec)

/-- 'laws.FnMachAt', WHERE WHAT IT READS IS OF BULK AT MOST 1048576: true; the input reads as it did. -/
def fnMachAtUptoRow : OpenClaim := { program := "ytjaifkpmhcekcaa", sum := "19afe238c20e56e77ba96247a2e1e6e92cb530f083dad62a1e535760c29fe6ae", func := "loop.example/oneletter/laws.FnMachAt", spec := "fnMachAt", plainKeys := false, apart := false, narrowed := true }
def FnMachAtUptoSaid : Prop := fnMachAtUptoRow.holds Try.pinned (OpenSpec.upto fnMachAtSpec)

/-- 'laws.FnMachSet', WHERE WHAT IT READS IS OF BULK AT MOST 1048576: true; the input reads as it did. -/
def fnMachSetUptoRow : OpenClaim := { program := "ytjaifkpmhcekcaa", sum := "19afe238c20e56e77ba96247a2e1e6e92cb530f083dad62a1e535760c29fe6ae", func := "loop.example/oneletter/laws.FnMachSet", spec := "fnMachSet", inPlace := ["internal/abi.NoEscape", "internal/bytealg.IndexByteString", "internal/bytealg.IndexString"], recurses := true, named := ["internal/bytealg.MaxLen"], plainKeys := false, apart := false, narrowed := true }
def FnMachSetUptoSaid : Prop := fnMachSetUptoRow.holds Try.pinned (OpenSpec.upto fnMachSetSpec)

/-- 'laws.FnMachTurn', WHERE WHAT IT READS IS OF BULK AT MOST 1048576: true; the input reads as it did. -/
def fnMachTurnUptoRow : OpenClaim := { program := "ytjaifkpmhcekcaa", sum := "19afe238c20e56e77ba96247a2e1e6e92cb530f083dad62a1e535760c29fe6ae", func := "loop.example/oneletter/laws.FnMachTurn", spec := "fnMachTurn", plainKeys := false, apart := false, narrowed := true }
def FnMachTurnUptoSaid : Prop := fnMachTurnUptoRow.holds Try.pinned (OpenSpec.upto fnMachTurnSpec)

/-- 'laws.FnMachSingle', WHERE WHAT IT READS IS OF BULK AT MOST 1048576: true; the input reads as it did. -/
def fnMachSingleUptoRow : OpenClaim := { program := "ytjaifkpmhcekcaa", sum := "19afe238c20e56e77ba96247a2e1e6e92cb530f083dad62a1e535760c29fe6ae", func := "loop.example/oneletter/laws.FnMachSingle", spec := "fnMachSingle", plainKeys := false, apart := false, narrowed := true }
def FnMachSingleUptoSaid : Prop := fnMachSingleUptoRow.holds Try.pinned (OpenSpec.upto fnMachSingleSpec)

/-- 'laws.FnMachOf', WHERE WHAT IT READS IS OF BULK AT MOST 1048576: true; the input reads as it did. -/
def fnMachOfUptoRow : OpenClaim := { program := "ytjaifkpmhcekcaa", sum := "19afe238c20e56e77ba96247a2e1e6e92cb530f083dad62a1e535760c29fe6ae", func := "loop.example/oneletter/laws.FnMachOf", spec := "fnMachOf", inPlace := ["internal/bytealg.IndexByteString", "internal/bytealg.IndexString", "internal/abi.NoEscape"], unfollowed := true, recurses := true, named := ["internal/bytealg.MaxLen"], plainKeys := false, apart := false, narrowed := true }
def FnMachOfUptoSaid : Prop := fnMachOfUptoRow.holds Try.pinned (OpenSpec.upto fnMachOfSpec)

/-- 'laws.FnMachBoth', WHERE WHAT IT READS IS OF BULK AT MOST 1048576: true; the input reads as it did. -/
def fnMachBothUptoRow : OpenClaim := { program := "ytjaifkpmhcekcaa", sum := "19afe238c20e56e77ba96247a2e1e6e92cb530f083dad62a1e535760c29fe6ae", func := "loop.example/oneletter/laws.FnMachBoth", spec := "fnMachBoth", plainKeys := false, apart := false, narrowed := true }
def FnMachBothUptoSaid : Prop := fnMachBothUptoRow.holds Try.pinned (OpenSpec.upto fnMachBothSpec)

/-- 'laws.FnMachFew', WHERE WHAT IT READS IS OF BULK AT MOST 1048576: true; the input reads as it did. -/
def fnMachFewUptoRow : OpenClaim := { program := "ytjaifkpmhcekcaa", sum := "19afe238c20e56e77ba96247a2e1e6e92cb530f083dad62a1e535760c29fe6ae", func := "loop.example/oneletter/laws.FnMachFew", spec := "fnMachFew", inPlace := ["internal/abi.NoEscape", "internal/bytealg.IndexByteString", "internal/bytealg.IndexString"], unfollowed := true, recurses := true, named := ["internal/bytealg.MaxLen"], plainKeys := false, apart := false, narrowed := true }
def FnMachFewUptoSaid : Prop := fnMachFewUptoRow.holds Try.pinned (OpenSpec.upto fnMachFewSpec)

/-- 'laws.FnMachSum', WHERE WHAT IT READS IS OF BULK AT MOST 1048576: true; the input reads as it did. -/
def fnMachSumUptoRow : OpenClaim := { program := "ytjaifkpmhcekcaa", sum := "19afe238c20e56e77ba96247a2e1e6e92cb530f083dad62a1e535760c29fe6ae", func := "loop.example/oneletter/laws.FnMachSum", spec := "fnMachSum", inPlace := ["internal/abi.NoEscape", "internal/bytealg.IndexByteString", "internal/bytealg.IndexString"], unfollowed := true, recurses := true, named := ["internal/bytealg.MaxLen"], plainKeys := false, apart := false, narrowed := true }
def FnMachSumUptoSaid : Prop := fnMachSumUptoRow.holds Try.pinned (OpenSpec.upto fnMachSumSpec)

/-- 'laws.FnExactMachIn', WHERE WHAT IT READS IS OF BULK AT MOST 1048576: true; the input reads as it did. -/
def fnExactMachInUptoRow : OpenClaim := { program := "ytjaifkpmhcekcaa", sum := "19afe238c20e56e77ba96247a2e1e6e92cb530f083dad62a1e535760c29fe6ae", func := "loop.example/oneletter/laws.FnExactMachIn", spec := "fnExactMachIn", plainKeys := false, apart := false, narrowed := true }
def FnExactMachInUptoSaid : Prop := fnExactMachInUptoRow.holds Try.pinned (OpenSpec.upto fnExactMachInSpec)

/-- 'laws.FnExactMachTakes', WHERE WHAT IT READS IS OF BULK AT MOST 1048576: true; the input reads as it did. -/
def fnExactMachTakesUptoRow : OpenClaim := { program := "ytjaifkpmhcekcaa", sum := "19afe238c20e56e77ba96247a2e1e6e92cb530f083dad62a1e535760c29fe6ae", func := "loop.example/oneletter/laws.FnExactMachTakes", spec := "fnExactMachTakes", plainKeys := false, apart := false, narrowed := true }
def FnExactMachTakesUptoSaid : Prop := fnExactMachTakesUptoRow.holds Try.pinned (OpenSpec.upto fnExactMachTakesSpec)

end Rows
end Go.Proofs.Ytjaifkpmhcekcaa
