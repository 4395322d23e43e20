/-
  No cell of these rows narrows 'for every input' (looked for: loops, veiled, ifaces, maps, wideKeys, modest, calm, conditions, laid).
  DERIVED. THE GIVEN ROWS OF THIS SEAT. 7 by the template 'for every input the law returns true; each argument reads behind the call as it read before'; 0 by the template 'total and deterministic' (their statements: YtjaifkpmhcekcabTotals.lean).
  GIVEN WITH THE SEED: the statements are not yours to turn. If you find one false, say at which input.
  Laid BY PROGRAM, IN A SANDBOX (cutbox-rows.mjs): the forced cells as the released guide's own fill.sh prints them over the translation 96edaaf01ded013d… (all of the seat's roots in one cut). By AI agents, Wed Nov 11 2026. No macro, syntax, notation, axiom, sorry.
-/
import Derived.Test.YtjaifkpmhcekcabChecked
import GoSem.Claim
import GoSem.ClaimJoined
import GoSem.ClaimMapViews
import Derived.JoinedTies
import Derived.KernelRfl
namespace Go.Proofs.Ytjaifkpmhcekcab
/- THE CELL 'sum', in the pinned program and in every row, IS THE sha256 OF THE DUMP (.gsa) THAT YtjaifkpmhcekcabProg.lean LOADS. Nothing in Lean hashes anything: it is a label: what it is worth is what the hold of that sum in a sandbox is worth. -/
noncomputable def Try.pinned : Pinned := { name := "ytjaifkpmhcekcab", sum := "96edaaf01ded013dd82fe7c6cd59124b9c786151d75185eed3bd6fa74b0de441", checked := Try.checked }
namespace Rows
def none {H : Type} : Left H := { results := [], args := [] }

/-- 'laws.FnExactMachAt': WHATEVER THE INPUT: true; the input reads as it did. -/
def fnExactMachAtSpec : ChangeSpec := { name := "fnExactMachAt", fn := fun _ => fun
  | [d1, d2] => { results := [.lit (.bool true)], args := [d1, d2] }
  | _ => none }
def fnExactMachAtRow : OpenClaim := { program := "ytjaifkpmhcekcab", sum := "96edaaf01ded013dd82fe7c6cd59124b9c786151d75185eed3bd6fa74b0de441", func := "loop.example/oneletter/laws.FnExactMachAt", spec := "fnExactMachAt", plainKeys := false, apart := false }
def FnExactMachAtSaid : Prop := fnExactMachAtRow.holds Try.pinned (OpenSpec.ofChange fnExactMachAtSpec)

/-- ITS FALSE NEIGHBOUR: 'it returns false'. Refute it at one input. -/
def fnExactMachAtWrong : ChangeSpec := { name := "fnExactMachAt", fn := fun _ => fun
  | [d1, d2] => { results := [.lit (.bool false)], args := [d1, d2] }
  | _ => none }
def FnExactMachAtWrongFalsely : Prop := fnExactMachAtRow.holds Try.pinned (OpenSpec.ofChange fnExactMachAtWrong)

/-- 'laws.FnExactMachSet': WHATEVER THE INPUT: true; the input reads as it did. -/
def fnExactMachSetSpec : ChangeSpec := { name := "fnExactMachSet", fn := fun _ => fun
  | [d] => { results := [.lit (.bool true)], args := [d] }
  | _ => none }
def fnExactMachSetRow : OpenClaim := { program := "ytjaifkpmhcekcab", sum := "96edaaf01ded013dd82fe7c6cd59124b9c786151d75185eed3bd6fa74b0de441", func := "loop.example/oneletter/laws.FnExactMachSet", spec := "fnExactMachSet", inPlace := ["internal/abi.NoEscape"], recurses := true, plainKeys := false, apart := false }
def FnExactMachSetSaid : Prop := fnExactMachSetRow.holds Try.pinned (OpenSpec.ofChange fnExactMachSetSpec)

/-- ITS FALSE NEIGHBOUR: 'it returns false'. Refute it at one input. -/
def fnExactMachSetWrong : ChangeSpec := { name := "fnExactMachSet", fn := fun _ => fun
  | [d] => { results := [.lit (.bool false)], args := [d] }
  | _ => none }
def FnExactMachSetWrongFalsely : Prop := fnExactMachSetRow.holds Try.pinned (OpenSpec.ofChange fnExactMachSetWrong)

/-- 'laws.FnExactMachTurn': WHATEVER THE INPUT: true; the input reads as it did. -/
def fnExactMachTurnSpec : ChangeSpec := { name := "fnExactMachTurn", fn := fun _ => fun
  | [d] => { results := [.lit (.bool true)], args := [d] }
  | _ => none }
def fnExactMachTurnRow : OpenClaim := { program := "ytjaifkpmhcekcab", sum := "96edaaf01ded013dd82fe7c6cd59124b9c786151d75185eed3bd6fa74b0de441", func := "loop.example/oneletter/laws.FnExactMachTurn", spec := "fnExactMachTurn", plainKeys := false, apart := false }
def FnExactMachTurnSaid : Prop := fnExactMachTurnRow.holds Try.pinned (OpenSpec.ofChange fnExactMachTurnSpec)

/-- ITS FALSE NEIGHBOUR: 'it returns false'. Refute it at one input. -/
def fnExactMachTurnWrong : ChangeSpec := { name := "fnExactMachTurn", fn := fun _ => fun
  | [d] => { results := [.lit (.bool false)], args := [d] }
  | _ => none }
def FnExactMachTurnWrongFalsely : Prop := fnExactMachTurnRow.holds Try.pinned (OpenSpec.ofChange fnExactMachTurnWrong)

/-- 'laws.FnExactMachSingle': WHATEVER THE INPUT: true; the input reads as it did. -/
def fnExactMachSingleSpec : ChangeSpec := { name := "fnExactMachSingle", fn := fun _ => fun
  | [d] => { results := [.lit (.bool true)], args := [d] }
  | _ => none }
def fnExactMachSingleRow : OpenClaim := { program := "ytjaifkpmhcekcab", sum := "96edaaf01ded013dd82fe7c6cd59124b9c786151d75185eed3bd6fa74b0de441", func := "loop.example/oneletter/laws.FnExactMachSingle", spec := "fnExactMachSingle", plainKeys := false, apart := false }
def FnExactMachSingleSaid : Prop := fnExactMachSingleRow.holds Try.pinned (OpenSpec.ofChange fnExactMachSingleSpec)

/-- ITS FALSE NEIGHBOUR: 'it returns false'. Refute it at one input. -/
def fnExactMachSingleWrong : ChangeSpec := { name := "fnExactMachSingle", fn := fun _ => fun
  | [d] => { results := [.lit (.bool false)], args := [d] }
  | _ => none }
def FnExactMachSingleWrongFalsely : Prop := fnExactMachSingleRow.holds Try.pinned (OpenSpec.ofChange fnExactMachSingleWrong)

/-- 'laws.FnExactMachOf': WHATEVER THE INPUT: true; the input reads as it did. -/
def fnExactMachOfSpec : ChangeSpec := { name := "fnExactMachOf", fn := fun _ => fun
  | [d] => { results := [.lit (.bool true)], args := [d] }
  | _ => none }
def fnExactMachOfRow : OpenClaim := { program := "ytjaifkpmhcekcab", sum := "96edaaf01ded013dd82fe7c6cd59124b9c786151d75185eed3bd6fa74b0de441", func := "loop.example/oneletter/laws.FnExactMachOf", spec := "fnExactMachOf", inPlace := ["internal/bytealg.IndexByteString", "internal/bytealg.IndexString"], recurses := true, named := ["internal/bytealg.MaxLen"], plainKeys := false, apart := false }
def FnExactMachOfSaid : Prop := fnExactMachOfRow.holds Try.pinned (OpenSpec.ofChange fnExactMachOfSpec)

/-- ITS FALSE NEIGHBOUR: 'it returns false'. Refute it at one input. -/
def fnExactMachOfWrong : ChangeSpec := { name := "fnExactMachOf", fn := fun _ => fun
  | [d] => { results := [.lit (.bool false)], args := [d] }
  | _ => none }
def FnExactMachOfWrongFalsely : Prop := fnExactMachOfRow.holds Try.pinned (OpenSpec.ofChange fnExactMachOfWrong)

/-- 'laws.FnExactMachBoth': WHATEVER THE INPUT: true; the input reads as it did. -/
def fnExactMachBothSpec : ChangeSpec := { name := "fnExactMachBoth", fn := fun _ => fun
  | [d1, d2] => { results := [.lit (.bool true)], args := [d1, d2] }
  | _ => none }
def fnExactMachBothRow : OpenClaim := { program := "ytjaifkpmhcekcab", sum := "96edaaf01ded013dd82fe7c6cd59124b9c786151d75185eed3bd6fa74b0de441", func := "loop.example/oneletter/laws.FnExactMachBoth", spec := "fnExactMachBoth", plainKeys := false, apart := false }
def FnExactMachBothSaid : Prop := fnExactMachBothRow.holds Try.pinned (OpenSpec.ofChange fnExactMachBothSpec)

/-- ITS FALSE NEIGHBOUR: 'it returns false'. Refute it at one input. -/
def fnExactMachBothWrong : ChangeSpec := { name := "fnExactMachBoth", fn := fun _ => fun
  | [d1, d2] => { results := [.lit (.bool false)], args := [d1, d2] }
  | _ => none }
def FnExactMachBothWrongFalsely : Prop := fnExactMachBothRow.holds Try.pinned (OpenSpec.ofChange fnExactMachBothWrong)

/-- 'laws.FnExactMachFew': WHATEVER THE INPUT: true; the input reads as it did. -/
def fnExactMachFewSpec : ChangeSpec := { name := "fnExactMachFew", fn := fun _ => fun
  | [d] => { results := [.lit (.bool true)], args := [d] }
  | _ => none }
def fnExactMachFewRow : OpenClaim := { program := "ytjaifkpmhcekcab", sum := "96edaaf01ded013dd82fe7c6cd59124b9c786151d75185eed3bd6fa74b0de441", func := "loop.example/oneletter/laws.FnExactMachFew", spec := "fnExactMachFew", inPlace := ["internal/abi.NoEscape", "internal/bytealg.IndexByteString", "internal/bytealg.IndexString"], unfollowed := true, recurses := true, named := ["internal/bytealg.MaxLen"], plainKeys := false, apart := false }
def FnExactMachFewSaid : Prop := fnExactMachFewRow.holds Try.pinned (OpenSpec.ofChange fnExactMachFewSpec)

/-- ITS FALSE NEIGHBOUR: 'it returns false'. Refute it at one input. -/
def fnExactMachFewWrong : ChangeSpec := { name := "fnExactMachFew", fn := fun _ => fun
  | [d] => { results := [.lit (.bool false)], args := [d] }
  | _ => none }
def FnExactMachFewWrongFalsely : Prop := fnExactMachFewRow.holds Try.pinned (OpenSpec.ofChange fnExactMachFewWrong)

/- THE SECOND FORM. 'bulk': how many values and letters a reading holds, each counted each time it is reached (what is shared counts as often as it is met; a slice's spare places count too). A statement '..UptoSaid' is the law's where the arguments, and the package variables that the reading takes, are together of bulk at most 1048576: NARROWER than '..Said'. Prove '..Said' where nothing that the law and all that it calls make is longer than what came in: it says more and counts as full. Else prove '..UptoSaid'. A law counts once. -/
mutual
def uptoBulk {H : Type} : DataW H → Nat
  | .lit (.string bytes) => bytes.length + 1
  | .lit _ => 1
  | .nil => 1
  | .ptr d => uptoBulk d + 1
  | .slice elems spare => uptoBulkAll elems + uptoBulkAll spare + 1
  | .agg parts => uptoBulkAll parts + 1
  | .iface _ d => uptoBulk d + 1
  | .map entries => uptoBulkEntries entries + 1
  | .held _ => 1
def uptoBulkAll {H : Type} : List (DataW H) → Nat
  | [] => 0
  | d :: r => uptoBulk d + uptoBulkAll r
def uptoBulkEntries {H : Type} : List (Lit × DataW H) → Nat
  | [] => 0
  | x :: r => uptoBulkEntry x + uptoBulkEntries r
def uptoBulkEntry {H : Type} : Lit × DataW H → Nat
  | (.string bytes, d) => bytes.length + uptoBulk d + 1
  | (_, d) => uptoBulk d + 1
 end
def uptoSmall : (H : Type) → List (DataW H) → Bool := fun _ ds => decide (uptoBulkAll ds ≤ 1048576)
def OpenSpec.upto (s : _root_.Go.ChangeSpec) : _root_.Go.OpenSpec := { _root_.Go.OpenSpec.ofChange s with cond := some uptoSmall }

/-- 'laws.FnExactMachAt', WHERE WHAT IT READS IS OF BULK AT MOST 1048576: true; the input reads as it did. -/
def fnExactMachAtUptoRow : OpenClaim := { program := "ytjaifkpmhcekcab", sum := "96edaaf01ded013dd82fe7c6cd59124b9c786151d75185eed3bd6fa74b0de441", func := "loop.example/oneletter/laws.FnExactMachAt", spec := "fnExactMachAt", plainKeys := false, apart := false, narrowed := true }
def FnExactMachAtUptoSaid : Prop := fnExactMachAtUptoRow.holds Try.pinned (OpenSpec.upto fnExactMachAtSpec)

/-- 'laws.FnExactMachSet', WHERE WHAT IT READS IS OF BULK AT MOST 1048576: true; the input reads as it did. -/
def fnExactMachSetUptoRow : OpenClaim := { program := "ytjaifkpmhcekcab", sum := "96edaaf01ded013dd82fe7c6cd59124b9c786151d75185eed3bd6fa74b0de441", func := "loop.example/oneletter/laws.FnExactMachSet", spec := "fnExactMachSet", inPlace := ["internal/abi.NoEscape"], recurses := true, plainKeys := false, apart := false, narrowed := true }
def FnExactMachSetUptoSaid : Prop := fnExactMachSetUptoRow.holds Try.pinned (OpenSpec.upto fnExactMachSetSpec)

/-- 'laws.FnExactMachTurn', WHERE WHAT IT READS IS OF BULK AT MOST 1048576: true; the input reads as it did. -/
def fnExactMachTurnUptoRow : OpenClaim := { program := "ytjaifkpmhcekcab", sum := "96edaaf01ded013dd82fe7c6cd59124b9c786151d75185eed3bd6fa74b0de441", func := "loop.example/oneletter/laws.FnExactMachTurn", spec := "fnExactMachTurn", plainKeys := false, apart := false, narrowed := true }
def FnExactMachTurnUptoSaid : Prop := fnExactMachTurnUptoRow.holds Try.pinned (OpenSpec.upto fnExactMachTurnSpec)

/-- 'laws.FnExactMachSingle', WHERE WHAT IT READS IS OF BULK AT MOST 1048576: true; the input reads as it did. -/
def fnExactMachSingleUptoRow : OpenClaim := { program := "ytjaifkpmhcekcab", sum := "96edaaf01ded013dd82fe7c6cd59124b9c786151d75185eed3bd6fa74b0de441", func := "loop.example/oneletter/laws.FnExactMachSingle", spec := "fnExactMachSingle", plainKeys := false, apart := false, narrowed := true }
def FnExactMachSingleUptoSaid : Prop := fnExactMachSingleUptoRow.holds Try.pinned (OpenSpec.upto fnExactMachSingleSpec)

/-- 'laws.FnExactMachOf', WHERE WHAT IT READS IS OF BULK AT MOST 1048576: true; the input reads as it did. -/
def fnExactMachOfUptoRow : OpenClaim := { program := "ytjaifkpmhcekcab", sum := "96edaaf01ded013dd82fe7c6cd59124b9c786151d75185eed3bd6fa74b0de441", func := "loop.example/oneletter/laws.FnExactMachOf", spec := "fnExactMachOf", inPlace := ["internal/bytealg.IndexByteString", "internal/bytealg.IndexString"], recurses := true, named := ["internal/bytealg.MaxLen"], plainKeys := false, apart := false, narrowed := true }
def FnExactMachOfUptoSaid : Prop := fnExactMachOfUptoRow.holds Try.pinned (OpenSpec.upto fnExactMachOfSpec)

/-- 'laws.FnExactMachBoth', WHERE WHAT IT READS IS OF BULK AT MOST 1048576: true; the input reads as it did. -/
def fnExactMachBothUptoRow : OpenClaim := { program := "ytjaifkpmhcekcab", sum := "96edaaf01ded013dd82fe7c6cd59124b9c786151d75185eed3bd6fa74b0de441", func := "loop.example/oneletter/laws.FnExactMachBoth", spec := "fnExactMachBoth", plainKeys := false, apart := false, narrowed := true }
def FnExactMachBothUptoSaid : Prop := fnExactMachBothUptoRow.holds Try.pinned (OpenSpec.upto fnExactMachBothSpec)

/-- 'laws.FnExactMachFew', WHERE WHAT IT READS IS OF BULK AT MOST 1048576: true; the input reads as it did. -/
def fnExactMachFewUptoRow : OpenClaim := { program := "ytjaifkpmhcekcab", sum := "96edaaf01ded013dd82fe7c6cd59124b9c786151d75185eed3bd6fa74b0de441", func := "loop.example/oneletter/laws.FnExactMachFew", spec := "fnExactMachFew", inPlace := ["internal/abi.NoEscape", "internal/bytealg.IndexByteString", "internal/bytealg.IndexString"], unfollowed := true, recurses := true, named := ["internal/bytealg.MaxLen"], plainKeys := false, apart := false, narrowed := true }
def FnExactMachFewUptoSaid : Prop := fnExactMachFewUptoRow.holds Try.pinned (OpenSpec.upto fnExactMachFewSpec)

end Rows
end Go.Proofs.Ytjaifkpmhcekcab
