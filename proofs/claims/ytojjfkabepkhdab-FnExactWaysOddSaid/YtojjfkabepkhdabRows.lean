/-
  No cell of these rows narrows 'for every input' (looked for: loops, veiled, ifaces, maps, wideKeys, modest, calm, conditions, laid).
  DERIVED. THE GIVEN ROWS OF THIS SEAT. 5 by the template 'for every input the law returns true; each argument reads behind the call as it read before'; 0 by the template 'total and deterministic' (their statements: YtojjfkabepkhdabTotals.lean).
  GIVEN WITH THE SEED: the statements are not yours to turn. If you find one false, say at which input.
  Laid BY PROGRAM, IN A SANDBOX (cutbox-rows.mjs): the forced cells as the released guide's own fill.sh prints them over the translation 13f6708409f61d9b… (all of the seat's roots in one cut). By AI agents, Wed Nov 11 2026. No macro, syntax, notation, axiom, sorry.
-/
import Derived.Test.YtojjfkabepkhdabChecked
import GoSem.Claim
import GoSem.ClaimJoined
import GoSem.ClaimMapViews
import Derived.JoinedTies
import Derived.KernelRfl
namespace Go.Proofs.Ytojjfkabepkhdab
/- THE CELL 'sum', in the pinned program and in every row, IS THE sha256 OF THE DUMP (.gsa) THAT YtojjfkabepkhdabProg.lean LOADS. Nothing in Lean hashes anything: it is a label: what it is worth is what the hold of that sum in a sandbox is worth. -/
noncomputable def Try.pinned : Pinned := { name := "ytojjfkabepkhdab", sum := "13f6708409f61d9b3c12271ccdcbf2eb42e736b910aa8ea170480329f3abf0d7", checked := Try.checked }
namespace Rows
def none {H : Type} : Left H := { results := [], args := [] }

/-- 'laws.FnExactWaysFew': WHATEVER THE INPUT: true; the input reads as it did. -/
def fnExactWaysFewSpec : ChangeSpec := { name := "fnExactWaysFew", fn := fun _ => fun
  | [d1, d2] => { results := [.lit (.bool true)], args := [d1, d2] }
  | _ => none }
def fnExactWaysFewRow : OpenClaim := { program := "ytojjfkabepkhdab", sum := "13f6708409f61d9b3c12271ccdcbf2eb42e736b910aa8ea170480329f3abf0d7", func := "loop.example/oneletter/laws.FnExactWaysFew", spec := "fnExactWaysFew", inPlace := ["internal/bytealg.IndexByteString", "internal/bytealg.IndexString", "internal/abi.NoEscape"], unfollowed := true, recurses := true, named := ["internal/bytealg.MaxLen"], apart := false }
def FnExactWaysFewSaid : Prop := fnExactWaysFewRow.holds Try.pinned (OpenSpec.ofChange fnExactWaysFewSpec)

/-- ITS FALSE NEIGHBOUR: 'it returns false'. Refute it at one input. -/
def fnExactWaysFewWrong : ChangeSpec := { name := "fnExactWaysFew", fn := fun _ => fun
  | [d1, d2] => { results := [.lit (.bool false)], args := [d1, d2] }
  | _ => none }
def FnExactWaysFewWrongFalsely : Prop := fnExactWaysFewRow.holds Try.pinned (OpenSpec.ofChange fnExactWaysFewWrong)

/-- 'laws.FnExactWaysFirst': WHATEVER THE INPUT: true; the input reads as it did. -/
def fnExactWaysFirstSpec : ChangeSpec := { name := "fnExactWaysFirst", fn := fun _ => fun
  | [d1, d2] => { results := [.lit (.bool true)], args := [d1, d2] }
  | _ => none }
def fnExactWaysFirstRow : OpenClaim := { program := "ytojjfkabepkhdab", sum := "13f6708409f61d9b3c12271ccdcbf2eb42e736b910aa8ea170480329f3abf0d7", func := "loop.example/oneletter/laws.FnExactWaysFirst", spec := "fnExactWaysFirst", inPlace := ["internal/bytealg.IndexByteString", "internal/bytealg.IndexString", "internal/abi.NoEscape"], unfollowed := true, recurses := true, named := ["internal/bytealg.MaxLen"], apart := false }
def FnExactWaysFirstSaid : Prop := fnExactWaysFirstRow.holds Try.pinned (OpenSpec.ofChange fnExactWaysFirstSpec)

/-- ITS FALSE NEIGHBOUR: 'it returns false'. Refute it at one input. -/
def fnExactWaysFirstWrong : ChangeSpec := { name := "fnExactWaysFirst", fn := fun _ => fun
  | [d1, d2] => { results := [.lit (.bool false)], args := [d1, d2] }
  | _ => none }
def FnExactWaysFirstWrongFalsely : Prop := fnExactWaysFirstRow.holds Try.pinned (OpenSpec.ofChange fnExactWaysFirstWrong)

/-- 'laws.FnExactWaysPart': WHATEVER THE INPUT: true; the input reads as it did. -/
def fnExactWaysPartSpec : ChangeSpec := { name := "fnExactWaysPart", fn := fun _ => fun
  | [d1, d2, d3] => { results := [.lit (.bool true)], args := [d1, d2, d3] }
  | _ => none }
def fnExactWaysPartRow : OpenClaim := { program := "ytojjfkabepkhdab", sum := "13f6708409f61d9b3c12271ccdcbf2eb42e736b910aa8ea170480329f3abf0d7", func := "loop.example/oneletter/laws.FnExactWaysPart", spec := "fnExactWaysPart", inPlace := ["internal/bytealg.IndexByteString", "internal/bytealg.IndexString", "internal/abi.NoEscape"], unfollowed := true, recurses := true, named := ["internal/bytealg.MaxLen"], apart := false }
def FnExactWaysPartSaid : Prop := fnExactWaysPartRow.holds Try.pinned (OpenSpec.ofChange fnExactWaysPartSpec)

/-- ITS FALSE NEIGHBOUR: 'it returns false'. Refute it at one input. -/
def fnExactWaysPartWrong : ChangeSpec := { name := "fnExactWaysPart", fn := fun _ => fun
  | [d1, d2, d3] => { results := [.lit (.bool false)], args := [d1, d2, d3] }
  | _ => none }
def FnExactWaysPartWrongFalsely : Prop := fnExactWaysPartRow.holds Try.pinned (OpenSpec.ofChange fnExactWaysPartWrong)

/-- 'laws.FnExactWaysOdd': WHATEVER THE INPUT: true; the input reads as it did. -/
def fnExactWaysOddSpec : ChangeSpec := { name := "fnExactWaysOdd", fn := fun _ => fun
  | [d1, d2] => { results := [.lit (.bool true)], args := [d1, d2] }
  | _ => none }
def fnExactWaysOddRow : OpenClaim := { program := "ytojjfkabepkhdab", sum := "13f6708409f61d9b3c12271ccdcbf2eb42e736b910aa8ea170480329f3abf0d7", func := "loop.example/oneletter/laws.FnExactWaysOdd", spec := "fnExactWaysOdd", inPlace := ["internal/bytealg.IndexByteString", "internal/bytealg.IndexString", "internal/abi.NoEscape"], unfollowed := true, recurses := true, named := ["internal/bytealg.MaxLen"], apart := false }
def FnExactWaysOddSaid : Prop := fnExactWaysOddRow.holds Try.pinned (OpenSpec.ofChange fnExactWaysOddSpec)

/-- ITS FALSE NEIGHBOUR: 'it returns false'. Refute it at one input. -/
def fnExactWaysOddWrong : ChangeSpec := { name := "fnExactWaysOdd", fn := fun _ => fun
  | [d1, d2] => { results := [.lit (.bool false)], args := [d1, d2] }
  | _ => none }
def FnExactWaysOddWrongFalsely : Prop := fnExactWaysOddRow.holds Try.pinned (OpenSpec.ofChange fnExactWaysOddWrong)

/-- 'laws.FnExactWaysBack': WHATEVER THE INPUT: true; the input reads as it did. -/
def fnExactWaysBackSpec : ChangeSpec := { name := "fnExactWaysBack", fn := fun _ => fun
  | [d1, d2] => { results := [.lit (.bool true)], args := [d1, d2] }
  | _ => none }
def fnExactWaysBackRow : OpenClaim := { program := "ytojjfkabepkhdab", sum := "13f6708409f61d9b3c12271ccdcbf2eb42e736b910aa8ea170480329f3abf0d7", func := "loop.example/oneletter/laws.FnExactWaysBack", spec := "fnExactWaysBack", inPlace := ["internal/bytealg.IndexByteString", "internal/bytealg.IndexString", "internal/abi.NoEscape"], unfollowed := true, recurses := true, named := ["internal/bytealg.MaxLen"], apart := false }
def FnExactWaysBackSaid : Prop := fnExactWaysBackRow.holds Try.pinned (OpenSpec.ofChange fnExactWaysBackSpec)

/-- ITS FALSE NEIGHBOUR: 'it returns false'. Refute it at one input. -/
def fnExactWaysBackWrong : ChangeSpec := { name := "fnExactWaysBack", fn := fun _ => fun
  | [d1, d2] => { results := [.lit (.bool false)], args := [d1, d2] }
  | _ => none }
def FnExactWaysBackWrongFalsely : Prop := fnExactWaysBackRow.holds Try.pinned (OpenSpec.ofChange fnExactWaysBackWrong)

/- THE SECOND FORM. 'bulk': how many values and letters a reading holds, each counted each time it is reached (what is shared counts as often as it is met; a slice's spare places count too). A statement '..UptoSaid' is the law's where the arguments, and the package variables that the reading takes, are together of bulk at most 1048576: NARROWER than '..Said'. Prove '..Said' where nothing that the law and all that it calls make is longer than what came in: it says more and counts as full. Else prove '..UptoSaid'. A law counts once. -/
mutual
def uptoBulk {H : Type} : DataW H → Nat
  | .lit (.string bytes) => bytes.length + 1
  | .lit _ => 1
  | .nil => 1
  | .ptr d => uptoBulk d + 1
  | .slice elems spare => uptoBulkAll elems + uptoBulkAll spare + 1
  | .agg parts => uptoBulkAll parts + 1
  | .iface _ d => uptoBulk d + 1
  | .map entries => uptoBulkEntries entries + 1
  | .held _ => 1
def uptoBulkAll {H : Type} : List (DataW H) → Nat
  | [] => 0
  | d :: r => uptoBulk d + uptoBulkAll r
def uptoBulkEntries {H : Type} : List (Lit × DataW H) → Nat
  | [] => 0
  | x :: r => uptoBulkEntry x + uptoBulkEntries r
def uptoBulkEntry {H : Type} : Lit × DataW H → Nat
  | (.string bytes, d) => bytes.length + uptoBulk d + 1
  | (_, d) => uptoBulk d + 1
 end
def uptoSmall : (H : Type) → List (DataW H) → Bool := fun _ ds => decide (uptoBulkAll ds ≤ 1048576)
def OpenSpec.upto (s : _root_.Go.ChangeSpec) : _root_.Go.OpenSpec := { _root_.Go.OpenSpec.ofChange s with cond := some uptoSmall }

/-- 'laws.FnExactWaysFew', WHERE WHAT IT READS IS OF BULK AT MOST 1048576: true; the input reads as it did. -/
def fnExactWaysFewUptoRow : OpenClaim := { program := "ytojjfkabepkhdab", sum := "13f6708409f61d9b3c12271ccdcbf2eb42e736b910aa8ea170480329f3abf0d7", func := "loop.example/oneletter/laws.FnExactWaysFew", spec := "fnExactWaysFew", inPlace := ["internal/bytealg.IndexByteString", "internal/bytealg.IndexString", "internal/abi.NoEscape"], unfollowed := true, recurses := true, named := ["internal/bytealg.MaxLen"], apart := false, narrowed := true }
def FnExactWaysFewUptoSaid : Prop := fnExactWaysFewUptoRow.holds Try.pinned (OpenSpec.upto fnExactWaysFewSpec)

/-- 'laws.FnExactWaysFirst', WHERE WHAT IT READS IS OF BULK AT MOST 1048576: true; the input reads as it did. -/
def fnExactWaysFirstUptoRow : OpenClaim := { program := "ytojjfkabepkhdab", sum := "13f6708409f61d9b3c12271ccdcbf2eb42e736b910aa8ea170480329f3abf0d7", func := "loop.example/oneletter/laws.FnExactWaysFirst", spec := "fnExactWaysFirst", inPlace := ["internal/bytealg.IndexByteString", "internal/bytealg.IndexString", "internal/abi.NoEscape"], unfollowed := true, recurses := true, named := ["internal/bytealg.MaxLen"], apart := false, narrowed := true }
def FnExactWaysFirstUptoSaid : Prop := fnExactWaysFirstUptoRow.holds Try.pinned (OpenSpec.upto fnExactWaysFirstSpec)

/-- 'laws.FnExactWaysPart', WHERE WHAT IT READS IS OF BULK AT MOST 1048576: true; the input reads as it did. -/
def fnExactWaysPartUptoRow : OpenClaim := { program := "ytojjfkabepkhdab", sum := "13f6708409f61d9b3c12271ccdcbf2eb42e736b910aa8ea170480329f3abf0d7", func := "loop.example/oneletter/laws.FnExactWaysPart", spec := "fnExactWaysPart", inPlace := ["internal/bytealg.IndexByteString", "internal/bytealg.IndexString", "internal/abi.NoEscape"], unfollowed := true, recurses := true, named := ["internal/bytealg.MaxLen"], apart := false, narrowed := true }
def FnExactWaysPartUptoSaid : Prop := fnExactWaysPartUptoRow.holds Try.pinned (OpenSpec.upto fnExactWaysPartSpec)

/-- 'laws.FnExactWaysOdd', WHERE WHAT IT READS IS OF BULK AT MOST 1048576: true; the input reads as it did. -/
def fnExactWaysOddUptoRow : OpenClaim := { program := "ytojjfkabepkhdab", sum := "13f6708409f61d9b3c12271ccdcbf2eb42e736b910aa8ea170480329f3abf0d7", func := "loop.example/oneletter/laws.FnExactWaysOdd", spec := "fnExactWaysOdd", inPlace := ["internal/bytealg.IndexByteString", "internal/bytealg.IndexString", "internal/abi.NoEscape"], unfollowed := true, recurses := true, named := ["internal/bytealg.MaxLen"], apart := false, narrowed := true }
def FnExactWaysOddUptoSaid : Prop := fnExactWaysOddUptoRow.holds Try.pinned (OpenSpec.upto fnExactWaysOddSpec)

/-- 'laws.FnExactWaysBack', WHERE WHAT IT READS IS OF BULK AT MOST 1048576: true; the input reads as it did. -/
def fnExactWaysBackUptoRow : OpenClaim := { program := "ytojjfkabepkhdab", sum := "13f6708409f61d9b3c12271ccdcbf2eb42e736b910aa8ea170480329f3abf0d7", func := "loop.example/oneletter/laws.FnExactWaysBack", spec := "fnExactWaysBack", inPlace := ["internal/bytealg.IndexByteString", "internal/bytealg.IndexString", "internal/abi.NoEscape"], unfollowed := true, recurses := true, named := ["internal/bytealg.MaxLen"], apart := false, narrowed := true }
def FnExactWaysBackUptoSaid : Prop := fnExactWaysBackUptoRow.holds Try.pinned (OpenSpec.upto fnExactWaysBackSpec)

end Rows
end Go.Proofs.Ytojjfkabepkhdab
