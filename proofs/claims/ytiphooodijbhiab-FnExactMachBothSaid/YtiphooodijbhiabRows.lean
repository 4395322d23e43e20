/-
  No cell of these rows narrows 'for every input' (looked for: loops, veiled, ifaces, maps, wideKeys, modest, calm, conditions, laid).
  DERIVED. THE GIVEN ROWS OF THIS SEAT. 12 by the template 'for every input the law returns true; each argument reads behind the call as it read before'; 0 by the template 'total and deterministic' (their statements: YtiphooodijbhiabTotals.lean).
  GIVEN WITH THE SEED: the statements are not yours to turn. If you find one false, say at which input.
  Laid BY PROGRAM, IN A SANDBOX (cutbox-rows.mjs): the forced cells as the released guide's own fill.sh prints them over the translation 8f369a62eaa77d14… (all of the seat's roots in one cut). By AI agents, Wed Nov 11 2026. No macro, syntax, notation, axiom, sorry.
-/
import Derived.Test.YtiphooodijbhiabChecked
import GoSem.Claim
import GoSem.ClaimJoined
import GoSem.ClaimMapViews
import Derived.JoinedTies
import Derived.KernelRfl
namespace Go.Proofs.Ytiphooodijbhiab
/- THE CELL 'sum', in the pinned program and in every row, IS THE sha256 OF THE DUMP (.gsa) THAT YtiphooodijbhiabProg.lean LOADS. Nothing in Lean hashes anything: it is a label: what it is worth is what the hold of that sum in a sandbox is worth. -/
noncomputable def Try.pinned : Pinned := { name := "ytiphooodijbhiab", sum := "8f369a62eaa77d14df8a301614de64392845d098bc670a7798ba6ee3366cfc5f", checked := Try.checked }
namespace Rows
def none {H : Type} : Left H := { results := [], args := [] }

/-- 'laws.FnTermEmpty': WHATEVER THE INPUT: true; the input reads as it did. -/
def fnTermEmptySpec : ChangeSpec := { name := "fnTermEmpty", fn := fun _ => fun
  | [d] => { results := [.lit (.bool true)], args := [d] }
  | _ => none }
def fnTermEmptyRow : OpenClaim := { program := "ytiphooodijbhiab", sum := "8f369a62eaa77d14df8a301614de64392845d098bc670a7798ba6ee3366cfc5f", func := "loop.example/oneletter/laws.FnTermEmpty", spec := "fnTermEmpty", unfollowed := true, recurses := true, apart := false }
def FnTermEmptySaid : Prop := fnTermEmptyRow.holds Try.pinned (OpenSpec.ofChange fnTermEmptySpec)

/-- ITS FALSE NEIGHBOUR: 'it returns false'. Refute it at one input. -/
def fnTermEmptyWrong : ChangeSpec := { name := "fnTermEmpty", fn := fun _ => fun
  | [d] => { results := [.lit (.bool false)], args := [d] }
  | _ => none }
def FnTermEmptyWrongFalsely : Prop := fnTermEmptyRow.holds Try.pinned (OpenSpec.ofChange fnTermEmptyWrong)

/-- 'laws.FnTermStar': WHATEVER THE INPUT: true; the input reads as it did. -/
def fnTermStarSpec : ChangeSpec := { name := "fnTermStar", fn := fun _ => fun
  | [d1, d2] => { results := [.lit (.bool true)], args := [d1, d2] }
  | _ => none }
def fnTermStarRow : OpenClaim := { program := "ytiphooodijbhiab", sum := "8f369a62eaa77d14df8a301614de64392845d098bc670a7798ba6ee3366cfc5f", func := "loop.example/oneletter/laws.FnTermStar", spec := "fnTermStar", unfollowed := true, recurses := true, apart := false }
def FnTermStarSaid : Prop := fnTermStarRow.holds Try.pinned (OpenSpec.ofChange fnTermStarSpec)

/-- ITS FALSE NEIGHBOUR: 'it returns false'. Refute it at one input. -/
def fnTermStarWrong : ChangeSpec := { name := "fnTermStar", fn := fun _ => fun
  | [d1, d2] => { results := [.lit (.bool false)], args := [d1, d2] }
  | _ => none }
def FnTermStarWrongFalsely : Prop := fnTermStarRow.holds Try.pinned (OpenSpec.ofChange fnTermStarWrong)

/-- 'laws.FnSolveLeast': WHATEVER THE INPUT: true; the input reads as it did. -/
def fnSolveLeastSpec : ChangeSpec := { name := "fnSolveLeast", fn := fun _ => fun
  | [d] => { results := [.lit (.bool true)], args := [d] }
  | _ => none }
def fnSolveLeastRow : OpenClaim := { program := "ytiphooodijbhiab", sum := "8f369a62eaa77d14df8a301614de64392845d098bc670a7798ba6ee3366cfc5f", func := "loop.example/oneletter/laws.FnSolveLeast", spec := "fnSolveLeast", inPlace := ["internal/bytealg.IndexByteString", "internal/bytealg.IndexString", "internal/abi.NoEscape"], unfollowed := true, recurses := true, named := ["internal/bytealg.MaxLen"], apart := false }
def FnSolveLeastSaid : Prop := fnSolveLeastRow.holds Try.pinned (OpenSpec.ofChange fnSolveLeastSpec)

/-- ITS FALSE NEIGHBOUR: 'it returns false'. Refute it at one input. -/
def fnSolveLeastWrong : ChangeSpec := { name := "fnSolveLeast", fn := fun _ => fun
  | [d] => { results := [.lit (.bool false)], args := [d] }
  | _ => none }
def FnSolveLeastWrongFalsely : Prop := fnSolveLeastRow.holds Try.pinned (OpenSpec.ofChange fnSolveLeastWrong)

/-- 'laws.FnSolveIs': WHATEVER THE INPUT: true; the input reads as it did. -/
def fnSolveIsSpec : ChangeSpec := { name := "fnSolveIs", fn := fun _ => fun
  | [d] => { results := [.lit (.bool true)], args := [d] }
  | _ => none }
def fnSolveIsRow : OpenClaim := { program := "ytiphooodijbhiab", sum := "8f369a62eaa77d14df8a301614de64392845d098bc670a7798ba6ee3366cfc5f", func := "loop.example/oneletter/laws.FnSolveIs", spec := "fnSolveIs", inPlace := ["internal/bytealg.IndexByteString", "internal/bytealg.IndexString", "internal/abi.NoEscape"], unfollowed := true, recurses := true, named := ["internal/bytealg.MaxLen"], apart := false }
def FnSolveIsSaid : Prop := fnSolveIsRow.holds Try.pinned (OpenSpec.ofChange fnSolveIsSpec)

/-- ITS FALSE NEIGHBOUR: 'it returns false'. Refute it at one input. -/
def fnSolveIsWrong : ChangeSpec := { name := "fnSolveIs", fn := fun _ => fun
  | [d] => { results := [.lit (.bool false)], args := [d] }
  | _ => none }
def FnSolveIsWrongFalsely : Prop := fnSolveIsRow.holds Try.pinned (OpenSpec.ofChange fnSolveIsWrong)

/-- 'laws.FnSolveHas': WHATEVER THE INPUT: true; the input reads as it did. -/
def fnSolveHasSpec : ChangeSpec := { name := "fnSolveHas", fn := fun _ => fun
  | [d] => { results := [.lit (.bool true)], args := [d] }
  | _ => none }
def fnSolveHasRow : OpenClaim := { program := "ytiphooodijbhiab", sum := "8f369a62eaa77d14df8a301614de64392845d098bc670a7798ba6ee3366cfc5f", func := "loop.example/oneletter/laws.FnSolveHas", spec := "fnSolveHas", inPlace := ["internal/bytealg.IndexByteString", "internal/bytealg.IndexString", "internal/abi.NoEscape"], unfollowed := true, recurses := true, named := ["internal/bytealg.MaxLen"], apart := false }
def FnSolveHasSaid : Prop := fnSolveHasRow.holds Try.pinned (OpenSpec.ofChange fnSolveHasSpec)

/-- ITS FALSE NEIGHBOUR: 'it returns false'. Refute it at one input. -/
def fnSolveHasWrong : ChangeSpec := { name := "fnSolveHas", fn := fun _ => fun
  | [d] => { results := [.lit (.bool false)], args := [d] }
  | _ => none }
def FnSolveHasWrongFalsely : Prop := fnSolveHasRow.holds Try.pinned (OpenSpec.ofChange fnSolveHasWrong)

/-- 'laws.FnSolveMost': WHATEVER THE INPUT: true; the input reads as it did. -/
def fnSolveMostSpec : ChangeSpec := { name := "fnSolveMost", fn := fun _ => fun
  | [d] => { results := [.lit (.bool true)], args := [d] }
  | _ => none }
def fnSolveMostRow : OpenClaim := { program := "ytiphooodijbhiab", sum := "8f369a62eaa77d14df8a301614de64392845d098bc670a7798ba6ee3366cfc5f", func := "loop.example/oneletter/laws.FnSolveMost", spec := "fnSolveMost", inPlace := ["internal/bytealg.IndexByteString", "internal/bytealg.IndexString", "internal/abi.NoEscape"], unfollowed := true, recurses := true, named := ["internal/bytealg.MaxLen"], apart := false }
def FnSolveMostSaid : Prop := fnSolveMostRow.holds Try.pinned (OpenSpec.ofChange fnSolveMostSpec)

/-- ITS FALSE NEIGHBOUR: 'it returns false'. Refute it at one input. -/
def fnSolveMostWrong : ChangeSpec := { name := "fnSolveMost", fn := fun _ => fun
  | [d] => { results := [.lit (.bool false)], args := [d] }
  | _ => none }
def FnSolveMostWrongFalsely : Prop := fnSolveMostRow.holds Try.pinned (OpenSpec.ofChange fnSolveMostWrong)

/-- 'laws.FnSolveOne': WHATEVER THE INPUT: true; the input reads as it did. -/
def fnSolveOneSpec : ChangeSpec := { name := "fnSolveOne", fn := fun _ => fun
  | [d] => { results := [.lit (.bool true)], args := [d] }
  | _ => none }
def fnSolveOneRow : OpenClaim := { program := "ytiphooodijbhiab", sum := "8f369a62eaa77d14df8a301614de64392845d098bc670a7798ba6ee3366cfc5f", func := "loop.example/oneletter/laws.FnSolveOne", spec := "fnSolveOne", inPlace := ["internal/bytealg.IndexByteString", "internal/bytealg.IndexString", "internal/abi.NoEscape"], unfollowed := true, recurses := true, named := ["internal/bytealg.MaxLen"], apart := false }
def FnSolveOneSaid : Prop := fnSolveOneRow.holds Try.pinned (OpenSpec.ofChange fnSolveOneSpec)

/-- ITS FALSE NEIGHBOUR: 'it returns false'. Refute it at one input. -/
def fnSolveOneWrong : ChangeSpec := { name := "fnSolveOne", fn := fun _ => fun
  | [d] => { results := [.lit (.bool false)], args := [d] }
  | _ => none }
def FnSolveOneWrongFalsely : Prop := fnSolveOneRow.holds Try.pinned (OpenSpec.ofChange fnSolveOneWrong)

/-- 'laws.FnSolveTwo': WHATEVER THE INPUT: true; the input reads as it did. -/
def fnSolveTwoSpec : ChangeSpec := { name := "fnSolveTwo", fn := fun _ => fun
  | [d] => { results := [.lit (.bool true)], args := [d] }
  | _ => none }
def fnSolveTwoRow : OpenClaim := { program := "ytiphooodijbhiab", sum := "8f369a62eaa77d14df8a301614de64392845d098bc670a7798ba6ee3366cfc5f", func := "loop.example/oneletter/laws.FnSolveTwo", spec := "fnSolveTwo", inPlace := ["internal/bytealg.IndexByteString", "internal/bytealg.IndexString", "internal/abi.NoEscape"], unfollowed := true, recurses := true, named := ["internal/bytealg.MaxLen"], apart := false }
def FnSolveTwoSaid : Prop := fnSolveTwoRow.holds Try.pinned (OpenSpec.ofChange fnSolveTwoSpec)

/-- ITS FALSE NEIGHBOUR: 'it returns false'. Refute it at one input. -/
def fnSolveTwoWrong : ChangeSpec := { name := "fnSolveTwo", fn := fun _ => fun
  | [d] => { results := [.lit (.bool false)], args := [d] }
  | _ => none }
def FnSolveTwoWrongFalsely : Prop := fnSolveTwoRow.holds Try.pinned (OpenSpec.ofChange fnSolveTwoWrong)

/-- 'laws.FnExactMachBoth': WHATEVER THE INPUT: true; the input reads as it did. -/
def fnExactMachBothSpec : ChangeSpec := { name := "fnExactMachBoth", fn := fun _ => fun
  | [d1, d2] => { results := [.lit (.bool true)], args := [d1, d2] }
  | _ => none }
def fnExactMachBothRow : OpenClaim := { program := "ytiphooodijbhiab", sum := "8f369a62eaa77d14df8a301614de64392845d098bc670a7798ba6ee3366cfc5f", func := "loop.example/oneletter/laws.FnExactMachBoth", spec := "fnExactMachBoth", apart := false }
def FnExactMachBothSaid : Prop := fnExactMachBothRow.holds Try.pinned (OpenSpec.ofChange fnExactMachBothSpec)

/-- ITS FALSE NEIGHBOUR: 'it returns false'. Refute it at one input. -/
def fnExactMachBothWrong : ChangeSpec := { name := "fnExactMachBoth", fn := fun _ => fun
  | [d1, d2] => { results := [.lit (.bool false)], args := [d1, d2] }
  | _ => none }
def FnExactMachBothWrongFalsely : Prop := fnExactMachBothRow.holds Try.pinned (OpenSpec.ofChange fnExactMachBothWrong)

/-- 'laws.FnExactSolveLeast': WHATEVER THE INPUT: true; the input reads as it did. -/
def fnExactSolveLeastSpec : ChangeSpec := { name := "fnExactSolveLeast", fn := fun _ => fun
  | [d1, d2] => { results := [.lit (.bool true)], args := [d1, d2] }
  | _ => none }
def fnExactSolveLeastRow : OpenClaim := { program := "ytiphooodijbhiab", sum := "8f369a62eaa77d14df8a301614de64392845d098bc670a7798ba6ee3366cfc5f", func := "loop.example/oneletter/laws.FnExactSolveLeast", spec := "fnExactSolveLeast", inPlace := ["internal/bytealg.IndexByteString", "internal/bytealg.IndexString", "internal/abi.NoEscape"], unfollowed := true, recurses := true, named := ["internal/bytealg.MaxLen"], apart := false }
def FnExactSolveLeastSaid : Prop := fnExactSolveLeastRow.holds Try.pinned (OpenSpec.ofChange fnExactSolveLeastSpec)

/-- ITS FALSE NEIGHBOUR: 'it returns false'. Refute it at one input. -/
def fnExactSolveLeastWrong : ChangeSpec := { name := "fnExactSolveLeast", fn := fun _ => fun
  | [d1, d2] => { results := [.lit (.bool false)], args := [d1, d2] }
  | _ => none }
def FnExactSolveLeastWrongFalsely : Prop := fnExactSolveLeastRow.holds Try.pinned (OpenSpec.ofChange fnExactSolveLeastWrong)

/-- 'laws.FnExactSolveIs': WHATEVER THE INPUT: true; the input reads as it did. -/
def fnExactSolveIsSpec : ChangeSpec := { name := "fnExactSolveIs", fn := fun _ => fun
  | [d1, d2, d3] => { results := [.lit (.bool true)], args := [d1, d2, d3] }
  | _ => none }
def fnExactSolveIsRow : OpenClaim := { program := "ytiphooodijbhiab", sum := "8f369a62eaa77d14df8a301614de64392845d098bc670a7798ba6ee3366cfc5f", func := "loop.example/oneletter/laws.FnExactSolveIs", spec := "fnExactSolveIs", inPlace := ["internal/bytealg.IndexByteString", "internal/bytealg.IndexString", "internal/abi.NoEscape"], unfollowed := true, recurses := true, named := ["internal/bytealg.MaxLen"], apart := false }
def FnExactSolveIsSaid : Prop := fnExactSolveIsRow.holds Try.pinned (OpenSpec.ofChange fnExactSolveIsSpec)

/-- ITS FALSE NEIGHBOUR: 'it returns false'. Refute it at one input. -/
def fnExactSolveIsWrong : ChangeSpec := { name := "fnExactSolveIs", fn := fun _ => fun
  | [d1, d2, d3] => { results := [.lit (.bool false)], args := [d1, d2, d3] }
  | _ => none }
def FnExactSolveIsWrongFalsely : Prop := fnExactSolveIsRow.holds Try.pinned (OpenSpec.ofChange fnExactSolveIsWrong)

/-- 'laws.FnExactSolveHas': WHATEVER THE INPUT: true; the input reads as it did. -/
def fnExactSolveHasSpec : ChangeSpec := { name := "fnExactSolveHas", fn := fun _ => fun
  | [d1, d2, d3] => { results := [.lit (.bool true)], args := [d1, d2, d3] }
  | _ => none }
def fnExactSolveHasRow : OpenClaim := { program := "ytiphooodijbhiab", sum := "8f369a62eaa77d14df8a301614de64392845d098bc670a7798ba6ee3366cfc5f", func := "loop.example/oneletter/laws.FnExactSolveHas", spec := "fnExactSolveHas", inPlace := ["internal/bytealg.IndexByteString", "internal/bytealg.IndexString", "internal/abi.NoEscape"], unfollowed := true, recurses := true, named := ["internal/bytealg.MaxLen"], apart := false }
def FnExactSolveHasSaid : Prop := fnExactSolveHasRow.holds Try.pinned (OpenSpec.ofChange fnExactSolveHasSpec)

/-- ITS FALSE NEIGHBOUR: 'it returns false'. Refute it at one input. -/
def fnExactSolveHasWrong : ChangeSpec := { name := "fnExactSolveHas", fn := fun _ => fun
  | [d1, d2, d3] => { results := [.lit (.bool false)], args := [d1, d2, d3] }
  | _ => none }
def FnExactSolveHasWrongFalsely : Prop := fnExactSolveHasRow.holds Try.pinned (OpenSpec.ofChange fnExactSolveHasWrong)

/- THE SECOND FORM. 'bulk': how many values and letters a reading holds, each counted each time it is reached (what is shared counts as often as it is met; a slice's spare places count too). A statement '..UptoSaid' is the law's where the arguments, and the package variables that the reading takes, are together of bulk at most 1048576: NARROWER than '..Said'. Prove '..Said' where nothing that the law and all that it calls make is longer than what came in: it says more and counts as full. Else prove '..UptoSaid'. A law counts once. -/
mutual
def uptoBulk {H : Type} : DataW H → Nat
  | .lit (.string bytes) => bytes.length + 1
  | .lit _ => 1
  | .nil => 1
  | .ptr d => uptoBulk d + 1
  | .slice elems spare => uptoBulkAll elems + uptoBulkAll spare + 1
  | .agg parts => uptoBulkAll parts + 1
  | .iface _ d => uptoBulk d + 1
  | .map entries => uptoBulkEntries entries + 1
  | .held _ => 1
def uptoBulkAll {H : Type} : List (DataW H) → Nat
  | [] => 0
  | d :: r => uptoBulk d + uptoBulkAll r
def uptoBulkEntries {H : Type} : List (Lit × DataW H) → Nat
  | [] => 0
  | x :: r => uptoBulkEntry x + uptoBulkEntries r
def uptoBulkEntry {H : Type} : Lit × DataW H → Nat
  | (.string bytes, d) => bytes.length + uptoBulk d + 1
  | (_, d) => uptoBulk d + 1
 end
def uptoSmall : (H : Type) → List (DataW H) → Bool := fun _ ds => decide (uptoBulkAll ds ≤ 1048576)
def OpenSpec.upto (s : _root_.Go.ChangeSpec) : _root_.Go.OpenSpec := { _root_.Go.OpenSpec.ofChange s with cond := some uptoSmall }

/-- 'laws.FnTermEmpty', WHERE WHAT IT READS IS OF BULK AT MOST 1048576: true; the input reads as it did. -/
def fnTermEmptyUptoRow : OpenClaim := { program := "ytiphooodijbhiab", sum := "8f369a62eaa77d14df8a301614de64392845d098bc670a7798ba6ee3366cfc5f", func := "loop.example/oneletter/laws.FnTermEmpty", spec := "fnTermEmpty", unfollowed := true, recurses := true, apart := false, narrowed := true }
def FnTermEmptyUptoSaid : Prop := fnTermEmptyUptoRow.holds Try.pinned (OpenSpec.upto fnTermEmptySpec)

/-- 'laws.FnTermStar', WHERE WHAT IT READS IS OF BULK AT MOST 1048576: true; the input reads as it did. -/
def fnTermStarUptoRow : OpenClaim := { program := "ytiphooodijbhiab", sum := "8f369a62eaa77d14df8a301614de64392845d098bc670a7798ba6ee3366cfc5f", func := "loop.example/oneletter/laws.FnTermStar", spec := "fnTermStar", unfollowed := true, recurses := true, apart := false, narrowed := true }
def FnTermStarUptoSaid : Prop := fnTermStarUptoRow.holds Try.pinned (OpenSpec.upto fnTermStarSpec)

/-- 'laws.FnSolveLeast', WHERE WHAT IT READS IS OF BULK AT MOST 1048576: true; the input reads as it did. -/
def fnSolveLeastUptoRow : OpenClaim := { program := "ytiphooodijbhiab", sum := "8f369a62eaa77d14df8a301614de64392845d098bc670a7798ba6ee3366cfc5f", func := "loop.example/oneletter/laws.FnSolveLeast", spec := "fnSolveLeast", inPlace := ["internal/bytealg.IndexByteString", "internal/bytealg.IndexString", "internal/abi.NoEscape"], unfollowed := true, recurses := true, named := ["internal/bytealg.MaxLen"], apart := false, narrowed := true }
def FnSolveLeastUptoSaid : Prop := fnSolveLeastUptoRow.holds Try.pinned (OpenSpec.upto fnSolveLeastSpec)

/-- 'laws.FnSolveIs', WHERE WHAT IT READS IS OF BULK AT MOST 1048576: true; the input reads as it did. -/
def fnSolveIsUptoRow : OpenClaim := { program := "ytiphooodijbhiab", sum := "8f369a62eaa77d14df8a301614de64392845d098bc670a7798ba6ee3366cfc5f", func := "loop.example/oneletter/laws.FnSolveIs", spec := "fnSolveIs", inPlace := ["internal/bytealg.IndexByteString", "internal/bytealg.IndexString", "internal/abi.NoEscape"], unfollowed := true, recurses := true, named := ["internal/bytealg.MaxLen"], apart := false, narrowed := true }
def FnSolveIsUptoSaid : Prop := fnSolveIsUptoRow.holds Try.pinned (OpenSpec.upto fnSolveIsSpec)

/-- 'laws.FnSolveHas', WHERE WHAT IT READS IS OF BULK AT MOST 1048576: true; the input reads as it did. -/
def fnSolveHasUptoRow : OpenClaim := { program := "ytiphooodijbhiab", sum := "8f369a62eaa77d14df8a301614de64392845d098bc670a7798ba6ee3366cfc5f", func := "loop.example/oneletter/laws.FnSolveHas", spec := "fnSolveHas", inPlace := ["internal/bytealg.IndexByteString", "internal/bytealg.IndexString", "internal/abi.NoEscape"], unfollowed := true, recurses := true, named := ["internal/bytealg.MaxLen"], apart := false, narrowed := true }
def FnSolveHasUptoSaid : Prop := fnSolveHasUptoRow.holds Try.pinned (OpenSpec.upto fnSolveHasSpec)

/-- 'laws.FnSolveMost', WHERE WHAT IT READS IS OF BULK AT MOST 1048576: true; the input reads as it did. -/
def fnSolveMostUptoRow : OpenClaim := { program := "ytiphooodijbhiab", sum := "8f369a62eaa77d14df8a301614de64392845d098bc670a7798ba6ee3366cfc5f", func := "loop.example/oneletter/laws.FnSolveMost", spec := "fnSolveMost", inPlace := ["internal/bytealg.IndexByteString", "internal/bytealg.IndexString", "internal/abi.NoEscape"], unfollowed := true, recurses := true, named := ["internal/bytealg.MaxLen"], apart := false, narrowed := true }
def FnSolveMostUptoSaid : Prop := fnSolveMostUptoRow.holds Try.pinned (OpenSpec.upto fnSolveMostSpec)

/-- 'laws.FnSolveOne', WHERE WHAT IT READS IS OF BULK AT MOST 1048576: true; the input reads as it did. -/
def fnSolveOneUptoRow : OpenClaim := { program := "ytiphooodijbhiab", sum := "8f369a62eaa77d14df8a301614de64392845d098bc670a7798ba6ee3366cfc5f", func := "loop.example/oneletter/laws.FnSolveOne", spec := "fnSolveOne", inPlace := ["internal/bytealg.IndexByteString", "internal/bytealg.IndexString", "internal/abi.NoEscape"], unfollowed := true, recurses := true, named := ["internal/bytealg.MaxLen"], apart := false, narrowed := true }
def FnSolveOneUptoSaid : Prop := fnSolveOneUptoRow.holds Try.pinned (OpenSpec.upto fnSolveOneSpec)

/-- 'laws.FnSolveTwo', WHERE WHAT IT READS IS OF BULK AT MOST 1048576: true; the input reads as it did. -/
def fnSolveTwoUptoRow : OpenClaim := { program := "ytiphooodijbhiab", sum := "8f369a62eaa77d14df8a301614de64392845d098bc670a7798ba6ee3366cfc5f", func := "loop.example/oneletter/laws.FnSolveTwo", spec := "fnSolveTwo", inPlace := ["internal/bytealg.IndexByteString", "internal/bytealg.IndexString", "internal/abi.NoEscape"], unfollowed := true, recurses := true, named := ["internal/bytealg.MaxLen"], apart := false, narrowed := true }
def FnSolveTwoUptoSaid : Prop := fnSolveTwoUptoRow.holds Try.pinned (OpenSpec.upto fnSolveTwoSpec)

/-- 'laws.FnExactMachBoth', WHERE WHAT IT READS IS OF BULK AT MOST 1048576: true; the input reads as it did. -/
def fnExactMachBothUptoRow : OpenClaim := { program := "ytiphooodijbhiab", sum := "8f369a62eaa77d14df8a301614de64392845d098bc670a7798ba6ee3366cfc5f", func := "loop.example/oneletter/laws.FnExactMachBoth", spec := "fnExactMachBoth", apart := false, narrowed := true }
def FnExactMachBothUptoSaid : Prop := fnExactMachBothUptoRow.holds Try.pinned (OpenSpec.upto fnExactMachBothSpec)

/-- 'laws.FnExactSolveLeast', WHERE WHAT IT READS IS OF BULK AT MOST 1048576: true; the input reads as it did. -/
def fnExactSolveLeastUptoRow : OpenClaim := { program := "ytiphooodijbhiab", sum := "8f369a62eaa77d14df8a301614de64392845d098bc670a7798ba6ee3366cfc5f", func := "loop.example/oneletter/laws.FnExactSolveLeast", spec := "fnExactSolveLeast", inPlace := ["internal/bytealg.IndexByteString", "internal/bytealg.IndexString", "internal/abi.NoEscape"], unfollowed := true, recurses := true, named := ["internal/bytealg.MaxLen"], apart := false, narrowed := true }
def FnExactSolveLeastUptoSaid : Prop := fnExactSolveLeastUptoRow.holds Try.pinned (OpenSpec.upto fnExactSolveLeastSpec)

/-- 'laws.FnExactSolveIs', WHERE WHAT IT READS IS OF BULK AT MOST 1048576: true; the input reads as it did. -/
def fnExactSolveIsUptoRow : OpenClaim := { program := "ytiphooodijbhiab", sum := "8f369a62eaa77d14df8a301614de64392845d098bc670a7798ba6ee3366cfc5f", func := "loop.example/oneletter/laws.FnExactSolveIs", spec := "fnExactSolveIs", inPlace := ["internal/bytealg.IndexByteString", "internal/bytealg.IndexString", "internal/abi.NoEscape"], unfollowed := true, recurses := true, named := ["internal/bytealg.MaxLen"], apart := false, narrowed := true }
def FnExactSolveIsUptoSaid : Prop := fnExactSolveIsUptoRow.holds Try.pinned (OpenSpec.upto fnExactSolveIsSpec)

/-- 'laws.FnExactSolveHas', WHERE WHAT IT READS IS OF BULK AT MOST 1048576: true; the input reads as it did. -/
def fnExactSolveHasUptoRow : OpenClaim := { program := "ytiphooodijbhiab", sum := "8f369a62eaa77d14df8a301614de64392845d098bc670a7798ba6ee3366cfc5f", func := "loop.example/oneletter/laws.FnExactSolveHas", spec := "fnExactSolveHas", inPlace := ["internal/bytealg.IndexByteString", "internal/bytealg.IndexString", "internal/abi.NoEscape"], unfollowed := true, recurses := true, named := ["internal/bytealg.MaxLen"], apart := false, narrowed := true }
def FnExactSolveHasUptoSaid : Prop := fnExactSolveHasUptoRow.holds Try.pinned (OpenSpec.upto fnExactSolveHasSpec)

end Rows
end Go.Proofs.Ytiphooodijbhiab
