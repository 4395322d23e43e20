/-
  No cell of these rows narrows 'for every input' (looked for: loops, veiled, ifaces, maps, wideKeys, modest, calm, conditions, laid).
  DERIVED. THE GIVEN ROWS OF THIS SEAT. 3 by the template 'for every input the law returns true; each argument reads behind the call as it read before'; 0 by the template 'total and deterministic' (their statements: YtiphooodijbhiacTotals.lean).
  GIVEN WITH THE SEED: the statements are not yours to turn. If you find one false, say at which input.
  Laid BY PROGRAM, IN A SANDBOX (cutbox-rows.mjs): the forced cells as the released guide's own fill.sh prints them over the translation 3e7eb80ed15cfaab… (all of the seat's roots in one cut). By AI agents, Wed Nov 11 2026. No macro, syntax, notation, axiom, sorry.
-/
import Derived.Test.YtiphooodijbhiacChecked
import GoSem.Claim
import GoSem.ClaimJoined
import GoSem.ClaimMapViews
import Derived.JoinedTies
import Derived.KernelRfl
namespace Go.Proofs.Ytiphooodijbhiac
/- THE CELL 'sum', in the pinned program and in every row, IS THE sha256 OF THE DUMP (.gsa) THAT YtiphooodijbhiacProg.lean LOADS. Nothing in Lean hashes anything: it is a label: what it is worth is what the hold of that sum in a sandbox is worth. -/
noncomputable def Try.pinned : Pinned := { name := "ytiphooodijbhiac", sum := "3e7eb80ed15cfaab598a8ca2841a7904456e3a1e70085d4045f11b9f5438788e", checked := Try.checked }
namespace Rows
def none {H : Type} : Left H := { results := [], args := [] }

/-- 'laws.FnExactSolveMost': WHATEVER THE INPUT: true; the input reads as it did. -/
def fnExactSolveMostSpec : ChangeSpec := { name := "fnExactSolveMost", fn := fun _ => fun
  | [d1, d2] => { results := [.lit (.bool true)], args := [d1, d2] }
  | _ => none }
def fnExactSolveMostRow : OpenClaim := { program := "ytiphooodijbhiac", sum := "3e7eb80ed15cfaab598a8ca2841a7904456e3a1e70085d4045f11b9f5438788e", func := "loop.example/oneletter/laws.FnExactSolveMost", spec := "fnExactSolveMost", inPlace := ["internal/bytealg.IndexByteString", "internal/bytealg.IndexString", "internal/abi.NoEscape"], unfollowed := true, recurses := true, named := ["internal/bytealg.MaxLen"], apart := false }
def FnExactSolveMostSaid : Prop := fnExactSolveMostRow.holds Try.pinned (OpenSpec.ofChange fnExactSolveMostSpec)

/-- ITS FALSE NEIGHBOUR: 'it returns false'. Refute it at one input. -/
def fnExactSolveMostWrong : ChangeSpec := { name := "fnExactSolveMost", fn := fun _ => fun
  | [d1, d2] => { results := [.lit (.bool false)], args := [d1, d2] }
  | _ => none }
def FnExactSolveMostWrongFalsely : Prop := fnExactSolveMostRow.holds Try.pinned (OpenSpec.ofChange fnExactSolveMostWrong)

/-- 'laws.FnExactSolveOne': WHATEVER THE INPUT: true; the input reads as it did. -/
def fnExactSolveOneSpec : ChangeSpec := { name := "fnExactSolveOne", fn := fun _ => fun
  | [d1, d2] => { results := [.lit (.bool true)], args := [d1, d2] }
  | _ => none }
def fnExactSolveOneRow : OpenClaim := { program := "ytiphooodijbhiac", sum := "3e7eb80ed15cfaab598a8ca2841a7904456e3a1e70085d4045f11b9f5438788e", func := "loop.example/oneletter/laws.FnExactSolveOne", spec := "fnExactSolveOne", inPlace := ["internal/bytealg.IndexByteString", "internal/bytealg.IndexString", "internal/abi.NoEscape"], unfollowed := true, recurses := true, named := ["internal/bytealg.MaxLen"], apart := false }
def FnExactSolveOneSaid : Prop := fnExactSolveOneRow.holds Try.pinned (OpenSpec.ofChange fnExactSolveOneSpec)

/-- ITS FALSE NEIGHBOUR: 'it returns false'. Refute it at one input. -/
def fnExactSolveOneWrong : ChangeSpec := { name := "fnExactSolveOne", fn := fun _ => fun
  | [d1, d2] => { results := [.lit (.bool false)], args := [d1, d2] }
  | _ => none }
def FnExactSolveOneWrongFalsely : Prop := fnExactSolveOneRow.holds Try.pinned (OpenSpec.ofChange fnExactSolveOneWrong)

/-- 'laws.FnExactSolveTwo': WHATEVER THE INPUT: true; the input reads as it did. -/
def fnExactSolveTwoSpec : ChangeSpec := { name := "fnExactSolveTwo", fn := fun _ => fun
  | [d1, d2, d3] => { results := [.lit (.bool true)], args := [d1, d2, d3] }
  | _ => none }
def fnExactSolveTwoRow : OpenClaim := { program := "ytiphooodijbhiac", sum := "3e7eb80ed15cfaab598a8ca2841a7904456e3a1e70085d4045f11b9f5438788e", func := "loop.example/oneletter/laws.FnExactSolveTwo", spec := "fnExactSolveTwo", inPlace := ["internal/bytealg.IndexByteString", "internal/bytealg.IndexString", "internal/abi.NoEscape"], unfollowed := true, recurses := true, named := ["internal/bytealg.MaxLen"], apart := false }
def FnExactSolveTwoSaid : Prop := fnExactSolveTwoRow.holds Try.pinned (OpenSpec.ofChange fnExactSolveTwoSpec)

/-- ITS FALSE NEIGHBOUR: 'it returns false'. Refute it at one input. -/
def fnExactSolveTwoWrong : ChangeSpec := { name := "fnExactSolveTwo", fn := fun _ => fun
  | [d1, d2, d3] => { results := [.lit (.bool false)], args := [d1, d2, d3] }
  | _ => none }
def FnExactSolveTwoWrongFalsely : Prop := fnExactSolveTwoRow.holds Try.pinned (OpenSpec.ofChange fnExactSolveTwoWrong)

/- THE SECOND FORM. 'bulk': how many values and letters a reading holds, each counted each time it is reached (what is shared counts as often as it is met; a slice's spare places count too). A statement '..UptoSaid' is the law's where the arguments, and the package variables that the reading takes, are together of bulk at most 1048576: NARROWER than '..Said'. Prove '..Said' where nothing that the law and all that it calls make is longer than what came in: it says more and counts as full. Else prove '..UptoSaid'. A law counts once. -/
mutual
def uptoBulk {H : Type} : DataW H → Nat
  | .lit (.string bytes) => bytes.length + 1
  | .lit _ => 1
  | .nil => 1
  | .ptr d => uptoBulk d + 1
  | .slice elems spare => uptoBulkAll elems + uptoBulkAll spare + 1
  | .agg parts => uptoBulkAll parts + 1
  | .iface _ d => uptoBulk d + 1
  | .map entries => uptoBulkEntries entries + 1
  | .held _ => 1
def uptoBulkAll {H : Type} : List (DataW H) → Nat
  | [] => 0
  | d :: r => uptoBulk d + uptoBulkAll r
def uptoBulkEntries {H : Type} : List (Lit × DataW H) → Nat
  | [] => 0
  | x :: r => uptoBulkEntry x + uptoBulkEntries r
def uptoBulkEntry {H : Type} : Lit × DataW H → Nat
  | (.string bytes, d) => bytes.length + uptoBulk d + 1
  | (_, d) => uptoBulk d + 1
 end
def uptoSmall : (H : Type) → List (DataW H) → Bool := fun _ ds => decide (uptoBulkAll ds ≤ 1048576)
def OpenSpec.upto (s : _root_.Go.ChangeSpec) : _root_.Go.OpenSpec := { _root_.Go.OpenSpec.ofChange s with cond := some uptoSmall }

/-- 'laws.FnExactSolveMost', WHERE WHAT IT READS IS OF BULK AT MOST 1048576: true; the input reads as it did. -/
def fnExactSolveMostUptoRow : OpenClaim := { program := "ytiphooodijbhiac", sum := "3e7eb80ed15cfaab598a8ca2841a7904456e3a1e70085d4045f11b9f5438788e", func := "loop.example/oneletter/laws.FnExactSolveMost", spec := "fnExactSolveMost", inPlace := ["internal/bytealg.IndexByteString", "internal/bytealg.IndexString", "internal/abi.NoEscape"], unfollowed := true, recurses := true, named := ["internal/bytealg.MaxLen"], apart := false, narrowed := true }
def FnExactSolveMostUptoSaid : Prop := fnExactSolveMostUptoRow.holds Try.pinned (OpenSpec.upto fnExactSolveMostSpec)

/-- 'laws.FnExactSolveOne', WHERE WHAT IT READS IS OF BULK AT MOST 1048576: true; the input reads as it did. -/
def fnExactSolveOneUptoRow : OpenClaim := { program := "ytiphooodijbhiac", sum := "3e7eb80ed15cfaab598a8ca2841a7904456e3a1e70085d4045f11b9f5438788e", func := "loop.example/oneletter/laws.FnExactSolveOne", spec := "fnExactSolveOne", inPlace := ["internal/bytealg.IndexByteString", "internal/bytealg.IndexString", "internal/abi.NoEscape"], unfollowed := true, recurses := true, named := ["internal/bytealg.MaxLen"], apart := false, narrowed := true }
def FnExactSolveOneUptoSaid : Prop := fnExactSolveOneUptoRow.holds Try.pinned (OpenSpec.upto fnExactSolveOneSpec)

/-- 'laws.FnExactSolveTwo', WHERE WHAT IT READS IS OF BULK AT MOST 1048576: true; the input reads as it did. -/
def fnExactSolveTwoUptoRow : OpenClaim := { program := "ytiphooodijbhiac", sum := "3e7eb80ed15cfaab598a8ca2841a7904456e3a1e70085d4045f11b9f5438788e", func := "loop.example/oneletter/laws.FnExactSolveTwo", spec := "fnExactSolveTwo", inPlace := ["internal/bytealg.IndexByteString", "internal/bytealg.IndexString", "internal/abi.NoEscape"], unfollowed := true, recurses := true, named := ["internal/bytealg.MaxLen"], apart := false, narrowed := true }
def FnExactSolveTwoUptoSaid : Prop := fnExactSolveTwoUptoRow.holds Try.pinned (OpenSpec.upto fnExactSolveTwoSpec)

end Rows
end Go.Proofs.Ytiphooodijbhiac
