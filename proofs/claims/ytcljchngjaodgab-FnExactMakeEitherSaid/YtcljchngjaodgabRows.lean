/-
  No cell of these rows narrows 'for every input' (looked for: loops, veiled, ifaces, maps, wideKeys, modest, calm, conditions, laid).
  DERIVED. THE GIVEN ROWS OF THIS SEAT. 9 by the template 'for every input the law returns true; each argument reads behind the call as it read before'; 0 by the template 'total and deterministic' (their statements: YtcljchngjaodgabTotals.lean).
  GIVEN WITH THE SEED: the statements are not yours to turn. If you find one false, say at which input.
  Laid BY PROGRAM, IN A SANDBOX (cutbox-rows.mjs): the forced cells as the released guide's own fill.sh prints them over the translation 283cc5a7d7c0db1a… (all of the seat's roots in one cut). By AI agents, Wed Nov 11 2026. No macro, syntax, notation, axiom, sorry.
-/
import Derived.Test.YtcljchngjaodgabChecked
import GoSem.Claim
import GoSem.ClaimJoined
import GoSem.ClaimMapViews
import Derived.JoinedTies
import Derived.KernelRfl
namespace Go.Proofs.Ytcljchngjaodgab
/- THE CELL 'sum', in the pinned program and in every row, IS THE sha256 OF THE DUMP (.gsa) THAT YtcljchngjaodgabProg.lean LOADS. Nothing in Lean hashes anything: it is a label: what it is worth is what the hold of that sum in a sandbox is worth. -/
noncomputable def Try.pinned : Pinned := { name := "ytcljchngjaodgab", sum := "283cc5a7d7c0db1aa0baa77aef071d9b4b78dfcb34a3a6ed0ced0bb57c185aa8", checked := Try.checked }
namespace Rows
def none {H : Type} : Left H := { results := [], args := [] }

/-- 'laws.FnExactMakeEither': WHATEVER THE INPUT: true; the input reads as it did. -/
def fnExactMakeEitherSpec : ChangeSpec := { name := "fnExactMakeEither", fn := fun _ => fun
  | [d1, d2] => { results := [.lit (.bool true)], args := [d1, d2] }
  | _ => none }
def fnExactMakeEitherRow : OpenClaim := { program := "ytcljchngjaodgab", sum := "283cc5a7d7c0db1aa0baa77aef071d9b4b78dfcb34a3a6ed0ced0bb57c185aa8", func := "loop.example/oneletter/laws.FnExactMakeEither", spec := "fnExactMakeEither", inPlace := ["internal/bytealg.IndexByteString", "internal/bytealg.IndexString", "internal/abi.NoEscape"], unfollowed := true, recurses := true, named := ["internal/bytealg.MaxLen"], apart := false }
def FnExactMakeEitherSaid : Prop := fnExactMakeEitherRow.holds Try.pinned (OpenSpec.ofChange fnExactMakeEitherSpec)

/-- ITS FALSE NEIGHBOUR: 'it returns false'. Refute it at one input. -/
def fnExactMakeEitherWrong : ChangeSpec := { name := "fnExactMakeEither", fn := fun _ => fun
  | [d1, d2] => { results := [.lit (.bool false)], args := [d1, d2] }
  | _ => none }
def FnExactMakeEitherWrongFalsely : Prop := fnExactMakeEitherRow.holds Try.pinned (OpenSpec.ofChange fnExactMakeEitherWrong)

/-- 'laws.FnExactMakeBoth': WHATEVER THE INPUT: true; the input reads as it did. -/
def fnExactMakeBothSpec : ChangeSpec := { name := "fnExactMakeBoth", fn := fun _ => fun
  | [d1, d2] => { results := [.lit (.bool true)], args := [d1, d2] }
  | _ => none }
def fnExactMakeBothRow : OpenClaim := { program := "ytcljchngjaodgab", sum := "283cc5a7d7c0db1aa0baa77aef071d9b4b78dfcb34a3a6ed0ced0bb57c185aa8", func := "loop.example/oneletter/laws.FnExactMakeBoth", spec := "fnExactMakeBoth", inPlace := ["internal/bytealg.IndexByteString", "internal/bytealg.IndexString", "internal/abi.NoEscape"], unfollowed := true, recurses := true, named := ["internal/bytealg.MaxLen"], apart := false }
def FnExactMakeBothSaid : Prop := fnExactMakeBothRow.holds Try.pinned (OpenSpec.ofChange fnExactMakeBothSpec)

/-- ITS FALSE NEIGHBOUR: 'it returns false'. Refute it at one input. -/
def fnExactMakeBothWrong : ChangeSpec := { name := "fnExactMakeBoth", fn := fun _ => fun
  | [d1, d2] => { results := [.lit (.bool false)], args := [d1, d2] }
  | _ => none }
def FnExactMakeBothWrongFalsely : Prop := fnExactMakeBothRow.holds Try.pinned (OpenSpec.ofChange fnExactMakeBothWrong)

/-- 'laws.FnExactMakeWithout': WHATEVER THE INPUT: true; the input reads as it did. -/
def fnExactMakeWithoutSpec : ChangeSpec := { name := "fnExactMakeWithout", fn := fun _ => fun
  | [d1, d2] => { results := [.lit (.bool true)], args := [d1, d2] }
  | _ => none }
def fnExactMakeWithoutRow : OpenClaim := { program := "ytcljchngjaodgab", sum := "283cc5a7d7c0db1aa0baa77aef071d9b4b78dfcb34a3a6ed0ced0bb57c185aa8", func := "loop.example/oneletter/laws.FnExactMakeWithout", spec := "fnExactMakeWithout", inPlace := ["internal/bytealg.IndexByteString", "internal/bytealg.IndexString", "internal/abi.NoEscape"], unfollowed := true, recurses := true, named := ["internal/bytealg.MaxLen"], apart := false }
def FnExactMakeWithoutSaid : Prop := fnExactMakeWithoutRow.holds Try.pinned (OpenSpec.ofChange fnExactMakeWithoutSpec)

/-- ITS FALSE NEIGHBOUR: 'it returns false'. Refute it at one input. -/
def fnExactMakeWithoutWrong : ChangeSpec := { name := "fnExactMakeWithout", fn := fun _ => fun
  | [d1, d2] => { results := [.lit (.bool false)], args := [d1, d2] }
  | _ => none }
def FnExactMakeWithoutWrongFalsely : Prop := fnExactMakeWithoutRow.holds Try.pinned (OpenSpec.ofChange fnExactMakeWithoutWrong)

/-- 'laws.FnExactMakeOther': WHATEVER THE INPUT: true; the input reads as it did. -/
def fnExactMakeOtherSpec : ChangeSpec := { name := "fnExactMakeOther", fn := fun _ => fun
  | [d] => { results := [.lit (.bool true)], args := [d] }
  | _ => none }
def fnExactMakeOtherRow : OpenClaim := { program := "ytcljchngjaodgab", sum := "283cc5a7d7c0db1aa0baa77aef071d9b4b78dfcb34a3a6ed0ced0bb57c185aa8", func := "loop.example/oneletter/laws.FnExactMakeOther", spec := "fnExactMakeOther", inPlace := ["internal/bytealg.IndexByteString", "internal/bytealg.IndexString", "internal/abi.NoEscape"], unfollowed := true, recurses := true, named := ["internal/bytealg.MaxLen"], apart := false }
def FnExactMakeOtherSaid : Prop := fnExactMakeOtherRow.holds Try.pinned (OpenSpec.ofChange fnExactMakeOtherSpec)

/-- ITS FALSE NEIGHBOUR: 'it returns false'. Refute it at one input. -/
def fnExactMakeOtherWrong : ChangeSpec := { name := "fnExactMakeOther", fn := fun _ => fun
  | [d] => { results := [.lit (.bool false)], args := [d] }
  | _ => none }
def FnExactMakeOtherWrongFalsely : Prop := fnExactMakeOtherRow.holds Try.pinned (OpenSpec.ofChange fnExactMakeOtherWrong)

/-- 'laws.FnExactMakeUp': WHATEVER THE INPUT: true; the input reads as it did. -/
def fnExactMakeUpSpec : ChangeSpec := { name := "fnExactMakeUp", fn := fun _ => fun
  | [d1, d2] => { results := [.lit (.bool true)], args := [d1, d2] }
  | _ => none }
def fnExactMakeUpRow : OpenClaim := { program := "ytcljchngjaodgab", sum := "283cc5a7d7c0db1aa0baa77aef071d9b4b78dfcb34a3a6ed0ced0bb57c185aa8", func := "loop.example/oneletter/laws.FnExactMakeUp", spec := "fnExactMakeUp", inPlace := ["internal/bytealg.IndexByteString", "internal/bytealg.IndexString", "internal/abi.NoEscape"], unfollowed := true, recurses := true, named := ["internal/bytealg.MaxLen"], apart := false }
def FnExactMakeUpSaid : Prop := fnExactMakeUpRow.holds Try.pinned (OpenSpec.ofChange fnExactMakeUpSpec)

/-- ITS FALSE NEIGHBOUR: 'it returns false'. Refute it at one input. -/
def fnExactMakeUpWrong : ChangeSpec := { name := "fnExactMakeUp", fn := fun _ => fun
  | [d1, d2] => { results := [.lit (.bool false)], args := [d1, d2] }
  | _ => none }
def FnExactMakeUpWrongFalsely : Prop := fnExactMakeUpRow.holds Try.pinned (OpenSpec.ofChange fnExactMakeUpWrong)

/-- 'laws.FnExactMakeDown': WHATEVER THE INPUT: true; the input reads as it did. -/
def fnExactMakeDownSpec : ChangeSpec := { name := "fnExactMakeDown", fn := fun _ => fun
  | [d1, d2] => { results := [.lit (.bool true)], args := [d1, d2] }
  | _ => none }
def fnExactMakeDownRow : OpenClaim := { program := "ytcljchngjaodgab", sum := "283cc5a7d7c0db1aa0baa77aef071d9b4b78dfcb34a3a6ed0ced0bb57c185aa8", func := "loop.example/oneletter/laws.FnExactMakeDown", spec := "fnExactMakeDown", inPlace := ["internal/bytealg.IndexByteString", "internal/bytealg.IndexString", "internal/abi.NoEscape"], unfollowed := true, recurses := true, named := ["internal/bytealg.MaxLen"], apart := false }
def FnExactMakeDownSaid : Prop := fnExactMakeDownRow.holds Try.pinned (OpenSpec.ofChange fnExactMakeDownSpec)

/-- ITS FALSE NEIGHBOUR: 'it returns false'. Refute it at one input. -/
def fnExactMakeDownWrong : ChangeSpec := { name := "fnExactMakeDown", fn := fun _ => fun
  | [d1, d2] => { results := [.lit (.bool false)], args := [d1, d2] }
  | _ => none }
def FnExactMakeDownWrongFalsely : Prop := fnExactMakeDownRow.holds Try.pinned (OpenSpec.ofChange fnExactMakeDownWrong)

/-- 'laws.FnExactMakeTimes': WHATEVER THE INPUT: true; the input reads as it did. -/
def fnExactMakeTimesSpec : ChangeSpec := { name := "fnExactMakeTimes", fn := fun _ => fun
  | [d1, d2] => { results := [.lit (.bool true)], args := [d1, d2] }
  | _ => none }
def fnExactMakeTimesRow : OpenClaim := { program := "ytcljchngjaodgab", sum := "283cc5a7d7c0db1aa0baa77aef071d9b4b78dfcb34a3a6ed0ced0bb57c185aa8", func := "loop.example/oneletter/laws.FnExactMakeTimes", spec := "fnExactMakeTimes", inPlace := ["internal/bytealg.IndexByteString", "internal/bytealg.IndexString", "internal/abi.NoEscape"], unfollowed := true, recurses := true, named := ["internal/bytealg.MaxLen"], apart := false }
def FnExactMakeTimesSaid : Prop := fnExactMakeTimesRow.holds Try.pinned (OpenSpec.ofChange fnExactMakeTimesSpec)

/-- ITS FALSE NEIGHBOUR: 'it returns false'. Refute it at one input. -/
def fnExactMakeTimesWrong : ChangeSpec := { name := "fnExactMakeTimes", fn := fun _ => fun
  | [d1, d2] => { results := [.lit (.bool false)], args := [d1, d2] }
  | _ => none }
def FnExactMakeTimesWrongFalsely : Prop := fnExactMakeTimesRow.holds Try.pinned (OpenSpec.ofChange fnExactMakeTimesWrong)

/-- 'laws.FnExactMakeEvery': WHATEVER THE INPUT: true; the input reads as it did. -/
def fnExactMakeEverySpec : ChangeSpec := { name := "fnExactMakeEvery", fn := fun _ => fun
  | [d1, d2, d3] => { results := [.lit (.bool true)], args := [d1, d2, d3] }
  | _ => none }
def fnExactMakeEveryRow : OpenClaim := { program := "ytcljchngjaodgab", sum := "283cc5a7d7c0db1aa0baa77aef071d9b4b78dfcb34a3a6ed0ced0bb57c185aa8", func := "loop.example/oneletter/laws.FnExactMakeEvery", spec := "fnExactMakeEvery", inPlace := ["internal/bytealg.IndexByteString", "internal/bytealg.IndexString", "internal/abi.NoEscape"], unfollowed := true, recurses := true, named := ["internal/bytealg.MaxLen"], apart := false }
def FnExactMakeEverySaid : Prop := fnExactMakeEveryRow.holds Try.pinned (OpenSpec.ofChange fnExactMakeEverySpec)

/-- ITS FALSE NEIGHBOUR: 'it returns false'. Refute it at one input. -/
def fnExactMakeEveryWrong : ChangeSpec := { name := "fnExactMakeEvery", fn := fun _ => fun
  | [d1, d2, d3] => { results := [.lit (.bool false)], args := [d1, d2, d3] }
  | _ => none }
def FnExactMakeEveryWrongFalsely : Prop := fnExactMakeEveryRow.holds Try.pinned (OpenSpec.ofChange fnExactMakeEveryWrong)

/-- 'laws.FnExactMakeOver': WHATEVER THE INPUT: true; the input reads as it did. -/
def fnExactMakeOverSpec : ChangeSpec := { name := "fnExactMakeOver", fn := fun _ => fun
  | [d1, d2] => { results := [.lit (.bool true)], args := [d1, d2] }
  | _ => none }
def fnExactMakeOverRow : OpenClaim := { program := "ytcljchngjaodgab", sum := "283cc5a7d7c0db1aa0baa77aef071d9b4b78dfcb34a3a6ed0ced0bb57c185aa8", func := "loop.example/oneletter/laws.FnExactMakeOver", spec := "fnExactMakeOver", inPlace := ["internal/bytealg.IndexByteString", "internal/bytealg.IndexString", "internal/abi.NoEscape"], unfollowed := true, recurses := true, named := ["internal/bytealg.MaxLen"], apart := false }
def FnExactMakeOverSaid : Prop := fnExactMakeOverRow.holds Try.pinned (OpenSpec.ofChange fnExactMakeOverSpec)

/-- ITS FALSE NEIGHBOUR: 'it returns false'. Refute it at one input. -/
def fnExactMakeOverWrong : ChangeSpec := { name := "fnExactMakeOver", fn := fun _ => fun
  | [d1, d2] => { results := [.lit (.bool false)], args := [d1, d2] }
  | _ => none }
def FnExactMakeOverWrongFalsely : Prop := fnExactMakeOverRow.holds Try.pinned (OpenSpec.ofChange fnExactMakeOverWrong)

/- THE SECOND FORM. 'bulk': how many values and letters a reading holds, each counted each time it is reached (what is shared counts as often as it is met; a slice's spare places count too). A statement '..UptoSaid' is the law's where the arguments, and the package variables that the reading takes, are together of bulk at most 1048576: NARROWER than '..Said'. Prove '..Said' where nothing that the law and all that it calls make is longer than what came in: it says more and counts as full. Else prove '..UptoSaid'. A law counts once. -/
mutual
def uptoBulk {H : Type} : DataW H → Nat
  | .lit (.string bytes) => bytes.length + 1
  | .lit _ => 1
  | .nil => 1
  | .ptr d => uptoBulk d + 1
  | .slice elems spare => uptoBulkAll elems + uptoBulkAll spare + 1
  | .agg parts => uptoBulkAll parts + 1
  | .iface _ d => uptoBulk d + 1
  | .map entries => uptoBulkEntries entries + 1
  | .held _ => 1
def uptoBulkAll {H : Type} : List (DataW H) → Nat
  | [] => 0
  | d :: r => uptoBulk d + uptoBulkAll r
def uptoBulkEntries {H : Type} : List (Lit × DataW H) → Nat
  | [] => 0
  | x :: r => uptoBulkEntry x + uptoBulkEntries r
def uptoBulkEntry {H : Type} : Lit × DataW H → Nat
  | (.string bytes, d) => bytes.length + uptoBulk d + 1
  | (_, d) => uptoBulk d + 1
 end
def uptoSmall : (H : Type) → List (DataW H) → Bool := fun _ ds => decide (uptoBulkAll ds ≤ 1048576)
def OpenSpec.upto (s : _root_.Go.ChangeSpec) : _root_.Go.OpenSpec := { _root_.Go.OpenSpec.ofChange s with cond := some uptoSmall }

/-- 'laws.FnExactMakeEither', WHERE WHAT IT READS IS OF BULK AT MOST 1048576: true; the input reads as it did. -/
def fnExactMakeEitherUptoRow : OpenClaim := { program := "ytcljchngjaodgab", sum := "283cc5a7d7c0db1aa0baa77aef071d9b4b78dfcb34a3a6ed0ced0bb57c185aa8", func := "loop.example/oneletter/laws.FnExactMakeEither", spec := "fnExactMakeEither", inPlace := ["internal/bytealg.IndexByteString", "internal/bytealg.IndexString", "internal/abi.NoEscape"], unfollowed := true, recurses := true, named := ["internal/bytealg.MaxLen"], apart := false, narrowed := true }
def FnExactMakeEitherUptoSaid : Prop := fnExactMakeEitherUptoRow.holds Try.pinned (OpenSpec.upto fnExactMakeEitherSpec)

/-- 'laws.FnExactMakeBoth', WHERE WHAT IT READS IS OF BULK AT MOST 1048576: true; the input reads as it did. -/
def fnExactMakeBothUptoRow : OpenClaim := { program := "ytcljchngjaodgab", sum := "283cc5a7d7c0db1aa0baa77aef071d9b4b78dfcb34a3a6ed0ced0bb57c185aa8", func := "loop.example/oneletter/laws.FnExactMakeBoth", spec := "fnExactMakeBoth", inPlace := ["internal/bytealg.IndexByteString", "internal/bytealg.IndexString", "internal/abi.NoEscape"], unfollowed := true, recurses := true, named := ["internal/bytealg.MaxLen"], apart := false, narrowed := true }
def FnExactMakeBothUptoSaid : Prop := fnExactMakeBothUptoRow.holds Try.pinned (OpenSpec.upto fnExactMakeBothSpec)

/-- 'laws.FnExactMakeWithout', WHERE WHAT IT READS IS OF BULK AT MOST 1048576: true; the input reads as it did. -/
def fnExactMakeWithoutUptoRow : OpenClaim := { program := "ytcljchngjaodgab", sum := "283cc5a7d7c0db1aa0baa77aef071d9b4b78dfcb34a3a6ed0ced0bb57c185aa8", func := "loop.example/oneletter/laws.FnExactMakeWithout", spec := "fnExactMakeWithout", inPlace := ["internal/bytealg.IndexByteString", "internal/bytealg.IndexString", "internal/abi.NoEscape"], unfollowed := true, recurses := true, named := ["internal/bytealg.MaxLen"], apart := false, narrowed := true }
def FnExactMakeWithoutUptoSaid : Prop := fnExactMakeWithoutUptoRow.holds Try.pinned (OpenSpec.upto fnExactMakeWithoutSpec)

/-- 'laws.FnExactMakeOther', WHERE WHAT IT READS IS OF BULK AT MOST 1048576: true; the input reads as it did. -/
def fnExactMakeOtherUptoRow : OpenClaim := { program := "ytcljchngjaodgab", sum := "283cc5a7d7c0db1aa0baa77aef071d9b4b78dfcb34a3a6ed0ced0bb57c185aa8", func := "loop.example/oneletter/laws.FnExactMakeOther", spec := "fnExactMakeOther", inPlace := ["internal/bytealg.IndexByteString", "internal/bytealg.IndexString", "internal/abi.NoEscape"], unfollowed := true, recurses := true, named := ["internal/bytealg.MaxLen"], apart := false, narrowed := true }
def FnExactMakeOtherUptoSaid : Prop := fnExactMakeOtherUptoRow.holds Try.pinned (OpenSpec.upto fnExactMakeOtherSpec)

/-- 'laws.FnExactMakeUp', WHERE WHAT IT READS IS OF BULK AT MOST 1048576: true; the input reads as it did. -/
def fnExactMakeUpUptoRow : OpenClaim := { program := "ytcljchngjaodgab", sum := "283cc5a7d7c0db1aa0baa77aef071d9b4b78dfcb34a3a6ed0ced0bb57c185aa8", func := "loop.example/oneletter/laws.FnExactMakeUp", spec := "fnExactMakeUp", inPlace := ["internal/bytealg.IndexByteString", "internal/bytealg.IndexString", "internal/abi.NoEscape"], unfollowed := true, recurses := true, named := ["internal/bytealg.MaxLen"], apart := false, narrowed := true }
def FnExactMakeUpUptoSaid : Prop := fnExactMakeUpUptoRow.holds Try.pinned (OpenSpec.upto fnExactMakeUpSpec)

/-- 'laws.FnExactMakeDown', WHERE WHAT IT READS IS OF BULK AT MOST 1048576: true; the input reads as it did. -/
def fnExactMakeDownUptoRow : OpenClaim := { program := "ytcljchngjaodgab", sum := "283cc5a7d7c0db1aa0baa77aef071d9b4b78dfcb34a3a6ed0ced0bb57c185aa8", func := "loop.example/oneletter/laws.FnExactMakeDown", spec := "fnExactMakeDown", inPlace := ["internal/bytealg.IndexByteString", "internal/bytealg.IndexString", "internal/abi.NoEscape"], unfollowed := true, recurses := true, named := ["internal/bytealg.MaxLen"], apart := false, narrowed := true }
def FnExactMakeDownUptoSaid : Prop := fnExactMakeDownUptoRow.holds Try.pinned (OpenSpec.upto fnExactMakeDownSpec)

/-- 'laws.FnExactMakeTimes', WHERE WHAT IT READS IS OF BULK AT MOST 1048576: true; the input reads as it did. -/
def fnExactMakeTimesUptoRow : OpenClaim := { program := "ytcljchngjaodgab", sum := "283cc5a7d7c0db1aa0baa77aef071d9b4b78dfcb34a3a6ed0ced0bb57c185aa8", func := "loop.example/oneletter/laws.FnExactMakeTimes", spec := "fnExactMakeTimes", inPlace := ["internal/bytealg.IndexByteString", "internal/bytealg.IndexString", "internal/abi.NoEscape"], unfollowed := true, recurses := true, named := ["internal/bytealg.MaxLen"], apart := false, narrowed := true }
def FnExactMakeTimesUptoSaid : Prop := fnExactMakeTimesUptoRow.holds Try.pinned (OpenSpec.upto fnExactMakeTimesSpec)

/-- 'laws.FnExactMakeEvery', WHERE WHAT IT READS IS OF BULK AT MOST 1048576: true; the input reads as it did. -/
def fnExactMakeEveryUptoRow : OpenClaim := { program := "ytcljchngjaodgab", sum := "283cc5a7d7c0db1aa0baa77aef071d9b4b78dfcb34a3a6ed0ced0bb57c185aa8", func := "loop.example/oneletter/laws.FnExactMakeEvery", spec := "fnExactMakeEvery", inPlace := ["internal/bytealg.IndexByteString", "internal/bytealg.IndexString", "internal/abi.NoEscape"], unfollowed := true, recurses := true, named := ["internal/bytealg.MaxLen"], apart := false, narrowed := true }
def FnExactMakeEveryUptoSaid : Prop := fnExactMakeEveryUptoRow.holds Try.pinned (OpenSpec.upto fnExactMakeEverySpec)

/-- 'laws.FnExactMakeOver', WHERE WHAT IT READS IS OF BULK AT MOST 1048576: true; the input reads as it did. -/
def fnExactMakeOverUptoRow : OpenClaim := { program := "ytcljchngjaodgab", sum := "283cc5a7d7c0db1aa0baa77aef071d9b4b78dfcb34a3a6ed0ced0bb57c185aa8", func := "loop.example/oneletter/laws.FnExactMakeOver", spec := "fnExactMakeOver", inPlace := ["internal/bytealg.IndexByteString", "internal/bytealg.IndexString", "internal/abi.NoEscape"], unfollowed := true, recurses := true, named := ["internal/bytealg.MaxLen"], apart := false, narrowed := true }
def FnExactMakeOverUptoSaid : Prop := fnExactMakeOverUptoRow.holds Try.pinned (OpenSpec.upto fnExactMakeOverSpec)

end Rows
end Go.Proofs.Ytcljchngjaodgab
