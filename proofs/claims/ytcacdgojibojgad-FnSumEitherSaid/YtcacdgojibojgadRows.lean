/-
  No cell of these rows narrows 'for every input' (looked for: loops, veiled, ifaces, maps, wideKeys, modest, calm, conditions, laid).
  DERIVED. THE GIVEN ROWS OF THIS SEAT. 9 by the template 'for every input the law returns true; each argument reads behind the call as it read before'; 0 by the template 'total and deterministic' (their statements: YtcacdgojibojgadTotals.lean).
  GIVEN WITH THE SEED: the statements are not yours to turn. If you find one false, say at which input.
  Laid BY PROGRAM, IN A SANDBOX (cutbox-rows.mjs): the forced cells as the released guide's own fill.sh prints them over the translation 761f98584e5029c5… (all of the seat's roots in one cut). By AI agents, Wed Nov 11 2026. No macro, syntax, notation, axiom, sorry.
-/
import Derived.Test.YtcacdgojibojgadChecked
import GoSem.Claim
import GoSem.ClaimJoined
import GoSem.ClaimMapViews
import Derived.JoinedTies
import Derived.KernelRfl
namespace Go.Proofs.Ytcacdgojibojgad
/- THE CELL 'sum', in the pinned program and in every row, IS THE sha256 OF THE DUMP (.gsa) THAT YtcacdgojibojgadProg.lean LOADS. Nothing in Lean hashes anything: it is a label: what it is worth is what the hold of that sum in a sandbox is worth. -/
noncomputable def Try.pinned : Pinned := { name := "ytcacdgojibojgad", sum := "761f98584e5029c5d47f5807798bc2117d84100320d6f92ca5ae1d24ad5e5fa2", checked := Try.checked }
namespace Rows
def none {H : Type} : Left H := { results := [], args := [] }

/-- 'laws.FnSumOf': WHATEVER THE INPUT: true; the input reads as it did. -/
def fnSumOfSpec : ChangeSpec := { name := "fnSumOf", fn := fun _ => fun
  | [d] => { results := [.lit (.bool true)], args := [d] }
  | _ => none }
def fnSumOfRow : OpenClaim := { program := "ytcacdgojibojgad", sum := "761f98584e5029c5d47f5807798bc2117d84100320d6f92ca5ae1d24ad5e5fa2", func := "loop.example/oneletter/laws.FnSumOf", spec := "fnSumOf", inPlace := ["internal/bytealg.IndexByteString", "internal/bytealg.IndexString", "internal/abi.NoEscape"], unfollowed := true, recurses := true, named := ["internal/bytealg.MaxLen"], apart := false }
def FnSumOfSaid : Prop := fnSumOfRow.holds Try.pinned (OpenSpec.ofChange fnSumOfSpec)

/-- ITS FALSE NEIGHBOUR: 'it returns false'. Refute it at one input. -/
def fnSumOfWrong : ChangeSpec := { name := "fnSumOf", fn := fun _ => fun
  | [d] => { results := [.lit (.bool false)], args := [d] }
  | _ => none }
def FnSumOfWrongFalsely : Prop := fnSumOfRow.holds Try.pinned (OpenSpec.ofChange fnSumOfWrong)

/-- 'laws.FnSumTimes': WHATEVER THE INPUT: true; the input reads as it did. -/
def fnSumTimesSpec : ChangeSpec := { name := "fnSumTimes", fn := fun _ => fun
  | [d] => { results := [.lit (.bool true)], args := [d] }
  | _ => none }
def fnSumTimesRow : OpenClaim := { program := "ytcacdgojibojgad", sum := "761f98584e5029c5d47f5807798bc2117d84100320d6f92ca5ae1d24ad5e5fa2", func := "loop.example/oneletter/laws.FnSumTimes", spec := "fnSumTimes", inPlace := ["internal/bytealg.IndexByteString", "internal/bytealg.IndexString", "internal/abi.NoEscape"], unfollowed := true, recurses := true, named := ["internal/bytealg.MaxLen"], apart := false }
def FnSumTimesSaid : Prop := fnSumTimesRow.holds Try.pinned (OpenSpec.ofChange fnSumTimesSpec)

/-- ITS FALSE NEIGHBOUR: 'it returns false'. Refute it at one input. -/
def fnSumTimesWrong : ChangeSpec := { name := "fnSumTimes", fn := fun _ => fun
  | [d] => { results := [.lit (.bool false)], args := [d] }
  | _ => none }
def FnSumTimesWrongFalsely : Prop := fnSumTimesRow.holds Try.pinned (OpenSpec.ofChange fnSumTimesWrong)

/-- 'laws.FnStarOf': WHATEVER THE INPUT: true; the input reads as it did. -/
def fnStarOfSpec : ChangeSpec := { name := "fnStarOf", fn := fun _ => fun
  | [d] => { results := [.lit (.bool true)], args := [d] }
  | _ => none }
def fnStarOfRow : OpenClaim := { program := "ytcacdgojibojgad", sum := "761f98584e5029c5d47f5807798bc2117d84100320d6f92ca5ae1d24ad5e5fa2", func := "loop.example/oneletter/laws.FnStarOf", spec := "fnStarOf", inPlace := ["internal/bytealg.IndexByteString", "internal/bytealg.IndexString", "internal/abi.NoEscape"], unfollowed := true, recurses := true, named := ["internal/bytealg.MaxLen"], apart := false }
def FnStarOfSaid : Prop := fnStarOfRow.holds Try.pinned (OpenSpec.ofChange fnStarOfSpec)

/-- ITS FALSE NEIGHBOUR: 'it returns false'. Refute it at one input. -/
def fnStarOfWrong : ChangeSpec := { name := "fnStarOf", fn := fun _ => fun
  | [d] => { results := [.lit (.bool false)], args := [d] }
  | _ => none }
def FnStarOfWrongFalsely : Prop := fnStarOfRow.holds Try.pinned (OpenSpec.ofChange fnStarOfWrong)

/-- 'laws.FnStarPlus': WHATEVER THE INPUT: true; the input reads as it did. -/
def fnStarPlusSpec : ChangeSpec := { name := "fnStarPlus", fn := fun _ => fun
  | [d] => { results := [.lit (.bool true)], args := [d] }
  | _ => none }
def fnStarPlusRow : OpenClaim := { program := "ytcacdgojibojgad", sum := "761f98584e5029c5d47f5807798bc2117d84100320d6f92ca5ae1d24ad5e5fa2", func := "loop.example/oneletter/laws.FnStarPlus", spec := "fnStarPlus", inPlace := ["internal/bytealg.IndexByteString", "internal/bytealg.IndexString", "internal/abi.NoEscape"], unfollowed := true, recurses := true, named := ["internal/bytealg.MaxLen"], apart := false }
def FnStarPlusSaid : Prop := fnStarPlusRow.holds Try.pinned (OpenSpec.ofChange fnStarPlusSpec)

/-- ITS FALSE NEIGHBOUR: 'it returns false'. Refute it at one input. -/
def fnStarPlusWrong : ChangeSpec := { name := "fnStarPlus", fn := fun _ => fun
  | [d] => { results := [.lit (.bool false)], args := [d] }
  | _ => none }
def FnStarPlusWrongFalsely : Prop := fnStarPlusRow.holds Try.pinned (OpenSpec.ofChange fnStarPlusWrong)

/-- 'laws.FnStarHas': WHATEVER THE INPUT: true; the input reads as it did. -/
def fnStarHasSpec : ChangeSpec := { name := "fnStarHas", fn := fun _ => fun
  | [d] => { results := [.lit (.bool true)], args := [d] }
  | _ => none }
def fnStarHasRow : OpenClaim := { program := "ytcacdgojibojgad", sum := "761f98584e5029c5d47f5807798bc2117d84100320d6f92ca5ae1d24ad5e5fa2", func := "loop.example/oneletter/laws.FnStarHas", spec := "fnStarHas", inPlace := ["internal/bytealg.IndexByteString", "internal/bytealg.IndexString", "internal/abi.NoEscape"], unfollowed := true, recurses := true, named := ["internal/bytealg.MaxLen"], apart := false }
def FnStarHasSaid : Prop := fnStarHasRow.holds Try.pinned (OpenSpec.ofChange fnStarHasSpec)

/-- ITS FALSE NEIGHBOUR: 'it returns false'. Refute it at one input. -/
def fnStarHasWrong : ChangeSpec := { name := "fnStarHas", fn := fun _ => fun
  | [d] => { results := [.lit (.bool false)], args := [d] }
  | _ => none }
def FnStarHasWrongFalsely : Prop := fnStarHasRow.holds Try.pinned (OpenSpec.ofChange fnStarHasWrong)

/-- 'laws.FnStarGap': WHATEVER THE INPUT: true; the input reads as it did. -/
def fnStarGapSpec : ChangeSpec := { name := "fnStarGap", fn := fun _ => fun
  | [d] => { results := [.lit (.bool true)], args := [d] }
  | _ => none }
def fnStarGapRow : OpenClaim := { program := "ytcacdgojibojgad", sum := "761f98584e5029c5d47f5807798bc2117d84100320d6f92ca5ae1d24ad5e5fa2", func := "loop.example/oneletter/laws.FnStarGap", spec := "fnStarGap", inPlace := ["internal/bytealg.IndexByteString", "internal/bytealg.IndexString", "internal/abi.NoEscape"], recurses := true, named := ["internal/bytealg.MaxLen"], apart := false }
def FnStarGapSaid : Prop := fnStarGapRow.holds Try.pinned (OpenSpec.ofChange fnStarGapSpec)

/-- ITS FALSE NEIGHBOUR: 'it returns false'. Refute it at one input. -/
def fnStarGapWrong : ChangeSpec := { name := "fnStarGap", fn := fun _ => fun
  | [d] => { results := [.lit (.bool false)], args := [d] }
  | _ => none }
def FnStarGapWrongFalsely : Prop := fnStarGapRow.holds Try.pinned (OpenSpec.ofChange fnStarGapWrong)

/-- 'laws.FnStarParts': WHATEVER THE INPUT: true; the input reads as it did. -/
def fnStarPartsSpec : ChangeSpec := { name := "fnStarParts", fn := fun _ => fun
  | [d] => { results := [.lit (.bool true)], args := [d] }
  | _ => none }
def fnStarPartsRow : OpenClaim := { program := "ytcacdgojibojgad", sum := "761f98584e5029c5d47f5807798bc2117d84100320d6f92ca5ae1d24ad5e5fa2", func := "loop.example/oneletter/laws.FnStarParts", spec := "fnStarParts", inPlace := ["internal/bytealg.IndexByteString", "internal/bytealg.IndexString", "internal/abi.NoEscape"], recurses := true, named := ["internal/bytealg.MaxLen"], apart := false }
def FnStarPartsSaid : Prop := fnStarPartsRow.holds Try.pinned (OpenSpec.ofChange fnStarPartsSpec)

/-- ITS FALSE NEIGHBOUR: 'it returns false'. Refute it at one input. -/
def fnStarPartsWrong : ChangeSpec := { name := "fnStarParts", fn := fun _ => fun
  | [d] => { results := [.lit (.bool false)], args := [d] }
  | _ => none }
def FnStarPartsWrongFalsely : Prop := fnStarPartsRow.holds Try.pinned (OpenSpec.ofChange fnStarPartsWrong)

/-- 'laws.FnSumEither': WHATEVER THE INPUT: true; the input reads as it did. -/
def fnSumEitherSpec : ChangeSpec := { name := "fnSumEither", fn := fun _ => fun
  | [d1, d2] => { results := [.lit (.bool true)], args := [d1, d2] }
  | _ => none }
def fnSumEitherRow : OpenClaim := { program := "ytcacdgojibojgad", sum := "761f98584e5029c5d47f5807798bc2117d84100320d6f92ca5ae1d24ad5e5fa2", func := "loop.example/oneletter/laws.FnSumEither", spec := "fnSumEither", inPlace := ["internal/bytealg.IndexByteString", "internal/bytealg.IndexString", "internal/abi.NoEscape"], unfollowed := true, recurses := true, named := ["internal/bytealg.MaxLen"], apart := false }
def FnSumEitherSaid : Prop := fnSumEitherRow.holds Try.pinned (OpenSpec.ofChange fnSumEitherSpec)

/-- ITS FALSE NEIGHBOUR: 'it returns false'. Refute it at one input. -/
def fnSumEitherWrong : ChangeSpec := { name := "fnSumEither", fn := fun _ => fun
  | [d1, d2] => { results := [.lit (.bool false)], args := [d1, d2] }
  | _ => none }
def FnSumEitherWrongFalsely : Prop := fnSumEitherRow.holds Try.pinned (OpenSpec.ofChange fnSumEitherWrong)

/-- 'laws.FnStarEither': WHATEVER THE INPUT: true; the input reads as it did. -/
def fnStarEitherSpec : ChangeSpec := { name := "fnStarEither", fn := fun _ => fun
  | [d] => { results := [.lit (.bool true)], args := [d] }
  | _ => none }
def fnStarEitherRow : OpenClaim := { program := "ytcacdgojibojgad", sum := "761f98584e5029c5d47f5807798bc2117d84100320d6f92ca5ae1d24ad5e5fa2", func := "loop.example/oneletter/laws.FnStarEither", spec := "fnStarEither", inPlace := ["internal/bytealg.IndexByteString", "internal/bytealg.IndexString", "internal/abi.NoEscape"], unfollowed := true, recurses := true, named := ["internal/bytealg.MaxLen"], apart := false }
def FnStarEitherSaid : Prop := fnStarEitherRow.holds Try.pinned (OpenSpec.ofChange fnStarEitherSpec)

/-- ITS FALSE NEIGHBOUR: 'it returns false'. Refute it at one input. -/
def fnStarEitherWrong : ChangeSpec := { name := "fnStarEither", fn := fun _ => fun
  | [d] => { results := [.lit (.bool false)], args := [d] }
  | _ => none }
def FnStarEitherWrongFalsely : Prop := fnStarEitherRow.holds Try.pinned (OpenSpec.ofChange fnStarEitherWrong)

/- THE SECOND FORM. 'bulk': how many values and letters a reading holds, each counted each time it is reached (what is shared counts as often as it is met; a slice's spare places count too). A statement '..UptoSaid' is the law's where the arguments, and the package variables that the reading takes, are together of bulk at most 1048576: NARROWER than '..Said'. Prove '..Said' where nothing that the law and all that it calls make is longer than what came in: it says more and counts as full. Else prove '..UptoSaid'. A law counts once. -/
mutual
def uptoBulk {H : Type} : DataW H → Nat
  | .lit (.string bytes) => bytes.length + 1
  | .lit _ => 1
  | .nil => 1
  | .ptr d => uptoBulk d + 1
  | .slice elems spare => uptoBulkAll elems + uptoBulkAll spare + 1
  | .agg parts => uptoBulkAll parts + 1
  | .iface _ d => uptoBulk d + 1
  | .map entries => uptoBulkEntries entries + 1
  | .held _ => 1
def uptoBulkAll {H : Type} : List (DataW H) → Nat
  | [] => 0
  | d :: r => uptoBulk d + uptoBulkAll r
def uptoBulkEntries {H : Type} : List (Lit × DataW H) → Nat
  | [] => 0
  | x :: r => uptoBulkEntry x + uptoBulkEntries r
def uptoBulkEntry {H : Type} : Lit × DataW H → Nat
  | (.string bytes, d) => bytes.length + uptoBulk d + 1
  | (_, d) => uptoBulk d + 1
 end
def uptoSmall : (H : Type) → List (DataW H) → Bool := fun _ ds => decide (uptoBulkAll ds ≤ 1048576)
def OpenSpec.upto (s : _root_.Go.ChangeSpec) : _root_.Go.OpenSpec := { _root_.Go.OpenSpec.ofChange s with cond := some uptoSmall }

/-- 'laws.FnSumOf', WHERE WHAT IT READS IS OF BULK AT MOST 1048576: true; the input reads as it did. -/
def fnSumOfUptoRow : OpenClaim := { program := "ytcacdgojibojgad", sum := "761f98584e5029c5d47f5807798bc2117d84100320d6f92ca5ae1d24ad5e5fa2", func := "loop.example/oneletter/laws.FnSumOf", spec := "fnSumOf", inPlace := ["internal/bytealg.IndexByteString", "internal/bytealg.IndexString", "internal/abi.NoEscape"], unfollowed := true, recurses := true, named := ["internal/bytealg.MaxLen"], apart := false, narrowed := true }
def FnSumOfUptoSaid : Prop := fnSumOfUptoRow.holds Try.pinned (OpenSpec.upto fnSumOfSpec)

/-- 'laws.FnSumTimes', WHERE WHAT IT READS IS OF BULK AT MOST 1048576: true; the input reads as it did. -/
def fnSumTimesUptoRow : OpenClaim := { program := "ytcacdgojibojgad", sum := "761f98584e5029c5d47f5807798bc2117d84100320d6f92ca5ae1d24ad5e5fa2", func := "loop.example/oneletter/laws.FnSumTimes", spec := "fnSumTimes", inPlace := ["internal/bytealg.IndexByteString", "internal/bytealg.IndexString", "internal/abi.NoEscape"], unfollowed := true, recurses := true, named := ["internal/bytealg.MaxLen"], apart := false, narrowed := true }
def FnSumTimesUptoSaid : Prop := fnSumTimesUptoRow.holds Try.pinned (OpenSpec.upto fnSumTimesSpec)

/-- 'laws.FnStarOf', WHERE WHAT IT READS IS OF BULK AT MOST 1048576: true; the input reads as it did. -/
def fnStarOfUptoRow : OpenClaim := { program := "ytcacdgojibojgad", sum := "761f98584e5029c5d47f5807798bc2117d84100320d6f92ca5ae1d24ad5e5fa2", func := "loop.example/oneletter/laws.FnStarOf", spec := "fnStarOf", inPlace := ["internal/bytealg.IndexByteString", "internal/bytealg.IndexString", "internal/abi.NoEscape"], unfollowed := true, recurses := true, named := ["internal/bytealg.MaxLen"], apart := false, narrowed := true }
def FnStarOfUptoSaid : Prop := fnStarOfUptoRow.holds Try.pinned (OpenSpec.upto fnStarOfSpec)

/-- 'laws.FnStarPlus', WHERE WHAT IT READS IS OF BULK AT MOST 1048576: true; the input reads as it did. -/
def fnStarPlusUptoRow : OpenClaim := { program := "ytcacdgojibojgad", sum := "761f98584e5029c5d47f5807798bc2117d84100320d6f92ca5ae1d24ad5e5fa2", func := "loop.example/oneletter/laws.FnStarPlus", spec := "fnStarPlus", inPlace := ["internal/bytealg.IndexByteString", "internal/bytealg.IndexString", "internal/abi.NoEscape"], unfollowed := true, recurses := true, named := ["internal/bytealg.MaxLen"], apart := false, narrowed := true }
def FnStarPlusUptoSaid : Prop := fnStarPlusUptoRow.holds Try.pinned (OpenSpec.upto fnStarPlusSpec)

/-- 'laws.FnStarHas', WHERE WHAT IT READS IS OF BULK AT MOST 1048576: true; the input reads as it did. -/
def fnStarHasUptoRow : OpenClaim := { program := "ytcacdgojibojgad", sum := "761f98584e5029c5d47f5807798bc2117d84100320d6f92ca5ae1d24ad5e5fa2", func := "loop.example/oneletter/laws.FnStarHas", spec := "fnStarHas", inPlace := ["internal/bytealg.IndexByteString", "internal/bytealg.IndexString", "internal/abi.NoEscape"], unfollowed := true, recurses := true, named := ["internal/bytealg.MaxLen"], apart := false, narrowed := true }
def FnStarHasUptoSaid : Prop := fnStarHasUptoRow.holds Try.pinned (OpenSpec.upto fnStarHasSpec)

/-- 'laws.FnStarGap', WHERE WHAT IT READS IS OF BULK AT MOST 1048576: true; the input reads as it did. -/
def fnStarGapUptoRow : OpenClaim := { program := "ytcacdgojibojgad", sum := "761f98584e5029c5d47f5807798bc2117d84100320d6f92ca5ae1d24ad5e5fa2", func := "loop.example/oneletter/laws.FnStarGap", spec := "fnStarGap", inPlace := ["internal/bytealg.IndexByteString", "internal/bytealg.IndexString", "internal/abi.NoEscape"], recurses := true, named := ["internal/bytealg.MaxLen"], apart := false, narrowed := true }
def FnStarGapUptoSaid : Prop := fnStarGapUptoRow.holds Try.pinned (OpenSpec.upto fnStarGapSpec)

/-- 'laws.FnStarParts', WHERE WHAT IT READS IS OF BULK AT MOST 1048576: true; the input reads as it did. -/
def fnStarPartsUptoRow : OpenClaim := { program := "ytcacdgojibojgad", sum := "761f98584e5029c5d47f5807798bc2117d84100320d6f92ca5ae1d24ad5e5fa2", func := "loop.example/oneletter/laws.FnStarParts", spec := "fnStarParts", inPlace := ["internal/bytealg.IndexByteString", "internal/bytealg.IndexString", "internal/abi.NoEscape"], recurses := true, named := ["internal/bytealg.MaxLen"], apart := false, narrowed := true }
def FnStarPartsUptoSaid : Prop := fnStarPartsUptoRow.holds Try.pinned (OpenSpec.upto fnStarPartsSpec)

/-- 'laws.FnSumEither', WHERE WHAT IT READS IS OF BULK AT MOST 1048576: true; the input reads as it did. -/
def fnSumEitherUptoRow : OpenClaim := { program := "ytcacdgojibojgad", sum := "761f98584e5029c5d47f5807798bc2117d84100320d6f92ca5ae1d24ad5e5fa2", func := "loop.example/oneletter/laws.FnSumEither", spec := "fnSumEither", inPlace := ["internal/bytealg.IndexByteString", "internal/bytealg.IndexString", "internal/abi.NoEscape"], unfollowed := true, recurses := true, named := ["internal/bytealg.MaxLen"], apart := false, narrowed := true }
def FnSumEitherUptoSaid : Prop := fnSumEitherUptoRow.holds Try.pinned (OpenSpec.upto fnSumEitherSpec)

/-- 'laws.FnStarEither', WHERE WHAT IT READS IS OF BULK AT MOST 1048576: true; the input reads as it did. -/
def fnStarEitherUptoRow : OpenClaim := { program := "ytcacdgojibojgad", sum := "761f98584e5029c5d47f5807798bc2117d84100320d6f92ca5ae1d24ad5e5fa2", func := "loop.example/oneletter/laws.FnStarEither", spec := "fnStarEither", inPlace := ["internal/bytealg.IndexByteString", "internal/bytealg.IndexString", "internal/abi.NoEscape"], unfollowed := true, recurses := true, named := ["internal/bytealg.MaxLen"], apart := false, narrowed := true }
def FnStarEitherUptoSaid : Prop := fnStarEitherUptoRow.holds Try.pinned (OpenSpec.upto fnStarEitherSpec)

end Rows
end Go.Proofs.Ytcacdgojibojgad
