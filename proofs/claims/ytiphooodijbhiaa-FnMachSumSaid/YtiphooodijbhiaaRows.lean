/-
  No cell of these rows narrows 'for every input' (looked for: loops, veiled, ifaces, maps, wideKeys, modest, calm, conditions, laid).
  DERIVED. THE GIVEN ROWS OF THIS SEAT. 12 by the template 'for every input the law returns true; each argument reads behind the call as it read before'; 0 by the template 'total and deterministic' (their statements: YtiphooodijbhiaaTotals.lean).
  GIVEN WITH THE SEED: the statements are not yours to turn. If you find one false, say at which input.
  Laid BY PROGRAM, IN A SANDBOX (cutbox-rows.mjs): the forced cells as the released guide's own fill.sh prints them over the translation 2c89b394b4927848… (all of the seat's roots in one cut). By AI agents, Wed Nov 11 2026. No macro, syntax, notation, axiom, sorry.
-/
import Derived.Test.YtiphooodijbhiaaChecked
import GoSem.Claim
import GoSem.ClaimJoined
import GoSem.ClaimMapViews
import Derived.JoinedTies
import Derived.KernelRfl
namespace Go.Proofs.Ytiphooodijbhiaa
/- THE CELL 'sum', in the pinned program and in every row, IS THE sha256 OF THE DUMP (.gsa) THAT YtiphooodijbhiaaProg.lean LOADS. Nothing in Lean hashes anything: it is a label: what it is worth is what the hold of that sum in a sandbox is worth. -/
noncomputable def Try.pinned : Pinned := { name := "ytiphooodijbhiaa", sum := "2c89b394b49278481fe97011d35dd4a5cf62e0d596d596a1b681e087d6a37618", checked := Try.checked }
namespace Rows
def none {H : Type} : Left H := { results := [], args := [] }

/-- 'laws.FnMachTakes': WHATEVER THE INPUT: true; the input reads as it did. -/
def fnMachTakesSpec : ChangeSpec := { name := "fnMachTakes", fn := fun _ => fun
  | [d] => { results := [.lit (.bool true)], args := [d] }
  | _ => none }
def fnMachTakesRow : OpenClaim := { program := "ytiphooodijbhiaa", sum := "2c89b394b49278481fe97011d35dd4a5cf62e0d596d596a1b681e087d6a37618", func := "loop.example/oneletter/laws.FnMachTakes", spec := "fnMachTakes", plainKeys := false, apart := false }
def FnMachTakesSaid : Prop := fnMachTakesRow.holds Try.pinned (OpenSpec.ofChange fnMachTakesSpec)

/-- ITS FALSE NEIGHBOUR: 'it returns false'. Refute it at one input. -/
def fnMachTakesWrong : ChangeSpec := { name := "fnMachTakes", fn := fun _ => fun
  | [d] => { results := [.lit (.bool false)], args := [d] }
  | _ => none }
def FnMachTakesWrongFalsely : Prop := fnMachTakesRow.holds Try.pinned (OpenSpec.ofChange fnMachTakesWrong)

/-- 'laws.FnMachAt': WHATEVER THE INPUT: true; the input reads as it did. -/
def fnMachAtSpec : ChangeSpec := { name := "fnMachAt", fn := fun _ => fun
  | [d] => { results := [.lit (.bool true)], args := [d] }
  | _ => none }
def fnMachAtRow : OpenClaim := { program := "ytiphooodijbhiaa", sum := "2c89b394b49278481fe97011d35dd4a5cf62e0d596d596a1b681e087d6a37618", func := "loop.example/oneletter/laws.FnMachAt", spec := "fnMachAt", plainKeys := false, apart := false }
def FnMachAtSaid : Prop := fnMachAtRow.holds Try.pinned (OpenSpec.ofChange fnMachAtSpec)

/-- ITS FALSE NEIGHBOUR: 'it returns false'. Refute it at one input. -/
def fnMachAtWrong : ChangeSpec := { name := "fnMachAt", fn := fun _ => fun
  | [d] => { results := [.lit (.bool false)], args := [d] }
  | _ => none }
def FnMachAtWrongFalsely : Prop := fnMachAtRow.holds Try.pinned (OpenSpec.ofChange fnMachAtWrong)

/-- 'laws.FnMachOf': WHATEVER THE INPUT: true; the input reads as it did. -/
def fnMachOfSpec : ChangeSpec := { name := "fnMachOf", fn := fun _ => fun
  | [d] => { results := [.lit (.bool true)], args := [d] }
  | _ => none }
def fnMachOfRow : OpenClaim := { program := "ytiphooodijbhiaa", sum := "2c89b394b49278481fe97011d35dd4a5cf62e0d596d596a1b681e087d6a37618", func := "loop.example/oneletter/laws.FnMachOf", spec := "fnMachOf", inPlace := ["internal/bytealg.IndexByteString", "internal/bytealg.IndexString", "internal/abi.NoEscape"], unfollowed := true, recurses := true, named := ["internal/bytealg.MaxLen"], plainKeys := false, apart := false }
def FnMachOfSaid : Prop := fnMachOfRow.holds Try.pinned (OpenSpec.ofChange fnMachOfSpec)

/-- ITS FALSE NEIGHBOUR: 'it returns false'. Refute it at one input. -/
def fnMachOfWrong : ChangeSpec := { name := "fnMachOf", fn := fun _ => fun
  | [d] => { results := [.lit (.bool false)], args := [d] }
  | _ => none }
def FnMachOfWrongFalsely : Prop := fnMachOfRow.holds Try.pinned (OpenSpec.ofChange fnMachOfWrong)

/-- 'laws.FnMachBoth': WHATEVER THE INPUT: true; the input reads as it did. -/
def fnMachBothSpec : ChangeSpec := { name := "fnMachBoth", fn := fun _ => fun
  | [d] => { results := [.lit (.bool true)], args := [d] }
  | _ => none }
def fnMachBothRow : OpenClaim := { program := "ytiphooodijbhiaa", sum := "2c89b394b49278481fe97011d35dd4a5cf62e0d596d596a1b681e087d6a37618", func := "loop.example/oneletter/laws.FnMachBoth", spec := "fnMachBoth", plainKeys := false, apart := false }
def FnMachBothSaid : Prop := fnMachBothRow.holds Try.pinned (OpenSpec.ofChange fnMachBothSpec)

/-- ITS FALSE NEIGHBOUR: 'it returns false'. Refute it at one input. -/
def fnMachBothWrong : ChangeSpec := { name := "fnMachBoth", fn := fun _ => fun
  | [d] => { results := [.lit (.bool false)], args := [d] }
  | _ => none }
def FnMachBothWrongFalsely : Prop := fnMachBothRow.holds Try.pinned (OpenSpec.ofChange fnMachBothWrong)

/-- 'laws.FnMachSum': WHATEVER THE INPUT: true; the input reads as it did. -/
def fnMachSumSpec : ChangeSpec := { name := "fnMachSum", fn := fun _ => fun
  | [d] => { results := [.lit (.bool true)], args := [d] }
  | _ => none }
def fnMachSumRow : OpenClaim := { program := "ytiphooodijbhiaa", sum := "2c89b394b49278481fe97011d35dd4a5cf62e0d596d596a1b681e087d6a37618", func := "loop.example/oneletter/laws.FnMachSum", spec := "fnMachSum", inPlace := ["internal/abi.NoEscape", "internal/bytealg.IndexByteString", "internal/bytealg.IndexString"], unfollowed := true, recurses := true, named := ["internal/bytealg.MaxLen"], plainKeys := false, apart := false }
def FnMachSumSaid : Prop := fnMachSumRow.holds Try.pinned (OpenSpec.ofChange fnMachSumSpec)

/-- ITS FALSE NEIGHBOUR: 'it returns false'. Refute it at one input. -/
def fnMachSumWrong : ChangeSpec := { name := "fnMachSum", fn := fun _ => fun
  | [d] => { results := [.lit (.bool false)], args := [d] }
  | _ => none }
def FnMachSumWrongFalsely : Prop := fnMachSumRow.holds Try.pinned (OpenSpec.ofChange fnMachSumWrong)

/-- 'laws.FnTermIn': WHATEVER THE INPUT: true; the input reads as it did. -/
def fnTermInSpec : ChangeSpec := { name := "fnTermIn", fn := fun _ => fun
  | [d] => { results := [.lit (.bool true)], args := [d] }
  | _ => none }
def fnTermInRow : OpenClaim := { program := "ytiphooodijbhiaa", sum := "2c89b394b49278481fe97011d35dd4a5cf62e0d596d596a1b681e087d6a37618", func := "loop.example/oneletter/laws.FnTermIn", spec := "fnTermIn", inPlace := ["internal/bytealg.CountString", "internal/bytealg.IndexByteString", "internal/bytealg.IndexString"], recurses := true, named := ["internal/bytealg.MaxLen"], plainKeys := false, apart := false }
def FnTermInSaid : Prop := fnTermInRow.holds Try.pinned (OpenSpec.ofChange fnTermInSpec)

/-- ITS FALSE NEIGHBOUR: 'it returns false'. Refute it at one input. -/
def fnTermInWrong : ChangeSpec := { name := "fnTermIn", fn := fun _ => fun
  | [d] => { results := [.lit (.bool false)], args := [d] }
  | _ => none }
def FnTermInWrongFalsely : Prop := fnTermInRow.holds Try.pinned (OpenSpec.ofChange fnTermInWrong)

/-- 'laws.FnTermHas': WHATEVER THE INPUT: true; the input reads as it did. -/
def fnTermHasSpec : ChangeSpec := { name := "fnTermHas", fn := fun _ => fun
  | [d] => { results := [.lit (.bool true)], args := [d] }
  | _ => none }
def fnTermHasRow : OpenClaim := { program := "ytiphooodijbhiaa", sum := "2c89b394b49278481fe97011d35dd4a5cf62e0d596d596a1b681e087d6a37618", func := "loop.example/oneletter/laws.FnTermHas", spec := "fnTermHas", inPlace := ["internal/bytealg.IndexByteString", "internal/bytealg.IndexString"], unfollowed := true, recurses := true, named := ["internal/bytealg.MaxLen"], plainKeys := false, apart := false }
def FnTermHasSaid : Prop := fnTermHasRow.holds Try.pinned (OpenSpec.ofChange fnTermHasSpec)

/-- ITS FALSE NEIGHBOUR: 'it returns false'. Refute it at one input. -/
def fnTermHasWrong : ChangeSpec := { name := "fnTermHas", fn := fun _ => fun
  | [d] => { results := [.lit (.bool false)], args := [d] }
  | _ => none }
def FnTermHasWrongFalsely : Prop := fnTermHasRow.holds Try.pinned (OpenSpec.ofChange fnTermHasWrong)

/-- 'laws.FnTermList': WHATEVER THE INPUT: true; the input reads as it did. -/
def fnTermListSpec : ChangeSpec := { name := "fnTermList", fn := fun _ => fun
  | [d] => { results := [.lit (.bool true)], args := [d] }
  | _ => none }
def fnTermListRow : OpenClaim := { program := "ytiphooodijbhiaa", sum := "2c89b394b49278481fe97011d35dd4a5cf62e0d596d596a1b681e087d6a37618", func := "loop.example/oneletter/laws.FnTermList", spec := "fnTermList", unfollowed := true, recurses := true, plainKeys := false, apart := false }
def FnTermListSaid : Prop := fnTermListRow.holds Try.pinned (OpenSpec.ofChange fnTermListSpec)

/-- ITS FALSE NEIGHBOUR: 'it returns false'. Refute it at one input. -/
def fnTermListWrong : ChangeSpec := { name := "fnTermList", fn := fun _ => fun
  | [d] => { results := [.lit (.bool false)], args := [d] }
  | _ => none }
def FnTermListWrongFalsely : Prop := fnTermListRow.holds Try.pinned (OpenSpec.ofChange fnTermListWrong)

/-- 'laws.FnTermSet': WHATEVER THE INPUT: true; the input reads as it did. -/
def fnTermSetSpec : ChangeSpec := { name := "fnTermSet", fn := fun _ => fun
  | [d] => { results := [.lit (.bool true)], args := [d] }
  | _ => none }
def fnTermSetRow : OpenClaim := { program := "ytiphooodijbhiaa", sum := "2c89b394b49278481fe97011d35dd4a5cf62e0d596d596a1b681e087d6a37618", func := "loop.example/oneletter/laws.FnTermSet", spec := "fnTermSet", inPlace := ["internal/bytealg.IndexByteString", "internal/bytealg.IndexString", "internal/abi.NoEscape"], unfollowed := true, recurses := true, named := ["internal/bytealg.MaxLen"], plainKeys := false, apart := false }
def FnTermSetSaid : Prop := fnTermSetRow.holds Try.pinned (OpenSpec.ofChange fnTermSetSpec)

/-- ITS FALSE NEIGHBOUR: 'it returns false'. Refute it at one input. -/
def fnTermSetWrong : ChangeSpec := { name := "fnTermSet", fn := fun _ => fun
  | [d] => { results := [.lit (.bool false)], args := [d] }
  | _ => none }
def FnTermSetWrongFalsely : Prop := fnTermSetRow.holds Try.pinned (OpenSpec.ofChange fnTermSetWrong)

/-- 'laws.FnTermTidy': WHATEVER THE INPUT: true; the input reads as it did. -/
def fnTermTidySpec : ChangeSpec := { name := "fnTermTidy", fn := fun _ => fun
  | [d] => { results := [.lit (.bool true)], args := [d] }
  | _ => none }
def fnTermTidyRow : OpenClaim := { program := "ytiphooodijbhiaa", sum := "2c89b394b49278481fe97011d35dd4a5cf62e0d596d596a1b681e087d6a37618", func := "loop.example/oneletter/laws.FnTermTidy", spec := "fnTermTidy", inPlace := ["internal/bytealg.CountString", "internal/bytealg.IndexByteString", "internal/bytealg.IndexString"], unfollowed := true, recurses := true, named := ["internal/bytealg.MaxLen"], plainKeys := false, apart := false }
def FnTermTidySaid : Prop := fnTermTidyRow.holds Try.pinned (OpenSpec.ofChange fnTermTidySpec)

/-- ITS FALSE NEIGHBOUR: 'it returns false'. Refute it at one input. -/
def fnTermTidyWrong : ChangeSpec := { name := "fnTermTidy", fn := fun _ => fun
  | [d] => { results := [.lit (.bool false)], args := [d] }
  | _ => none }
def FnTermTidyWrongFalsely : Prop := fnTermTidyRow.holds Try.pinned (OpenSpec.ofChange fnTermTidyWrong)

/-- 'laws.FnTermSame': WHATEVER THE INPUT: true; the input reads as it did. -/
def fnTermSameSpec : ChangeSpec := { name := "fnTermSame", fn := fun _ => fun
  | [d] => { results := [.lit (.bool true)], args := [d] }
  | _ => none }
def fnTermSameRow : OpenClaim := { program := "ytiphooodijbhiaa", sum := "2c89b394b49278481fe97011d35dd4a5cf62e0d596d596a1b681e087d6a37618", func := "loop.example/oneletter/laws.FnTermSame", spec := "fnTermSame", unfollowed := true, recurses := true, plainKeys := false, apart := false }
def FnTermSameSaid : Prop := fnTermSameRow.holds Try.pinned (OpenSpec.ofChange fnTermSameSpec)

/-- ITS FALSE NEIGHBOUR: 'it returns false'. Refute it at one input. -/
def fnTermSameWrong : ChangeSpec := { name := "fnTermSame", fn := fun _ => fun
  | [d] => { results := [.lit (.bool false)], args := [d] }
  | _ => none }
def FnTermSameWrongFalsely : Prop := fnTermSameRow.holds Try.pinned (OpenSpec.ofChange fnTermSameWrong)

/-- 'laws.FnTermSize': WHATEVER THE INPUT: true; the input reads as it did. -/
def fnTermSizeSpec : ChangeSpec := { name := "fnTermSize", fn := fun _ => fun
  | [d] => { results := [.lit (.bool true)], args := [d] }
  | _ => none }
def fnTermSizeRow : OpenClaim := { program := "ytiphooodijbhiaa", sum := "2c89b394b49278481fe97011d35dd4a5cf62e0d596d596a1b681e087d6a37618", func := "loop.example/oneletter/laws.FnTermSize", spec := "fnTermSize", inPlace := ["internal/bytealg.CountString", "internal/bytealg.IndexByteString", "internal/bytealg.IndexString"], recurses := true, named := ["internal/bytealg.MaxLen"], plainKeys := false, apart := false }
def FnTermSizeSaid : Prop := fnTermSizeRow.holds Try.pinned (OpenSpec.ofChange fnTermSizeSpec)

/-- ITS FALSE NEIGHBOUR: 'it returns false'. Refute it at one input. -/
def fnTermSizeWrong : ChangeSpec := { name := "fnTermSize", fn := fun _ => fun
  | [d] => { results := [.lit (.bool false)], args := [d] }
  | _ => none }
def FnTermSizeWrongFalsely : Prop := fnTermSizeRow.holds Try.pinned (OpenSpec.ofChange fnTermSizeWrong)

/- THE SECOND FORM. 'bulk': how many values and letters a reading holds, each counted each time it is reached (what is shared counts as often as it is met; a slice's spare places count too). A statement '..UptoSaid' is the law's where the arguments, and the package variables that the reading takes, are together of bulk at most 1048576: NARROWER than '..Said'. Prove '..Said' where nothing that the law and all that it calls make is longer than what came in: it says more and counts as full. Else prove '..UptoSaid'. A law counts once. -/
mutual
def uptoBulk {H : Type} : DataW H → Nat
  | .lit (.string bytes) => bytes.length + 1
  | .lit _ => 1
  | .nil => 1
  | .ptr d => uptoBulk d + 1
  | .slice elems spare => uptoBulkAll elems + uptoBulkAll spare + 1
  | .agg parts => uptoBulkAll parts + 1
  | .iface _ d => uptoBulk d + 1
  | .map entries => uptoBulkEntries entries + 1
  | .held _ => 1
def uptoBulkAll {H : Type} : List (DataW H) → Nat
  | [] => 0
  | d :: r => uptoBulk d + uptoBulkAll r
def uptoBulkEntries {H : Type} : List (Lit × DataW H) → Nat
  | [] => 0
  | x :: r => uptoBulkEntry x + uptoBulkEntries r
def uptoBulkEntry {H : Type} : Lit × DataW H → Nat
  | (.string bytes, d) => bytes.length + uptoBulk d + 1
  | (_, d) => uptoBulk d + 1
 end
def uptoSmall : (H : Type) → List (DataW H) → Bool := fun _ ds => decide (uptoBulkAll ds ≤ 1048576)
def OpenSpec.upto (s : _root_.Go.ChangeSpec) : _root_.Go.OpenSpec := { _root_.Go.OpenSpec.ofChange s with cond := some uptoSmall }

/-- 'laws.FnMachTakes', WHERE WHAT IT READS IS OF BULK AT MOST 1048576: true; the input reads as it did. -/
def fnMachTakesUptoRow : OpenClaim := { program := "ytiphooodijbhiaa", sum := "2c89b394b49278481fe97011d35dd4a5cf62e0d596d596a1b681e087d6a37618", func := "loop.example/oneletter/laws.FnMachTakes", spec := "fnMachTakes", plainKeys := false, apart := false, narrowed := true }
def FnMachTakesUptoSaid : Prop := fnMachTakesUptoRow.holds Try.pinned (OpenSpec.upto fnMachTakesSpec)

/-- 'laws.FnMachAt', WHERE WHAT IT READS IS OF BULK AT MOST 1048576: true; the input reads as it did. -/
def fnMachAtUptoRow : OpenClaim := { program := "ytiphooodijbhiaa", sum := "2c89b394b49278481fe97011d35dd4a5cf62e0d596d596a1b681e087d6a37618", func := "loop.example/oneletter/laws.FnMachAt", spec := "fnMachAt", plainKeys := false, apart := false, narrowed := true }
def FnMachAtUptoSaid : Prop := fnMachAtUptoRow.holds Try.pinned (OpenSpec.upto fnMachAtSpec)

/-- 'laws.FnMachOf', WHERE WHAT IT READS IS OF BULK AT MOST 1048576: true; the input reads as it did. -/
def fnMachOfUptoRow : OpenClaim := { program := "ytiphooodijbhiaa", sum := "2c89b394b49278481fe97011d35dd4a5cf62e0d596d596a1b681e087d6a37618", func := "loop.example/oneletter/laws.FnMachOf", spec := "fnMachOf", inPlace := ["internal/bytealg.IndexByteString", "internal/bytealg.IndexString", "internal/abi.NoEscape"], unfollowed := true, recurses := true, named := ["internal/bytealg.MaxLen"], plainKeys := false, apart := false, narrowed := true }
def FnMachOfUptoSaid : Prop := fnMachOfUptoRow.holds Try.pinned (OpenSpec.upto fnMachOfSpec)

/-- 'laws.FnMachBoth', WHERE WHAT IT READS IS OF BULK AT MOST 1048576: true; the input reads as it did. -/
def fnMachBothUptoRow : OpenClaim := { program := "ytiphooodijbhiaa", sum := "2c89b394b49278481fe97011d35dd4a5cf62e0d596d596a1b681e087d6a37618", func := "loop.example/oneletter/laws.FnMachBoth", spec := "fnMachBoth", plainKeys := false, apart := false, narrowed := true }
def FnMachBothUptoSaid : Prop := fnMachBothUptoRow.holds Try.pinned (OpenSpec.upto fnMachBothSpec)

/-- 'laws.FnMachSum', WHERE WHAT IT READS IS OF BULK AT MOST 1048576: true; the input reads as it did. -/
def fnMachSumUptoRow : OpenClaim := { program := "ytiphooodijbhiaa", sum := "2c89b394b49278481fe97011d35dd4a5cf62e0d596d596a1b681e087d6a37618", func := "loop.example/oneletter/laws.FnMachSum", spec := "fnMachSum", inPlace := ["internal/abi.NoEscape", "internal/bytealg.IndexByteString", "internal/bytealg.IndexString"], unfollowed := true, recurses := true, named := ["internal/bytealg.MaxLen"], plainKeys := false, apart := false, narrowed := true }
def FnMachSumUptoSaid : Prop := fnMachSumUptoRow.holds Try.pinned (OpenSpec.upto fnMachSumSpec)

/-- 'laws.FnTermIn', WHERE WHAT IT READS IS OF BULK AT MOST 1048576: true; the input reads as it did. -/
def fnTermInUptoRow : OpenClaim := { program := "ytiphooodijbhiaa", sum := "2c89b394b49278481fe97011d35dd4a5cf62e0d596d596a1b681e087d6a37618", func := "loop.example/oneletter/laws.FnTermIn", spec := "fnTermIn", inPlace := ["internal/bytealg.CountString", "internal/bytealg.IndexByteString", "internal/bytealg.IndexString"], recurses := true, named := ["internal/bytealg.MaxLen"], plainKeys := false, apart := false, narrowed := true }
def FnTermInUptoSaid : Prop := fnTermInUptoRow.holds Try.pinned (OpenSpec.upto fnTermInSpec)

/-- 'laws.FnTermHas', WHERE WHAT IT READS IS OF BULK AT MOST 1048576: true; the input reads as it did. -/
def fnTermHasUptoRow : OpenClaim := { program := "ytiphooodijbhiaa", sum := "2c89b394b49278481fe97011d35dd4a5cf62e0d596d596a1b681e087d6a37618", func := "loop.example/oneletter/laws.FnTermHas", spec := "fnTermHas", inPlace := ["internal/bytealg.IndexByteString", "internal/bytealg.IndexString"], unfollowed := true, recurses := true, named := ["internal/bytealg.MaxLen"], plainKeys := false, apart := false, narrowed := true }
def FnTermHasUptoSaid : Prop := fnTermHasUptoRow.holds Try.pinned (OpenSpec.upto fnTermHasSpec)

/-- 'laws.FnTermList', WHERE WHAT IT READS IS OF BULK AT MOST 1048576: true; the input reads as it did. -/
def fnTermListUptoRow : OpenClaim := { program := "ytiphooodijbhiaa", sum := "2c89b394b49278481fe97011d35dd4a5cf62e0d596d596a1b681e087d6a37618", func := "loop.example/oneletter/laws.FnTermList", spec := "fnTermList", unfollowed := true, recurses := true, plainKeys := false, apart := false, narrowed := true }
def FnTermListUptoSaid : Prop := fnTermListUptoRow.holds Try.pinned (OpenSpec.upto fnTermListSpec)

/-- 'laws.FnTermSet', WHERE WHAT IT READS IS OF BULK AT MOST 1048576: true; the input reads as it did. -/
def fnTermSetUptoRow : OpenClaim := { program := "ytiphooodijbhiaa", sum := "2c89b394b49278481fe97011d35dd4a5cf62e0d596d596a1b681e087d6a37618", func := "loop.example/oneletter/laws.FnTermSet", spec := "fnTermSet", inPlace := ["internal/bytealg.IndexByteString", "internal/bytealg.IndexString", "internal/abi.NoEscape"], unfollowed := true, recurses := true, named := ["internal/bytealg.MaxLen"], plainKeys := false, apart := false, narrowed := true }
def FnTermSetUptoSaid : Prop := fnTermSetUptoRow.holds Try.pinned (OpenSpec.upto fnTermSetSpec)

/-- 'laws.FnTermTidy', WHERE WHAT IT READS IS OF BULK AT MOST 1048576: true; the input reads as it did. -/
def fnTermTidyUptoRow : OpenClaim := { program := "ytiphooodijbhiaa", sum := "2c89b394b49278481fe97011d35dd4a5cf62e0d596d596a1b681e087d6a37618", func := "loop.example/oneletter/laws.FnTermTidy", spec := "fnTermTidy", inPlace := ["internal/bytealg.CountString", "internal/bytealg.IndexByteString", "internal/bytealg.IndexString"], unfollowed := true, recurses := true, named := ["internal/bytealg.MaxLen"], plainKeys := false, apart := false, narrowed := true }
def FnTermTidyUptoSaid : Prop := fnTermTidyUptoRow.holds Try.pinned (OpenSpec.upto fnTermTidySpec)

/-- 'laws.FnTermSame', WHERE WHAT IT READS IS OF BULK AT MOST 1048576: true; the input reads as it did. -/
def fnTermSameUptoRow : OpenClaim := { program := "ytiphooodijbhiaa", sum := "2c89b394b49278481fe97011d35dd4a5cf62e0d596d596a1b681e087d6a37618", func := "loop.example/oneletter/laws.FnTermSame", spec := "fnTermSame", unfollowed := true, recurses := true, plainKeys := false, apart := false, narrowed := true }
def FnTermSameUptoSaid : Prop := fnTermSameUptoRow.holds Try.pinned (OpenSpec.upto fnTermSameSpec)

/-- 'laws.FnTermSize', WHERE WHAT IT READS IS OF BULK AT MOST 1048576: true; the input reads as it did. -/
def fnTermSizeUptoRow : OpenClaim := { program := "ytiphooodijbhiaa", sum := "2c89b394b49278481fe97011d35dd4a5cf62e0d596d596a1b681e087d6a37618", func := "loop.example/oneletter/laws.FnTermSize", spec := "fnTermSize", inPlace := ["internal/bytealg.CountString", "internal/bytealg.IndexByteString", "internal/bytealg.IndexString"], recurses := true, named := ["internal/bytealg.MaxLen"], plainKeys := false, apart := false, narrowed := true }
def FnTermSizeUptoSaid : Prop := fnTermSizeUptoRow.holds Try.pinned (OpenSpec.upto fnTermSizeSpec)

end Rows
end Go.Proofs.Ytiphooodijbhiaa
