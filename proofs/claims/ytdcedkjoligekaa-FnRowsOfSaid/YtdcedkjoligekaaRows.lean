/-
  No cell of these rows narrows 'for every input' (looked for: loops, veiled, ifaces, maps, wideKeys, modest, calm, conditions, laid).
  DERIVED. THE GIVEN ROWS OF THIS SEAT. 12 by the template 'for every input the law returns true; each argument reads behind the call as it read before'; 0 by the template 'total and deterministic' (their statements: YtdcedkjoligekaaTotals.lean).
  GIVEN WITH THE SEED: the statements are not yours to turn. If you find one false, say at which input.
  Laid BY PROGRAM, IN A SANDBOX (cutbox-rows.mjs): the forced cells as the released guide's own fill.sh prints them over the translation c16dbd18d5eb30fd… (all of the seat's roots in one cut). By AI agents, Wed Nov 11 2026. No macro, syntax, notation, axiom, sorry.
-/
import Derived.Test.YtdcedkjoligekaaChecked
import GoSem.Claim
import GoSem.ClaimJoined
import GoSem.ClaimMapViews
import Derived.JoinedTies
import Derived.KernelRfl
namespace Go.Proofs.Ytdcedkjoligekaa
/- THE CELL 'sum', in the pinned program and in every row, IS THE sha256 OF THE DUMP (.gsa) THAT YtdcedkjoligekaaProg.lean LOADS. Nothing in Lean hashes anything: it is a label: what it is worth is what the hold of that sum in a sandbox is worth. -/
noncomputable def Try.pinned : Pinned := { name := "ytdcedkjoligekaa", sum := "c16dbd18d5eb30fd15fb7d67085f250a46bc89777d92104034862db27d91029f", checked := Try.checked }
namespace Rows
def none {H : Type} : Left H := { results := [], args := [] }

/-- 'laws.FnRowsIn': WHATEVER THE INPUT: true; the input reads as it did. -/
def fnRowsInSpec : ChangeSpec := { name := "fnRowsIn", fn := fun _ => fun
  | [d] => { results := [.lit (.bool true)], args := [d] }
  | _ => none }
def fnRowsInRow : OpenClaim := { program := "ytdcedkjoligekaa", sum := "c16dbd18d5eb30fd15fb7d67085f250a46bc89777d92104034862db27d91029f", func := "loop.example/oneletter/laws.FnRowsIn", spec := "fnRowsIn", apart := false }
def FnRowsInSaid : Prop := fnRowsInRow.holds Try.pinned (OpenSpec.ofChange fnRowsInSpec)

/-- ITS FALSE NEIGHBOUR: 'it returns false'. Refute it at one input. -/
def fnRowsInWrong : ChangeSpec := { name := "fnRowsIn", fn := fun _ => fun
  | [d] => { results := [.lit (.bool false)], args := [d] }
  | _ => none }
def FnRowsInWrongFalsely : Prop := fnRowsInRow.holds Try.pinned (OpenSpec.ofChange fnRowsInWrong)

/-- 'laws.FnRowsSet': WHATEVER THE INPUT: true; the input reads as it did. -/
def fnRowsSetSpec : ChangeSpec := { name := "fnRowsSet", fn := fun _ => fun
  | [d] => { results := [.lit (.bool true)], args := [d] }
  | _ => none }
def fnRowsSetRow : OpenClaim := { program := "ytdcedkjoligekaa", sum := "c16dbd18d5eb30fd15fb7d67085f250a46bc89777d92104034862db27d91029f", func := "loop.example/oneletter/laws.FnRowsSet", spec := "fnRowsSet", inPlace := ["internal/abi.NoEscape", "internal/bytealg.IndexByteString", "internal/bytealg.IndexString"], recurses := true, named := ["internal/bytealg.MaxLen"], apart := false }
def FnRowsSetSaid : Prop := fnRowsSetRow.holds Try.pinned (OpenSpec.ofChange fnRowsSetSpec)

/-- ITS FALSE NEIGHBOUR: 'it returns false'. Refute it at one input. -/
def fnRowsSetWrong : ChangeSpec := { name := "fnRowsSet", fn := fun _ => fun
  | [d] => { results := [.lit (.bool false)], args := [d] }
  | _ => none }
def FnRowsSetWrongFalsely : Prop := fnRowsSetRow.holds Try.pinned (OpenSpec.ofChange fnRowsSetWrong)

/-- 'laws.FnRowsOf': WHATEVER THE INPUT: true; the input reads as it did. -/
def fnRowsOfSpec : ChangeSpec := { name := "fnRowsOf", fn := fun _ => fun
  | [d] => { results := [.lit (.bool true)], args := [d] }
  | _ => none }
def fnRowsOfRow : OpenClaim := { program := "ytdcedkjoligekaa", sum := "c16dbd18d5eb30fd15fb7d67085f250a46bc89777d92104034862db27d91029f", func := "loop.example/oneletter/laws.FnRowsOf", spec := "fnRowsOf", inPlace := ["internal/bytealg.IndexByteString", "internal/bytealg.IndexString", "internal/abi.NoEscape"], recurses := true, named := ["internal/bytealg.MaxLen"], apart := false }
def FnRowsOfSaid : Prop := fnRowsOfRow.holds Try.pinned (OpenSpec.ofChange fnRowsOfSpec)

/-- ITS FALSE NEIGHBOUR: 'it returns false'. Refute it at one input. -/
def fnRowsOfWrong : ChangeSpec := { name := "fnRowsOf", fn := fun _ => fun
  | [d] => { results := [.lit (.bool false)], args := [d] }
  | _ => none }
def FnRowsOfWrongFalsely : Prop := fnRowsOfRow.holds Try.pinned (OpenSpec.ofChange fnRowsOfWrong)

/-- 'laws.FnRowsHas': WHATEVER THE INPUT: true; the input reads as it did. -/
def fnRowsHasSpec : ChangeSpec := { name := "fnRowsHas", fn := fun _ => fun
  | [d] => { results := [.lit (.bool true)], args := [d] }
  | _ => none }
def fnRowsHasRow : OpenClaim := { program := "ytdcedkjoligekaa", sum := "c16dbd18d5eb30fd15fb7d67085f250a46bc89777d92104034862db27d91029f", func := "loop.example/oneletter/laws.FnRowsHas", spec := "fnRowsHas", apart := false }
def FnRowsHasSaid : Prop := fnRowsHasRow.holds Try.pinned (OpenSpec.ofChange fnRowsHasSpec)

/-- ITS FALSE NEIGHBOUR: 'it returns false'. Refute it at one input. -/
def fnRowsHasWrong : ChangeSpec := { name := "fnRowsHas", fn := fun _ => fun
  | [d] => { results := [.lit (.bool false)], args := [d] }
  | _ => none }
def FnRowsHasWrongFalsely : Prop := fnRowsHasRow.holds Try.pinned (OpenSpec.ofChange fnRowsHasWrong)

/-- 'laws.FnRowsMeet': WHATEVER THE INPUT: true; the input reads as it did. -/
def fnRowsMeetSpec : ChangeSpec := { name := "fnRowsMeet", fn := fun _ => fun
  | [d] => { results := [.lit (.bool true)], args := [d] }
  | _ => none }
def fnRowsMeetRow : OpenClaim := { program := "ytdcedkjoligekaa", sum := "c16dbd18d5eb30fd15fb7d67085f250a46bc89777d92104034862db27d91029f", func := "loop.example/oneletter/laws.FnRowsMeet", spec := "fnRowsMeet", apart := false }
def FnRowsMeetSaid : Prop := fnRowsMeetRow.holds Try.pinned (OpenSpec.ofChange fnRowsMeetSpec)

/-- ITS FALSE NEIGHBOUR: 'it returns false'. Refute it at one input. -/
def fnRowsMeetWrong : ChangeSpec := { name := "fnRowsMeet", fn := fun _ => fun
  | [d] => { results := [.lit (.bool false)], args := [d] }
  | _ => none }
def FnRowsMeetWrongFalsely : Prop := fnRowsMeetRow.holds Try.pinned (OpenSpec.ofChange fnRowsMeetWrong)

/-- 'laws.FnRowsCover': WHATEVER THE INPUT: true; the input reads as it did. -/
def fnRowsCoverSpec : ChangeSpec := { name := "fnRowsCover", fn := fun _ => fun
  | [d] => { results := [.lit (.bool true)], args := [d] }
  | _ => none }
def fnRowsCoverRow : OpenClaim := { program := "ytdcedkjoligekaa", sum := "c16dbd18d5eb30fd15fb7d67085f250a46bc89777d92104034862db27d91029f", func := "loop.example/oneletter/laws.FnRowsCover", spec := "fnRowsCover", inPlace := ["internal/abi.NoEscape", "internal/bytealg.IndexByteString", "internal/bytealg.IndexString"], unfollowed := true, recurses := true, named := ["internal/bytealg.MaxLen"], apart := false }
def FnRowsCoverSaid : Prop := fnRowsCoverRow.holds Try.pinned (OpenSpec.ofChange fnRowsCoverSpec)

/-- ITS FALSE NEIGHBOUR: 'it returns false'. Refute it at one input. -/
def fnRowsCoverWrong : ChangeSpec := { name := "fnRowsCover", fn := fun _ => fun
  | [d] => { results := [.lit (.bool false)], args := [d] }
  | _ => none }
def FnRowsCoverWrongFalsely : Prop := fnRowsCoverRow.holds Try.pinned (OpenSpec.ofChange fnRowsCoverWrong)

/-- 'laws.FnRowsOnce': WHATEVER THE INPUT: true; the input reads as it did. -/
def fnRowsOnceSpec : ChangeSpec := { name := "fnRowsOnce", fn := fun _ => fun
  | [d] => { results := [.lit (.bool true)], args := [d] }
  | _ => none }
def fnRowsOnceRow : OpenClaim := { program := "ytdcedkjoligekaa", sum := "c16dbd18d5eb30fd15fb7d67085f250a46bc89777d92104034862db27d91029f", func := "loop.example/oneletter/laws.FnRowsOnce", spec := "fnRowsOnce", recurses := true, apart := false }
def FnRowsOnceSaid : Prop := fnRowsOnceRow.holds Try.pinned (OpenSpec.ofChange fnRowsOnceSpec)

/-- ITS FALSE NEIGHBOUR: 'it returns false'. Refute it at one input. -/
def fnRowsOnceWrong : ChangeSpec := { name := "fnRowsOnce", fn := fun _ => fun
  | [d] => { results := [.lit (.bool false)], args := [d] }
  | _ => none }
def FnRowsOnceWrongFalsely : Prop := fnRowsOnceRow.holds Try.pinned (OpenSpec.ofChange fnRowsOnceWrong)

/-- 'laws.FnRowsShare': WHATEVER THE INPUT: true; the input reads as it did. -/
def fnRowsShareSpec : ChangeSpec := { name := "fnRowsShare", fn := fun _ => fun
  | [d] => { results := [.lit (.bool true)], args := [d] }
  | _ => none }
def fnRowsShareRow : OpenClaim := { program := "ytdcedkjoligekaa", sum := "c16dbd18d5eb30fd15fb7d67085f250a46bc89777d92104034862db27d91029f", func := "loop.example/oneletter/laws.FnRowsShare", spec := "fnRowsShare", recurses := true, apart := false }
def FnRowsShareSaid : Prop := fnRowsShareRow.holds Try.pinned (OpenSpec.ofChange fnRowsShareSpec)

/-- ITS FALSE NEIGHBOUR: 'it returns false'. Refute it at one input. -/
def fnRowsShareWrong : ChangeSpec := { name := "fnRowsShare", fn := fun _ => fun
  | [d] => { results := [.lit (.bool false)], args := [d] }
  | _ => none }
def FnRowsShareWrongFalsely : Prop := fnRowsShareRow.holds Try.pinned (OpenSpec.ofChange fnRowsShareWrong)

/-- 'laws.FnExactRowsIn': WHATEVER THE INPUT: true; the input reads as it did. -/
def fnExactRowsInSpec : ChangeSpec := { name := "fnExactRowsIn", fn := fun _ => fun
  | [d] => { results := [.lit (.bool true)], args := [d] }
  | _ => none }
def fnExactRowsInRow : OpenClaim := { program := "ytdcedkjoligekaa", sum := "c16dbd18d5eb30fd15fb7d67085f250a46bc89777d92104034862db27d91029f", func := "loop.example/oneletter/laws.FnExactRowsIn", spec := "fnExactRowsIn", apart := false }
def FnExactRowsInSaid : Prop := fnExactRowsInRow.holds Try.pinned (OpenSpec.ofChange fnExactRowsInSpec)

/-- ITS FALSE NEIGHBOUR: 'it returns false'. Refute it at one input. -/
def fnExactRowsInWrong : ChangeSpec := { name := "fnExactRowsIn", fn := fun _ => fun
  | [d] => { results := [.lit (.bool false)], args := [d] }
  | _ => none }
def FnExactRowsInWrongFalsely : Prop := fnExactRowsInRow.holds Try.pinned (OpenSpec.ofChange fnExactRowsInWrong)

/-- 'laws.FnExactRowsSet': WHATEVER THE INPUT: true; the input reads as it did. -/
def fnExactRowsSetSpec : ChangeSpec := { name := "fnExactRowsSet", fn := fun _ => fun
  | [d] => { results := [.lit (.bool true)], args := [d] }
  | _ => none }
def fnExactRowsSetRow : OpenClaim := { program := "ytdcedkjoligekaa", sum := "c16dbd18d5eb30fd15fb7d67085f250a46bc89777d92104034862db27d91029f", func := "loop.example/oneletter/laws.FnExactRowsSet", spec := "fnExactRowsSet", inPlace := ["internal/abi.NoEscape", "internal/bytealg.IndexByteString", "internal/bytealg.IndexString"], recurses := true, named := ["internal/bytealg.MaxLen"], apart := false }
def FnExactRowsSetSaid : Prop := fnExactRowsSetRow.holds Try.pinned (OpenSpec.ofChange fnExactRowsSetSpec)

/-- ITS FALSE NEIGHBOUR: 'it returns false'. Refute it at one input. -/
def fnExactRowsSetWrong : ChangeSpec := { name := "fnExactRowsSet", fn := fun _ => fun
  | [d] => { results := [.lit (.bool false)], args := [d] }
  | _ => none }
def FnExactRowsSetWrongFalsely : Prop := fnExactRowsSetRow.holds Try.pinned (OpenSpec.ofChange fnExactRowsSetWrong)

/-- 'laws.FnExactRowsOf': WHATEVER THE INPUT: true; the input reads as it did. -/
def fnExactRowsOfSpec : ChangeSpec := { name := "fnExactRowsOf", fn := fun _ => fun
  | [d] => { results := [.lit (.bool true)], args := [d] }
  | _ => none }
def fnExactRowsOfRow : OpenClaim := { program := "ytdcedkjoligekaa", sum := "c16dbd18d5eb30fd15fb7d67085f250a46bc89777d92104034862db27d91029f", func := "loop.example/oneletter/laws.FnExactRowsOf", spec := "fnExactRowsOf", inPlace := ["internal/bytealg.IndexByteString", "internal/bytealg.IndexString"], recurses := true, named := ["internal/bytealg.MaxLen"], apart := false }
def FnExactRowsOfSaid : Prop := fnExactRowsOfRow.holds Try.pinned (OpenSpec.ofChange fnExactRowsOfSpec)

/-- ITS FALSE NEIGHBOUR: 'it returns false'. Refute it at one input. -/
def fnExactRowsOfWrong : ChangeSpec := { name := "fnExactRowsOf", fn := fun _ => fun
  | [d] => { results := [.lit (.bool false)], args := [d] }
  | _ => none }
def FnExactRowsOfWrongFalsely : Prop := fnExactRowsOfRow.holds Try.pinned (OpenSpec.ofChange fnExactRowsOfWrong)

/-- 'laws.FnExactRowsHas': WHATEVER THE INPUT: true; the input reads as it did. -/
def fnExactRowsHasSpec : ChangeSpec := { name := "fnExactRowsHas", fn := fun _ => fun
  | [d1, d2] => { results := [.lit (.bool true)], args := [d1, d2] }
  | _ => none }
def fnExactRowsHasRow : OpenClaim := { program := "ytdcedkjoligekaa", sum := "c16dbd18d5eb30fd15fb7d67085f250a46bc89777d92104034862db27d91029f", func := "loop.example/oneletter/laws.FnExactRowsHas", spec := "fnExactRowsHas", apart := false }
def FnExactRowsHasSaid : Prop := fnExactRowsHasRow.holds Try.pinned (OpenSpec.ofChange fnExactRowsHasSpec)

/-- ITS FALSE NEIGHBOUR: 'it returns false'. Refute it at one input. -/
def fnExactRowsHasWrong : ChangeSpec := { name := "fnExactRowsHas", fn := fun _ => fun
  | [d1, d2] => { results := [.lit (.bool false)], args := [d1, d2] }
  | _ => none }
def FnExactRowsHasWrongFalsely : Prop := fnExactRowsHasRow.holds Try.pinned (OpenSpec.ofChange fnExactRowsHasWrong)

/- THE SECOND FORM. 'bulk': how many values and letters a reading holds, each counted each time it is reached (what is shared counts as often as it is met; a slice's spare places count too). A statement '..UptoSaid' is the law's where the arguments, and the package variables that the reading takes, are together of bulk at most 1048576: NARROWER than '..Said'. Prove '..Said' where nothing that the law and all that it calls make is longer than what came in: it says more and counts as full. Else prove '..UptoSaid'. A law counts once. -/
mutual
def uptoBulk {H : Type} : DataW H → Nat
  | .lit (.string bytes) => bytes.length + 1
  | .lit _ => 1
  | .nil => 1
  | .ptr d => uptoBulk d + 1
  | .slice elems spare => uptoBulkAll elems + uptoBulkAll spare + 1
  | .agg parts => uptoBulkAll parts + 1
  | .iface _ d => uptoBulk d + 1
  | .map entries => uptoBulkEntries entries + 1
  | .held _ => 1
def uptoBulkAll {H : Type} : List (DataW H) → Nat
  | [] => 0
  | d :: r => uptoBulk d + uptoBulkAll r
def uptoBulkEntries {H : Type} : List (Lit × DataW H) → Nat
  | [] => 0
  | x :: r => uptoBulkEntry x + uptoBulkEntries r
def uptoBulkEntry {H : Type} : Lit × DataW H → Nat
  | (.string bytes, d) => bytes.length + uptoBulk d + 1
  | (_, d) => uptoBulk d + 1
 end
def uptoSmall : (H : Type) → List (DataW H) → Bool := fun _ ds => decide (uptoBulkAll ds ≤ 1048576)
def OpenSpec.upto (s : _root_.Go.ChangeSpec) : _root_.Go.OpenSpec := { _root_.Go.OpenSpec.ofChange s with cond := some uptoSmall }

/-- 'laws.FnRowsIn', WHERE WHAT IT READS IS OF BULK AT MOST 1048576: true; the input reads as it did. -/
def fnRowsInUptoRow : OpenClaim := { program := "ytdcedkjoligekaa", sum := "c16dbd18d5eb30fd15fb7d67085f250a46bc89777d92104034862db27d91029f", func := "loop.example/oneletter/laws.FnRowsIn", spec := "fnRowsIn", apart := false, narrowed := true }
def FnRowsInUptoSaid : Prop := fnRowsInUptoRow.holds Try.pinned (OpenSpec.upto fnRowsInSpec)

/-- 'laws.FnRowsSet', WHERE WHAT IT READS IS OF BULK AT MOST 1048576: true; the input reads as it did. -/
def fnRowsSetUptoRow : OpenClaim := { program := "ytdcedkjoligekaa", sum := "c16dbd18d5eb30fd15fb7d67085f250a46bc89777d92104034862db27d91029f", func := "loop.example/oneletter/laws.FnRowsSet", spec := "fnRowsSet", inPlace := ["internal/abi.NoEscape", "internal/bytealg.IndexByteString", "internal/bytealg.IndexString"], recurses := true, named := ["internal/bytealg.MaxLen"], apart := false, narrowed := true }
def FnRowsSetUptoSaid : Prop := fnRowsSetUptoRow.holds Try.pinned (OpenSpec.upto fnRowsSetSpec)

/-- 'laws.FnRowsOf', WHERE WHAT IT READS IS OF BULK AT MOST 1048576: true; the input reads as it did. -/
def fnRowsOfUptoRow : OpenClaim := { program := "ytdcedkjoligekaa", sum := "c16dbd18d5eb30fd15fb7d67085f250a46bc89777d92104034862db27d91029f", func := "loop.example/oneletter/laws.FnRowsOf", spec := "fnRowsOf", inPlace := ["internal/bytealg.IndexByteString", "internal/bytealg.IndexString", "internal/abi.NoEscape"], recurses := true, named := ["internal/bytealg.MaxLen"], apart := false, narrowed := true }
def FnRowsOfUptoSaid : Prop := fnRowsOfUptoRow.holds Try.pinned (OpenSpec.upto fnRowsOfSpec)

/-- 'laws.FnRowsHas', WHERE WHAT IT READS IS OF BULK AT MOST 1048576: true; the input reads as it did. -/
def fnRowsHasUptoRow : OpenClaim := { program := "ytdcedkjoligekaa", sum := "c16dbd18d5eb30fd15fb7d67085f250a46bc89777d92104034862db27d91029f", func := "loop.example/oneletter/laws.FnRowsHas", spec := "fnRowsHas", apart := false, narrowed := true }
def FnRowsHasUptoSaid : Prop := fnRowsHasUptoRow.holds Try.pinned (OpenSpec.upto fnRowsHasSpec)

/-- 'laws.FnRowsMeet', WHERE WHAT IT READS IS OF BULK AT MOST 1048576: true; the input reads as it did. -/
def fnRowsMeetUptoRow : OpenClaim := { program := "ytdcedkjoligekaa", sum := "c16dbd18d5eb30fd15fb7d67085f250a46bc89777d92104034862db27d91029f", func := "loop.example/oneletter/laws.FnRowsMeet", spec := "fnRowsMeet", apart := false, narrowed := true }
def FnRowsMeetUptoSaid : Prop := fnRowsMeetUptoRow.holds Try.pinned (OpenSpec.upto fnRowsMeetSpec)

/-- 'laws.FnRowsCover', WHERE WHAT IT READS IS OF BULK AT MOST 1048576: true; the input reads as it did. -/
def fnRowsCoverUptoRow : OpenClaim := { program := "ytdcedkjoligekaa", sum := "c16dbd18d5eb30fd15fb7d67085f250a46bc89777d92104034862db27d91029f", func := "loop.example/oneletter/laws.FnRowsCover", spec := "fnRowsCover", inPlace := ["internal/abi.NoEscape", "internal/bytealg.IndexByteString", "internal/bytealg.IndexString"], unfollowed := true, recurses := true, named := ["internal/bytealg.MaxLen"], apart := false, narrowed := true }
def FnRowsCoverUptoSaid : Prop := fnRowsCoverUptoRow.holds Try.pinned (OpenSpec.upto fnRowsCoverSpec)

/-- 'laws.FnRowsOnce', WHERE WHAT IT READS IS OF BULK AT MOST 1048576: true; the input reads as it did. -/
def fnRowsOnceUptoRow : OpenClaim := { program := "ytdcedkjoligekaa", sum := "c16dbd18d5eb30fd15fb7d67085f250a46bc89777d92104034862db27d91029f", func := "loop.example/oneletter/laws.FnRowsOnce", spec := "fnRowsOnce", recurses := true, apart := false, narrowed := true }
def FnRowsOnceUptoSaid : Prop := fnRowsOnceUptoRow.holds Try.pinned (OpenSpec.upto fnRowsOnceSpec)

/-- 'laws.FnRowsShare', WHERE WHAT IT READS IS OF BULK AT MOST 1048576: true; the input reads as it did. -/
def fnRowsShareUptoRow : OpenClaim := { program := "ytdcedkjoligekaa", sum := "c16dbd18d5eb30fd15fb7d67085f250a46bc89777d92104034862db27d91029f", func := "loop.example/oneletter/laws.FnRowsShare", spec := "fnRowsShare", recurses := true, apart := false, narrowed := true }
def FnRowsShareUptoSaid : Prop := fnRowsShareUptoRow.holds Try.pinned (OpenSpec.upto fnRowsShareSpec)

/-- 'laws.FnExactRowsIn', WHERE WHAT IT READS IS OF BULK AT MOST 1048576: true; the input reads as it did. -/
def fnExactRowsInUptoRow : OpenClaim := { program := "ytdcedkjoligekaa", sum := "c16dbd18d5eb30fd15fb7d67085f250a46bc89777d92104034862db27d91029f", func := "loop.example/oneletter/laws.FnExactRowsIn", spec := "fnExactRowsIn", apart := false, narrowed := true }
def FnExactRowsInUptoSaid : Prop := fnExactRowsInUptoRow.holds Try.pinned (OpenSpec.upto fnExactRowsInSpec)

/-- 'laws.FnExactRowsSet', WHERE WHAT IT READS IS OF BULK AT MOST 1048576: true; the input reads as it did. -/
def fnExactRowsSetUptoRow : OpenClaim := { program := "ytdcedkjoligekaa", sum := "c16dbd18d5eb30fd15fb7d67085f250a46bc89777d92104034862db27d91029f", func := "loop.example/oneletter/laws.FnExactRowsSet", spec := "fnExactRowsSet", inPlace := ["internal/abi.NoEscape", "internal/bytealg.IndexByteString", "internal/bytealg.IndexString"], recurses := true, named := ["internal/bytealg.MaxLen"], apart := false, narrowed := true }
def FnExactRowsSetUptoSaid : Prop := fnExactRowsSetUptoRow.holds Try.pinned (OpenSpec.upto fnExactRowsSetSpec)

/-- 'laws.FnExactRowsOf', WHERE WHAT IT READS IS OF BULK AT MOST 1048576: true; the input reads as it did. -/
def fnExactRowsOfUptoRow : OpenClaim := { program := "ytdcedkjoligekaa", sum := "c16dbd18d5eb30fd15fb7d67085f250a46bc89777d92104034862db27d91029f", func := "loop.example/oneletter/laws.FnExactRowsOf", spec := "fnExactRowsOf", inPlace := ["internal/bytealg.IndexByteString", "internal/bytealg.IndexString"], recurses := true, named := ["internal/bytealg.MaxLen"], apart := false, narrowed := true }
def FnExactRowsOfUptoSaid : Prop := fnExactRowsOfUptoRow.holds Try.pinned (OpenSpec.upto fnExactRowsOfSpec)

/-- 'laws.FnExactRowsHas', WHERE WHAT IT READS IS OF BULK AT MOST 1048576: true; the input reads as it did. -/
def fnExactRowsHasUptoRow : OpenClaim := { program := "ytdcedkjoligekaa", sum := "c16dbd18d5eb30fd15fb7d67085f250a46bc89777d92104034862db27d91029f", func := "loop.example/oneletter/laws.FnExactRowsHas", spec := "fnExactRowsHas", apart := false, narrowed := true }
def FnExactRowsHasUptoSaid : Prop := fnExactRowsHasUptoRow.holds Try.pinned (OpenSpec.upto fnExactRowsHasSpec)

end Rows
end Go.Proofs.Ytdcedkjoligekaa
