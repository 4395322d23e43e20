/-
  No cell of these rows narrows 'for every input' (looked for: loops, veiled, ifaces, maps, wideKeys, modest, calm, conditions, laid).
  DERIVED. THE GIVEN ROWS OF THIS SEAT. 4 by the template 'for every input the law returns true; each argument reads behind the call as it read before'; 0 by the template 'total and deterministic' (their statements: YtdcedkjoligekabTotals.lean).
  GIVEN WITH THE SEED: the statements are not yours to turn. If you find one false, say at which input.
  Laid BY PROGRAM, IN A SANDBOX (cutbox-rows.mjs): the forced cells as the released guide's own fill.sh prints them over the translation 30e3bea492dd74d5… (all of the seat's roots in one cut). By AI agents, Wed Nov 11 2026. No macro, syntax, notation, axiom, sorry.
-/
import Derived.Test.YtdcedkjoligekabChecked
import GoSem.Claim
import GoSem.ClaimJoined
import GoSem.ClaimMapViews
import Derived.JoinedTies
import Derived.KernelRfl
namespace Go.Proofs.Ytdcedkjoligekab
/- THE CELL 'sum', in the pinned program and in every row, IS THE sha256 OF THE DUMP (.gsa) THAT YtdcedkjoligekabProg.lean LOADS. Nothing in Lean hashes anything: it is a label: what it is worth is what the hold of that sum in a sandbox is worth. -/
noncomputable def Try.pinned : Pinned := { name := "ytdcedkjoligekab", sum := "30e3bea492dd74d54060c93f87f3f310e11a852dc338213f792da05f7cacb049", checked := Try.checked }
namespace Rows
def none {H : Type} : Left H := { results := [], args := [] }

/-- 'laws.FnExactRowsMeet': WHATEVER THE INPUT: true; the input reads as it did. -/
def fnExactRowsMeetSpec : ChangeSpec := { name := "fnExactRowsMeet", fn := fun _ => fun
  | [d1, d2] => { results := [.lit (.bool true)], args := [d1, d2] }
  | _ => none }
def fnExactRowsMeetRow : OpenClaim := { program := "ytdcedkjoligekab", sum := "30e3bea492dd74d54060c93f87f3f310e11a852dc338213f792da05f7cacb049", func := "loop.example/oneletter/laws.FnExactRowsMeet", spec := "fnExactRowsMeet", apart := false }
def FnExactRowsMeetSaid : Prop := fnExactRowsMeetRow.holds Try.pinned (OpenSpec.ofChange fnExactRowsMeetSpec)

/-- ITS FALSE NEIGHBOUR: 'it returns false'. Refute it at one input. -/
def fnExactRowsMeetWrong : ChangeSpec := { name := "fnExactRowsMeet", fn := fun _ => fun
  | [d1, d2] => { results := [.lit (.bool false)], args := [d1, d2] }
  | _ => none }
def FnExactRowsMeetWrongFalsely : Prop := fnExactRowsMeetRow.holds Try.pinned (OpenSpec.ofChange fnExactRowsMeetWrong)

/-- 'laws.FnExactRowsCover': WHATEVER THE INPUT: true; the input reads as it did. -/
def fnExactRowsCoverSpec : ChangeSpec := { name := "fnExactRowsCover", fn := fun _ => fun
  | [d] => { results := [.lit (.bool true)], args := [d] }
  | _ => none }
def fnExactRowsCoverRow : OpenClaim := { program := "ytdcedkjoligekab", sum := "30e3bea492dd74d54060c93f87f3f310e11a852dc338213f792da05f7cacb049", func := "loop.example/oneletter/laws.FnExactRowsCover", spec := "fnExactRowsCover", recurses := true, apart := false }
def FnExactRowsCoverSaid : Prop := fnExactRowsCoverRow.holds Try.pinned (OpenSpec.ofChange fnExactRowsCoverSpec)

/-- ITS FALSE NEIGHBOUR: 'it returns false'. Refute it at one input. -/
def fnExactRowsCoverWrong : ChangeSpec := { name := "fnExactRowsCover", fn := fun _ => fun
  | [d] => { results := [.lit (.bool false)], args := [d] }
  | _ => none }
def FnExactRowsCoverWrongFalsely : Prop := fnExactRowsCoverRow.holds Try.pinned (OpenSpec.ofChange fnExactRowsCoverWrong)

/-- 'laws.FnExactRowsOnce': WHATEVER THE INPUT: true; the input reads as it did. -/
def fnExactRowsOnceSpec : ChangeSpec := { name := "fnExactRowsOnce", fn := fun _ => fun
  | [d] => { results := [.lit (.bool true)], args := [d] }
  | _ => none }
def fnExactRowsOnceRow : OpenClaim := { program := "ytdcedkjoligekab", sum := "30e3bea492dd74d54060c93f87f3f310e11a852dc338213f792da05f7cacb049", func := "loop.example/oneletter/laws.FnExactRowsOnce", spec := "fnExactRowsOnce", recurses := true, apart := false }
def FnExactRowsOnceSaid : Prop := fnExactRowsOnceRow.holds Try.pinned (OpenSpec.ofChange fnExactRowsOnceSpec)

/-- ITS FALSE NEIGHBOUR: 'it returns false'. Refute it at one input. -/
def fnExactRowsOnceWrong : ChangeSpec := { name := "fnExactRowsOnce", fn := fun _ => fun
  | [d] => { results := [.lit (.bool false)], args := [d] }
  | _ => none }
def FnExactRowsOnceWrongFalsely : Prop := fnExactRowsOnceRow.holds Try.pinned (OpenSpec.ofChange fnExactRowsOnceWrong)

/-- 'laws.FnExactRowsShare': WHATEVER THE INPUT: true; the input reads as it did. -/
def fnExactRowsShareSpec : ChangeSpec := { name := "fnExactRowsShare", fn := fun _ => fun
  | [d] => { results := [.lit (.bool true)], args := [d] }
  | _ => none }
def fnExactRowsShareRow : OpenClaim := { program := "ytdcedkjoligekab", sum := "30e3bea492dd74d54060c93f87f3f310e11a852dc338213f792da05f7cacb049", func := "loop.example/oneletter/laws.FnExactRowsShare", spec := "fnExactRowsShare", apart := false }
def FnExactRowsShareSaid : Prop := fnExactRowsShareRow.holds Try.pinned (OpenSpec.ofChange fnExactRowsShareSpec)

/-- ITS FALSE NEIGHBOUR: 'it returns false'. Refute it at one input. -/
def fnExactRowsShareWrong : ChangeSpec := { name := "fnExactRowsShare", fn := fun _ => fun
  | [d] => { results := [.lit (.bool false)], args := [d] }
  | _ => none }
def FnExactRowsShareWrongFalsely : Prop := fnExactRowsShareRow.holds Try.pinned (OpenSpec.ofChange fnExactRowsShareWrong)

/- THE SECOND FORM. 'bulk': how many values and letters a reading holds, each counted each time it is reached (what is shared counts as often as it is met; a slice's spare places count too). A statement '..UptoSaid' is the law's where the arguments, and the package variables that the reading takes, are together of bulk at most 1048576: NARROWER than '..Said'. Prove '..Said' where nothing that the law and all that it calls make is longer than what came in: it says more and counts as full. Else prove '..UptoSaid'. A law counts once. -/
mutual
def uptoBulk {H : Type} : DataW H → Nat
  | .lit (.string bytes) => bytes.length + 1
  | .lit _ => 1
  | .nil => 1
  | .ptr d => uptoBulk d + 1
  | .slice elems spare => uptoBulkAll elems + uptoBulkAll spare + 1
  | .agg parts => uptoBulkAll parts + 1
  | .iface _ d => uptoBulk d + 1
  | .map entries => uptoBulkEntries entries + 1
  | .held _ => 1
def uptoBulkAll {H : Type} : List (DataW H) → Nat
  | [] => 0
  | d :: r => uptoBulk d + uptoBulkAll r
def uptoBulkEntries {H : Type} : List (Lit × DataW H) → Nat
  | [] => 0
  | x :: r => uptoBulkEntry x + uptoBulkEntries r
def uptoBulkEntry {H : Type} : Lit × DataW H → Nat
  | (.string bytes, d) => bytes.length + uptoBulk d + 1
  | (_, d) => uptoBulk d + 1
 end
def uptoSmall : (H : Type) → List (DataW H) → Bool := fun _ ds => decide (uptoBulkAll ds ≤ 1048576)
def OpenSpec.upto (s : _root_.Go.ChangeSpec) : _root_.Go.OpenSpec := { _root_.Go.OpenSpec.ofChange s with cond := some uptoSmall }

/-- 'laws.FnExactRowsMeet', WHERE WHAT IT READS IS OF BULK AT MOST 1048576: true; the input reads as it did. -/
def fnExactRowsMeetUptoRow : OpenClaim := { program := "ytdcedkjoligekab", sum := "30e3bea492dd74d54060c93f87f3f310e11a852dc338213f792da05f7cacb049", func := "loop.example/oneletter/laws.FnExactRowsMeet", spec := "fnExactRowsMeet", apart := false, narrowed := true }
def FnExactRowsMeetUptoSaid : Prop := fnExactRowsMeetUptoRow.holds Try.pinned (OpenSpec.upto fnExactRowsMeetSpec)

/-- 'laws.FnExactRowsCover', WHERE WHAT IT READS IS OF BULK AT MOST 1048576: true; the input reads as it did. -/
def fnExactRowsCoverUptoRow : OpenClaim := { program := "ytdcedkjoligekab", sum := "30e3bea492dd74d54060c93f87f3f310e11a852dc338213f792da05f7cacb049", func := "loop.example/oneletter/laws.FnExactRowsCover", spec := "fnExactRowsCover", recurses := true, apart := false, narrowed := true }
def FnExactRowsCoverUptoSaid : Prop := fnExactRowsCoverUptoRow.holds Try.pinned (OpenSpec.upto fnExactRowsCoverSpec)

/-- 'laws.FnExactRowsOnce', WHERE WHAT IT READS IS OF BULK AT MOST 1048576: true; the input reads as it did. -/
def fnExactRowsOnceUptoRow : OpenClaim := { program := "ytdcedkjoligekab", sum := "30e3bea492dd74d54060c93f87f3f310e11a852dc338213f792da05f7cacb049", func := "loop.example/oneletter/laws.FnExactRowsOnce", spec := "fnExactRowsOnce", recurses := true, apart := false, narrowed := true }
def FnExactRowsOnceUptoSaid : Prop := fnExactRowsOnceUptoRow.holds Try.pinned (OpenSpec.upto fnExactRowsOnceSpec)

/-- 'laws.FnExactRowsShare', WHERE WHAT IT READS IS OF BULK AT MOST 1048576: true; the input reads as it did. -/
def fnExactRowsShareUptoRow : OpenClaim := { program := "ytdcedkjoligekab", sum := "30e3bea492dd74d54060c93f87f3f310e11a852dc338213f792da05f7cacb049", func := "loop.example/oneletter/laws.FnExactRowsShare", spec := "fnExactRowsShare", apart := false, narrowed := true }
def FnExactRowsShareUptoSaid : Prop := fnExactRowsShareUptoRow.holds Try.pinned (OpenSpec.upto fnExactRowsShareSpec)

end Rows
end Go.Proofs.Ytdcedkjoligekab
