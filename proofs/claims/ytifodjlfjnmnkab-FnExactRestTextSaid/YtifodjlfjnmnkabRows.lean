/-
  No cell of these rows narrows 'for every input' (looked for: loops, veiled, ifaces, maps, wideKeys, modest, calm, conditions, laid).
  DERIVED. THE GIVEN ROWS OF THIS SEAT. 3 by the template 'for every input the law returns true; each argument reads behind the call as it read before'; 0 by the template 'total and deterministic' (their statements: YtifodjlfjnmnkabTotals.lean).
  GIVEN WITH THE SEED: the statements are not yours to turn. If you find one false, say at which input.
  Laid BY PROGRAM, IN A SANDBOX (cutbox-rows.mjs): the forced cells as the released guide's own fill.sh prints them over the translation 0c357ca6a071d963… (all of the seat's roots in one cut). By AI agents, Wed Nov 11 2026. No macro, syntax, notation, axiom, sorry.
-/
import Derived.Test.YtifodjlfjnmnkabChecked
import GoSem.Claim
import GoSem.ClaimJoined
import GoSem.ClaimMapViews
import Derived.JoinedTies
import Derived.KernelRfl
namespace Go.Proofs.Ytifodjlfjnmnkab
/- THE CELL 'sum', in the pinned program and in every row, IS THE sha256 OF THE DUMP (.gsa) THAT YtifodjlfjnmnkabProg.lean LOADS. Nothing in Lean hashes anything: it is a label: what it is worth is what the hold of that sum in a sandbox is worth. -/
noncomputable def Try.pinned : Pinned := { name := "ytifodjlfjnmnkab", sum := "0c357ca6a071d9638433d1b0c6227044f3b167cd8aec790fbda88ed40734e9ad", checked := Try.checked }
namespace Rows
def none {H : Type} : Left H := { results := [], args := [] }

/-- 'laws.FnExactRestFirst': WHATEVER THE INPUT: true; the input reads as it did. -/
def fnExactRestFirstSpec : ChangeSpec := { name := "fnExactRestFirst", fn := fun _ => fun
  | [d1, d2] => { results := [.lit (.bool true)], args := [d1, d2] }
  | _ => none }
def fnExactRestFirstRow : OpenClaim := { program := "ytifodjlfjnmnkab", sum := "0c357ca6a071d9638433d1b0c6227044f3b167cd8aec790fbda88ed40734e9ad", func := "loop.example/oneletter/laws.FnExactRestFirst", spec := "fnExactRestFirst", inPlace := ["internal/bytealg.IndexByteString", "internal/bytealg.IndexString", "internal/abi.NoEscape"], unfollowed := true, recurses := true, named := ["internal/bytealg.MaxLen"], plainKeys := false, apart := false }
def FnExactRestFirstSaid : Prop := fnExactRestFirstRow.holds Try.pinned (OpenSpec.ofChange fnExactRestFirstSpec)

/-- ITS FALSE NEIGHBOUR: 'it returns false'. Refute it at one input. -/
def fnExactRestFirstWrong : ChangeSpec := { name := "fnExactRestFirst", fn := fun _ => fun
  | [d1, d2] => { results := [.lit (.bool false)], args := [d1, d2] }
  | _ => none }
def FnExactRestFirstWrongFalsely : Prop := fnExactRestFirstRow.holds Try.pinned (OpenSpec.ofChange fnExactRestFirstWrong)

/-- 'laws.FnExactRestText': WHATEVER THE INPUT: true; the input reads as it did. -/
def fnExactRestTextSpec : ChangeSpec := { name := "fnExactRestText", fn := fun _ => fun
  | [d1, d2] => { results := [.lit (.bool true)], args := [d1, d2] }
  | _ => none }
def fnExactRestTextRow : OpenClaim := { program := "ytifodjlfjnmnkab", sum := "0c357ca6a071d9638433d1b0c6227044f3b167cd8aec790fbda88ed40734e9ad", func := "loop.example/oneletter/laws.FnExactRestText", spec := "fnExactRestText", inPlace := ["internal/bytealg.IndexByteString", "internal/bytealg.IndexString", "internal/abi.NoEscape"], unfollowed := true, recurses := true, named := ["internal/bytealg.MaxLen"], plainKeys := false, apart := false }
def FnExactRestTextSaid : Prop := fnExactRestTextRow.holds Try.pinned (OpenSpec.ofChange fnExactRestTextSpec)

/-- ITS FALSE NEIGHBOUR: 'it returns false'. Refute it at one input. -/
def fnExactRestTextWrong : ChangeSpec := { name := "fnExactRestText", fn := fun _ => fun
  | [d1, d2] => { results := [.lit (.bool false)], args := [d1, d2] }
  | _ => none }
def FnExactRestTextWrongFalsely : Prop := fnExactRestTextRow.holds Try.pinned (OpenSpec.ofChange fnExactRestTextWrong)

/-- 'laws.FnExactRestRound': WHATEVER THE INPUT: true; the input reads as it did. -/
def fnExactRestRoundSpec : ChangeSpec := { name := "fnExactRestRound", fn := fun _ => fun
  | [d] => { results := [.lit (.bool true)], args := [d] }
  | _ => none }
def fnExactRestRoundRow : OpenClaim := { program := "ytifodjlfjnmnkab", sum := "0c357ca6a071d9638433d1b0c6227044f3b167cd8aec790fbda88ed40734e9ad", func := "loop.example/oneletter/laws.FnExactRestRound", spec := "fnExactRestRound", inPlace := ["internal/bytealg.IndexByteString", "internal/bytealg.IndexString", "internal/abi.NoEscape"], unfollowed := true, recurses := true, named := ["internal/bytealg.MaxLen"], plainKeys := false, apart := false }
def FnExactRestRoundSaid : Prop := fnExactRestRoundRow.holds Try.pinned (OpenSpec.ofChange fnExactRestRoundSpec)

/-- ITS FALSE NEIGHBOUR: 'it returns false'. Refute it at one input. -/
def fnExactRestRoundWrong : ChangeSpec := { name := "fnExactRestRound", fn := fun _ => fun
  | [d] => { results := [.lit (.bool false)], args := [d] }
  | _ => none }
def FnExactRestRoundWrongFalsely : Prop := fnExactRestRoundRow.holds Try.pinned (OpenSpec.ofChange fnExactRestRoundWrong)

/- THE SECOND FORM. 'bulk': how many values and letters a reading holds, each counted each time it is reached (what is shared counts as often as it is met; a slice's spare places count too). A statement '..UptoSaid' is the law's where the arguments, and the package variables that the reading takes, are together of bulk at most 1048576: NARROWER than '..Said'. Prove '..Said' where nothing that the law and all that it calls make is longer than what came in: it says more and counts as full. Else prove '..UptoSaid'. A law counts once. -/
mutual
def uptoBulk {H : Type} : DataW H → Nat
  | .lit (.string bytes) => bytes.length + 1
  | .lit _ => 1
  | .nil => 1
  | .ptr d => uptoBulk d + 1
  | .slice elems spare => uptoBulkAll elems + uptoBulkAll spare + 1
  | .agg parts => uptoBulkAll parts + 1
  | .iface _ d => uptoBulk d + 1
  | .map entries => uptoBulkEntries entries + 1
  | .held _ => 1
def uptoBulkAll {H : Type} : List (DataW H) → Nat
  | [] => 0
  | d :: r => uptoBulk d + uptoBulkAll r
def uptoBulkEntries {H : Type} : List (Lit × DataW H) → Nat
  | [] => 0
  | x :: r => uptoBulkEntry x + uptoBulkEntries r
def uptoBulkEntry {H : Type} : Lit × DataW H → Nat
  | (.string bytes, d) => bytes.length + uptoBulk d + 1
  | (_, d) => uptoBulk d + 1
 end
def uptoSmall : (H : Type) → List (DataW H) → Bool := fun _ ds => decide (uptoBulkAll ds ≤ 1048576)
def OpenSpec.upto (s : _root_.Go.ChangeSpec) : _root_.Go.OpenSpec := { _root_.Go.OpenSpec.ofChange s with cond := some uptoSmall }

/-- 'laws.FnExactRestFirst', WHERE WHAT IT READS IS OF BULK AT MOST 1048576: true; the input reads as it did. -/
def fnExactRestFirstUptoRow : OpenClaim := { program := "ytifodjlfjnmnkab", sum := "0c357ca6a071d9638433d1b0c6227044f3b167cd8aec790fbda88ed40734e9ad", func := "loop.example/oneletter/laws.FnExactRestFirst", spec := "fnExactRestFirst", inPlace := ["internal/bytealg.IndexByteString", "internal/bytealg.IndexString", "internal/abi.NoEscape"], unfollowed := true, recurses := true, named := ["internal/bytealg.MaxLen"], plainKeys := false, apart := false, narrowed := true }
def FnExactRestFirstUptoSaid : Prop := fnExactRestFirstUptoRow.holds Try.pinned (OpenSpec.upto fnExactRestFirstSpec)

/-- 'laws.FnExactRestText', WHERE WHAT IT READS IS OF BULK AT MOST 1048576: true; the input reads as it did. -/
def fnExactRestTextUptoRow : OpenClaim := { program := "ytifodjlfjnmnkab", sum := "0c357ca6a071d9638433d1b0c6227044f3b167cd8aec790fbda88ed40734e9ad", func := "loop.example/oneletter/laws.FnExactRestText", spec := "fnExactRestText", inPlace := ["internal/bytealg.IndexByteString", "internal/bytealg.IndexString", "internal/abi.NoEscape"], unfollowed := true, recurses := true, named := ["internal/bytealg.MaxLen"], plainKeys := false, apart := false, narrowed := true }
def FnExactRestTextUptoSaid : Prop := fnExactRestTextUptoRow.holds Try.pinned (OpenSpec.upto fnExactRestTextSpec)

/-- 'laws.FnExactRestRound', WHERE WHAT IT READS IS OF BULK AT MOST 1048576: true; the input reads as it did. -/
def fnExactRestRoundUptoRow : OpenClaim := { program := "ytifodjlfjnmnkab", sum := "0c357ca6a071d9638433d1b0c6227044f3b167cd8aec790fbda88ed40734e9ad", func := "loop.example/oneletter/laws.FnExactRestRound", spec := "fnExactRestRound", inPlace := ["internal/bytealg.IndexByteString", "internal/bytealg.IndexString", "internal/abi.NoEscape"], unfollowed := true, recurses := true, named := ["internal/bytealg.MaxLen"], plainKeys := false, apart := false, narrowed := true }
def FnExactRestRoundUptoSaid : Prop := fnExactRestRoundUptoRow.holds Try.pinned (OpenSpec.upto fnExactRestRoundSpec)

end Rows
end Go.Proofs.Ytifodjlfjnmnkab
