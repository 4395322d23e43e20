/-
  No cell of these rows narrows 'for every input' (looked for: loops, veiled, ifaces, maps, wideKeys, modest, calm, conditions, laid).
  DERIVED. THE GIVEN ROWS OF THIS SEAT. 12 by the template 'for every input the law returns true; each argument reads behind the call as it read before'; 0 by the template 'total and deterministic' (their statements: YtifodjlfjnmnkaaTotals.lean).
  GIVEN WITH THE SEED: the statements are not yours to turn. If you find one false, say at which input.
  Laid BY PROGRAM, IN A SANDBOX (cutbox-rows.mjs): the forced cells as the released guide's own fill.sh prints them over the translation f1e5353da6d9d93e… (all of the seat's roots in one cut). By AI agents, Wed Nov 11 2026. No macro, syntax, notation, axiom, sorry.
-/
import Derived.Test.YtifodjlfjnmnkaaChecked
import GoSem.Claim
import GoSem.ClaimJoined
import GoSem.ClaimMapViews
import Derived.JoinedTies
import Derived.KernelRfl
namespace Go.Proofs.Ytifodjlfjnmnkaa
/- THE CELL 'sum', in the pinned program and in every row, IS THE sha256 OF THE DUMP (.gsa) THAT YtifodjlfjnmnkaaProg.lean LOADS. Nothing in Lean hashes anything: it is a label: what it is worth is what the hold of that sum in a sandbox is worth. -/
noncomputable def Try.pinned : Pinned := { name := "ytifodjlfjnmnkaa", sum := "f1e5353da6d9d93efe9664cf7740af67c3931c51fa6b2c08d2b9ce1e04ecb630", checked := Try.checked }
namespace Rows
def none {H : Type} : Left H := { results := [], args := [] }

/-- 'laws.FnRestSome': WHATEVER THE INPUT: true; the input reads as it did. -/
def fnRestSomeSpec : ChangeSpec := { name := "fnRestSome", fn := fun _ => fun
  | [d] => { results := [.lit (.bool true)], args := [d] }
  | _ => none }
def fnRestSomeRow : OpenClaim := { program := "ytifodjlfjnmnkaa", sum := "f1e5353da6d9d93efe9664cf7740af67c3931c51fa6b2c08d2b9ce1e04ecb630", func := "loop.example/oneletter/laws.FnRestSome", spec := "fnRestSome", inPlace := ["internal/bytealg.IndexByteString", "internal/bytealg.IndexString", "internal/abi.NoEscape"], unfollowed := true, recurses := true, named := ["internal/bytealg.MaxLen"], plainKeys := false, apart := false }
def FnRestSomeSaid : Prop := fnRestSomeRow.holds Try.pinned (OpenSpec.ofChange fnRestSomeSpec)

/-- ITS FALSE NEIGHBOUR: 'it returns false'. Refute it at one input. -/
def fnRestSomeWrong : ChangeSpec := { name := "fnRestSome", fn := fun _ => fun
  | [d] => { results := [.lit (.bool false)], args := [d] }
  | _ => none }
def FnRestSomeWrongFalsely : Prop := fnRestSomeRow.holds Try.pinned (OpenSpec.ofChange fnRestSomeWrong)

/-- 'laws.FnRestAll': WHATEVER THE INPUT: true; the input reads as it did. -/
def fnRestAllSpec : ChangeSpec := { name := "fnRestAll", fn := fun _ => fun
  | [d] => { results := [.lit (.bool true)], args := [d] }
  | _ => none }
def fnRestAllRow : OpenClaim := { program := "ytifodjlfjnmnkaa", sum := "f1e5353da6d9d93efe9664cf7740af67c3931c51fa6b2c08d2b9ce1e04ecb630", func := "loop.example/oneletter/laws.FnRestAll", spec := "fnRestAll", inPlace := ["internal/bytealg.IndexByteString", "internal/bytealg.IndexString", "internal/abi.NoEscape"], unfollowed := true, recurses := true, named := ["internal/bytealg.MaxLen"], plainKeys := false, apart := false }
def FnRestAllSaid : Prop := fnRestAllRow.holds Try.pinned (OpenSpec.ofChange fnRestAllSpec)

/-- ITS FALSE NEIGHBOUR: 'it returns false'. Refute it at one input. -/
def fnRestAllWrong : ChangeSpec := { name := "fnRestAll", fn := fun _ => fun
  | [d] => { results := [.lit (.bool false)], args := [d] }
  | _ => none }
def FnRestAllWrongFalsely : Prop := fnRestAllRow.holds Try.pinned (OpenSpec.ofChange fnRestAllWrong)

/-- 'laws.FnRestMany': WHATEVER THE INPUT: true; the input reads as it did. -/
def fnRestManySpec : ChangeSpec := { name := "fnRestMany", fn := fun _ => fun
  | [d] => { results := [.lit (.bool true)], args := [d] }
  | _ => none }
def fnRestManyRow : OpenClaim := { program := "ytifodjlfjnmnkaa", sum := "f1e5353da6d9d93efe9664cf7740af67c3931c51fa6b2c08d2b9ce1e04ecb630", func := "loop.example/oneletter/laws.FnRestMany", spec := "fnRestMany", inPlace := ["internal/bytealg.IndexByteString", "internal/bytealg.IndexString", "internal/abi.NoEscape"], unfollowed := true, recurses := true, named := ["internal/bytealg.MaxLen"], plainKeys := false, apart := false }
def FnRestManySaid : Prop := fnRestManyRow.holds Try.pinned (OpenSpec.ofChange fnRestManySpec)

/-- ITS FALSE NEIGHBOUR: 'it returns false'. Refute it at one input. -/
def fnRestManyWrong : ChangeSpec := { name := "fnRestMany", fn := fun _ => fun
  | [d] => { results := [.lit (.bool false)], args := [d] }
  | _ => none }
def FnRestManyWrongFalsely : Prop := fnRestManyRow.holds Try.pinned (OpenSpec.ofChange fnRestManyWrong)

/-- 'laws.FnRestSame': WHATEVER THE INPUT: true; the input reads as it did. -/
def fnRestSameSpec : ChangeSpec := { name := "fnRestSame", fn := fun _ => fun
  | [d] => { results := [.lit (.bool true)], args := [d] }
  | _ => none }
def fnRestSameRow : OpenClaim := { program := "ytifodjlfjnmnkaa", sum := "f1e5353da6d9d93efe9664cf7740af67c3931c51fa6b2c08d2b9ce1e04ecb630", func := "loop.example/oneletter/laws.FnRestSame", spec := "fnRestSame", inPlace := ["internal/bytealg.IndexByteString", "internal/bytealg.IndexString", "internal/abi.NoEscape"], unfollowed := true, recurses := true, named := ["internal/bytealg.MaxLen"], plainKeys := false, apart := false }
def FnRestSameSaid : Prop := fnRestSameRow.holds Try.pinned (OpenSpec.ofChange fnRestSameSpec)

/-- ITS FALSE NEIGHBOUR: 'it returns false'. Refute it at one input. -/
def fnRestSameWrong : ChangeSpec := { name := "fnRestSame", fn := fun _ => fun
  | [d] => { results := [.lit (.bool false)], args := [d] }
  | _ => none }
def FnRestSameWrongFalsely : Prop := fnRestSameRow.holds Try.pinned (OpenSpec.ofChange fnRestSameWrong)

/-- 'laws.FnRestFirst': WHATEVER THE INPUT: true; the input reads as it did. -/
def fnRestFirstSpec : ChangeSpec := { name := "fnRestFirst", fn := fun _ => fun
  | [d] => { results := [.lit (.bool true)], args := [d] }
  | _ => none }
def fnRestFirstRow : OpenClaim := { program := "ytifodjlfjnmnkaa", sum := "f1e5353da6d9d93efe9664cf7740af67c3931c51fa6b2c08d2b9ce1e04ecb630", func := "loop.example/oneletter/laws.FnRestFirst", spec := "fnRestFirst", inPlace := ["internal/bytealg.IndexByteString", "internal/bytealg.IndexString", "internal/abi.NoEscape"], unfollowed := true, recurses := true, named := ["internal/bytealg.MaxLen"], plainKeys := false, apart := false }
def FnRestFirstSaid : Prop := fnRestFirstRow.holds Try.pinned (OpenSpec.ofChange fnRestFirstSpec)

/-- ITS FALSE NEIGHBOUR: 'it returns false'. Refute it at one input. -/
def fnRestFirstWrong : ChangeSpec := { name := "fnRestFirst", fn := fun _ => fun
  | [d] => { results := [.lit (.bool false)], args := [d] }
  | _ => none }
def FnRestFirstWrongFalsely : Prop := fnRestFirstRow.holds Try.pinned (OpenSpec.ofChange fnRestFirstWrong)

/-- 'laws.FnRestText': WHATEVER THE INPUT: true; the input reads as it did. -/
def fnRestTextSpec : ChangeSpec := { name := "fnRestText", fn := fun _ => fun
  | [d] => { results := [.lit (.bool true)], args := [d] }
  | _ => none }
def fnRestTextRow : OpenClaim := { program := "ytifodjlfjnmnkaa", sum := "f1e5353da6d9d93efe9664cf7740af67c3931c51fa6b2c08d2b9ce1e04ecb630", func := "loop.example/oneletter/laws.FnRestText", spec := "fnRestText", inPlace := ["internal/bytealg.IndexByteString", "internal/bytealg.IndexString", "internal/abi.NoEscape"], unfollowed := true, recurses := true, named := ["internal/bytealg.MaxLen"], plainKeys := false, apart := false }
def FnRestTextSaid : Prop := fnRestTextRow.holds Try.pinned (OpenSpec.ofChange fnRestTextSpec)

/-- ITS FALSE NEIGHBOUR: 'it returns false'. Refute it at one input. -/
def fnRestTextWrong : ChangeSpec := { name := "fnRestText", fn := fun _ => fun
  | [d] => { results := [.lit (.bool false)], args := [d] }
  | _ => none }
def FnRestTextWrongFalsely : Prop := fnRestTextRow.holds Try.pinned (OpenSpec.ofChange fnRestTextWrong)

/-- 'laws.FnRestRound': WHATEVER THE INPUT: true; the input reads as it did. -/
def fnRestRoundSpec : ChangeSpec := { name := "fnRestRound", fn := fun _ => fun
  | [d] => { results := [.lit (.bool true)], args := [d] }
  | _ => none }
def fnRestRoundRow : OpenClaim := { program := "ytifodjlfjnmnkaa", sum := "f1e5353da6d9d93efe9664cf7740af67c3931c51fa6b2c08d2b9ce1e04ecb630", func := "loop.example/oneletter/laws.FnRestRound", spec := "fnRestRound", inPlace := ["internal/bytealg.IndexByteString", "internal/bytealg.IndexString", "internal/abi.NoEscape"], unfollowed := true, recurses := true, named := ["internal/bytealg.MaxLen"], plainKeys := false, apart := false }
def FnRestRoundSaid : Prop := fnRestRoundRow.holds Try.pinned (OpenSpec.ofChange fnRestRoundSpec)

/-- ITS FALSE NEIGHBOUR: 'it returns false'. Refute it at one input. -/
def fnRestRoundWrong : ChangeSpec := { name := "fnRestRound", fn := fun _ => fun
  | [d] => { results := [.lit (.bool false)], args := [d] }
  | _ => none }
def FnRestRoundWrongFalsely : Prop := fnRestRoundRow.holds Try.pinned (OpenSpec.ofChange fnRestRoundWrong)

/-- 'laws.FnRestUndo': WHATEVER THE INPUT: true; the input reads as it did. -/
def fnRestUndoSpec : ChangeSpec := { name := "fnRestUndo", fn := fun _ => fun
  | [d] => { results := [.lit (.bool true)], args := [d] }
  | _ => none }
def fnRestUndoRow : OpenClaim := { program := "ytifodjlfjnmnkaa", sum := "f1e5353da6d9d93efe9664cf7740af67c3931c51fa6b2c08d2b9ce1e04ecb630", func := "loop.example/oneletter/laws.FnRestUndo", spec := "fnRestUndo", inPlace := ["internal/bytealg.IndexByteString", "internal/bytealg.IndexString", "internal/abi.NoEscape"], unfollowed := true, recurses := true, named := ["internal/bytealg.MaxLen"], plainKeys := false, apart := false }
def FnRestUndoSaid : Prop := fnRestUndoRow.holds Try.pinned (OpenSpec.ofChange fnRestUndoSpec)

/-- ITS FALSE NEIGHBOUR: 'it returns false'. Refute it at one input. -/
def fnRestUndoWrong : ChangeSpec := { name := "fnRestUndo", fn := fun _ => fun
  | [d] => { results := [.lit (.bool false)], args := [d] }
  | _ => none }
def FnRestUndoWrongFalsely : Prop := fnRestUndoRow.holds Try.pinned (OpenSpec.ofChange fnRestUndoWrong)

/-- 'laws.FnExactRestSome': WHATEVER THE INPUT: true; the input reads as it did. -/
def fnExactRestSomeSpec : ChangeSpec := { name := "fnExactRestSome", fn := fun _ => fun
  | [d1, d2] => { results := [.lit (.bool true)], args := [d1, d2] }
  | _ => none }
def fnExactRestSomeRow : OpenClaim := { program := "ytifodjlfjnmnkaa", sum := "f1e5353da6d9d93efe9664cf7740af67c3931c51fa6b2c08d2b9ce1e04ecb630", func := "loop.example/oneletter/laws.FnExactRestSome", spec := "fnExactRestSome", inPlace := ["internal/bytealg.IndexByteString", "internal/bytealg.IndexString", "internal/abi.NoEscape"], unfollowed := true, recurses := true, named := ["internal/bytealg.MaxLen"], plainKeys := false, apart := false }
def FnExactRestSomeSaid : Prop := fnExactRestSomeRow.holds Try.pinned (OpenSpec.ofChange fnExactRestSomeSpec)

/-- ITS FALSE NEIGHBOUR: 'it returns false'. Refute it at one input. -/
def fnExactRestSomeWrong : ChangeSpec := { name := "fnExactRestSome", fn := fun _ => fun
  | [d1, d2] => { results := [.lit (.bool false)], args := [d1, d2] }
  | _ => none }
def FnExactRestSomeWrongFalsely : Prop := fnExactRestSomeRow.holds Try.pinned (OpenSpec.ofChange fnExactRestSomeWrong)

/-- 'laws.FnExactRestAll': WHATEVER THE INPUT: true; the input reads as it did. -/
def fnExactRestAllSpec : ChangeSpec := { name := "fnExactRestAll", fn := fun _ => fun
  | [d1, d2] => { results := [.lit (.bool true)], args := [d1, d2] }
  | _ => none }
def fnExactRestAllRow : OpenClaim := { program := "ytifodjlfjnmnkaa", sum := "f1e5353da6d9d93efe9664cf7740af67c3931c51fa6b2c08d2b9ce1e04ecb630", func := "loop.example/oneletter/laws.FnExactRestAll", spec := "fnExactRestAll", inPlace := ["internal/bytealg.IndexByteString", "internal/bytealg.IndexString", "internal/abi.NoEscape"], unfollowed := true, recurses := true, named := ["internal/bytealg.MaxLen"], plainKeys := false, apart := false }
def FnExactRestAllSaid : Prop := fnExactRestAllRow.holds Try.pinned (OpenSpec.ofChange fnExactRestAllSpec)

/-- ITS FALSE NEIGHBOUR: 'it returns false'. Refute it at one input. -/
def fnExactRestAllWrong : ChangeSpec := { name := "fnExactRestAll", fn := fun _ => fun
  | [d1, d2] => { results := [.lit (.bool false)], args := [d1, d2] }
  | _ => none }
def FnExactRestAllWrongFalsely : Prop := fnExactRestAllRow.holds Try.pinned (OpenSpec.ofChange fnExactRestAllWrong)

/-- 'laws.FnExactRestMany': WHATEVER THE INPUT: true; the input reads as it did. -/
def fnExactRestManySpec : ChangeSpec := { name := "fnExactRestMany", fn := fun _ => fun
  | [d] => { results := [.lit (.bool true)], args := [d] }
  | _ => none }
def fnExactRestManyRow : OpenClaim := { program := "ytifodjlfjnmnkaa", sum := "f1e5353da6d9d93efe9664cf7740af67c3931c51fa6b2c08d2b9ce1e04ecb630", func := "loop.example/oneletter/laws.FnExactRestMany", spec := "fnExactRestMany", inPlace := ["internal/bytealg.IndexByteString", "internal/bytealg.IndexString", "internal/abi.NoEscape"], unfollowed := true, recurses := true, named := ["internal/bytealg.MaxLen"], plainKeys := false, apart := false }
def FnExactRestManySaid : Prop := fnExactRestManyRow.holds Try.pinned (OpenSpec.ofChange fnExactRestManySpec)

/-- ITS FALSE NEIGHBOUR: 'it returns false'. Refute it at one input. -/
def fnExactRestManyWrong : ChangeSpec := { name := "fnExactRestMany", fn := fun _ => fun
  | [d] => { results := [.lit (.bool false)], args := [d] }
  | _ => none }
def FnExactRestManyWrongFalsely : Prop := fnExactRestManyRow.holds Try.pinned (OpenSpec.ofChange fnExactRestManyWrong)

/-- 'laws.FnExactRestSame': WHATEVER THE INPUT: true; the input reads as it did. -/
def fnExactRestSameSpec : ChangeSpec := { name := "fnExactRestSame", fn := fun _ => fun
  | [d1, d2, d3] => { results := [.lit (.bool true)], args := [d1, d2, d3] }
  | _ => none }
def fnExactRestSameRow : OpenClaim := { program := "ytifodjlfjnmnkaa", sum := "f1e5353da6d9d93efe9664cf7740af67c3931c51fa6b2c08d2b9ce1e04ecb630", func := "loop.example/oneletter/laws.FnExactRestSame", spec := "fnExactRestSame", inPlace := ["internal/bytealg.IndexByteString", "internal/bytealg.IndexString", "internal/abi.NoEscape"], unfollowed := true, recurses := true, named := ["internal/bytealg.MaxLen"], plainKeys := false, apart := false }
def FnExactRestSameSaid : Prop := fnExactRestSameRow.holds Try.pinned (OpenSpec.ofChange fnExactRestSameSpec)

/-- ITS FALSE NEIGHBOUR: 'it returns false'. Refute it at one input. -/
def fnExactRestSameWrong : ChangeSpec := { name := "fnExactRestSame", fn := fun _ => fun
  | [d1, d2, d3] => { results := [.lit (.bool false)], args := [d1, d2, d3] }
  | _ => none }
def FnExactRestSameWrongFalsely : Prop := fnExactRestSameRow.holds Try.pinned (OpenSpec.ofChange fnExactRestSameWrong)

/- THE SECOND FORM. 'bulk': how many values and letters a reading holds, each counted each time it is reached (what is shared counts as often as it is met; a slice's spare places count too). A statement '..UptoSaid' is the law's where the arguments, and the package variables that the reading takes, are together of bulk at most 1048576: NARROWER than '..Said'. Prove '..Said' where nothing that the law and all that it calls make is longer than what came in: it says more and counts as full. Else prove '..UptoSaid'. A law counts once. -/
mutual
def uptoBulk {H : Type} : DataW H → Nat
  | .lit (.string bytes) => bytes.length + 1
  | .lit _ => 1
  | .nil => 1
  | .ptr d => uptoBulk d + 1
  | .slice elems spare => uptoBulkAll elems + uptoBulkAll spare + 1
  | .agg parts => uptoBulkAll parts + 1
  | .iface _ d => uptoBulk d + 1
  | .map entries => uptoBulkEntries entries + 1
  | .held _ => 1
def uptoBulkAll {H : Type} : List (DataW H) → Nat
  | [] => 0
  | d :: r => uptoBulk d + uptoBulkAll r
def uptoBulkEntries {H : Type} : List (Lit × DataW H) → Nat
  | [] => 0
  | x :: r => uptoBulkEntry x + uptoBulkEntries r
def uptoBulkEntry {H : Type} : Lit × DataW H → Nat
  | (.string bytes, d) => bytes.length + uptoBulk d + 1
  | (_, d) => uptoBulk d + 1
 end
def uptoSmall : (H : Type) → List (DataW H) → Bool := fun _ ds => decide (uptoBulkAll ds ≤ 1048576)
def OpenSpec.upto (s : _root_.Go.ChangeSpec) : _root_.Go.OpenSpec := { _root_.Go.OpenSpec.ofChange s with cond := some uptoSmall }

/-- 'laws.FnRestSome', WHERE WHAT IT READS IS OF BULK AT MOST 1048576: true; the input reads as it did. -/
def fnRestSomeUptoRow : OpenClaim := { program := "ytifodjlfjnmnkaa", sum := "f1e5353da6d9d93efe9664cf7740af67c3931c51fa6b2c08d2b9ce1e04ecb630", func := "loop.example/oneletter/laws.FnRestSome", spec := "fnRestSome", inPlace := ["internal/bytealg.IndexByteString", "internal/bytealg.IndexString", "internal/abi.NoEscape"], unfollowed := true, recurses := true, named := ["internal/bytealg.MaxLen"], plainKeys := false, apart := false, narrowed := true }
def FnRestSomeUptoSaid : Prop := fnRestSomeUptoRow.holds Try.pinned (OpenSpec.upto fnRestSomeSpec)

/-- 'laws.FnRestAll', WHERE WHAT IT READS IS OF BULK AT MOST 1048576: true; the input reads as it did. -/
def fnRestAllUptoRow : OpenClaim := { program := "ytifodjlfjnmnkaa", sum := "f1e5353da6d9d93efe9664cf7740af67c3931c51fa6b2c08d2b9ce1e04ecb630", func := "loop.example/oneletter/laws.FnRestAll", spec := "fnRestAll", inPlace := ["internal/bytealg.IndexByteString", "internal/bytealg.IndexString", "internal/abi.NoEscape"], unfollowed := true, recurses := true, named := ["internal/bytealg.MaxLen"], plainKeys := false, apart := false, narrowed := true }
def FnRestAllUptoSaid : Prop := fnRestAllUptoRow.holds Try.pinned (OpenSpec.upto fnRestAllSpec)

/-- 'laws.FnRestMany', WHERE WHAT IT READS IS OF BULK AT MOST 1048576: true; the input reads as it did. -/
def fnRestManyUptoRow : OpenClaim := { program := "ytifodjlfjnmnkaa", sum := "f1e5353da6d9d93efe9664cf7740af67c3931c51fa6b2c08d2b9ce1e04ecb630", func := "loop.example/oneletter/laws.FnRestMany", spec := "fnRestMany", inPlace := ["internal/bytealg.IndexByteString", "internal/bytealg.IndexString", "internal/abi.NoEscape"], unfollowed := true, recurses := true, named := ["internal/bytealg.MaxLen"], plainKeys := false, apart := false, narrowed := true }
def FnRestManyUptoSaid : Prop := fnRestManyUptoRow.holds Try.pinned (OpenSpec.upto fnRestManySpec)

/-- 'laws.FnRestSame', WHERE WHAT IT READS IS OF BULK AT MOST 1048576: true; the input reads as it did. -/
def fnRestSameUptoRow : OpenClaim := { program := "ytifodjlfjnmnkaa", sum := "f1e5353da6d9d93efe9664cf7740af67c3931c51fa6b2c08d2b9ce1e04ecb630", func := "loop.example/oneletter/laws.FnRestSame", spec := "fnRestSame", inPlace := ["internal/bytealg.IndexByteString", "internal/bytealg.IndexString", "internal/abi.NoEscape"], unfollowed := true, recurses := true, named := ["internal/bytealg.MaxLen"], plainKeys := false, apart := false, narrowed := true }
def FnRestSameUptoSaid : Prop := fnRestSameUptoRow.holds Try.pinned (OpenSpec.upto fnRestSameSpec)

/-- 'laws.FnRestFirst', WHERE WHAT IT READS IS OF BULK AT MOST 1048576: true; the input reads as it did. -/
def fnRestFirstUptoRow : OpenClaim := { program := "ytifodjlfjnmnkaa", sum := "f1e5353da6d9d93efe9664cf7740af67c3931c51fa6b2c08d2b9ce1e04ecb630", func := "loop.example/oneletter/laws.FnRestFirst", spec := "fnRestFirst", inPlace := ["internal/bytealg.IndexByteString", "internal/bytealg.IndexString", "internal/abi.NoEscape"], unfollowed := true, recurses := true, named := ["internal/bytealg.MaxLen"], plainKeys := false, apart := false, narrowed := true }
def FnRestFirstUptoSaid : Prop := fnRestFirstUptoRow.holds Try.pinned (OpenSpec.upto fnRestFirstSpec)

/-- 'laws.FnRestText', WHERE WHAT IT READS IS OF BULK AT MOST 1048576: true; the input reads as it did. -/
def fnRestTextUptoRow : OpenClaim := { program := "ytifodjlfjnmnkaa", sum := "f1e5353da6d9d93efe9664cf7740af67c3931c51fa6b2c08d2b9ce1e04ecb630", func := "loop.example/oneletter/laws.FnRestText", spec := "fnRestText", inPlace := ["internal/bytealg.IndexByteString", "internal/bytealg.IndexString", "internal/abi.NoEscape"], unfollowed := true, recurses := true, named := ["internal/bytealg.MaxLen"], plainKeys := false, apart := false, narrowed := true }
def FnRestTextUptoSaid : Prop := fnRestTextUptoRow.holds Try.pinned (OpenSpec.upto fnRestTextSpec)

/-- 'laws.FnRestRound', WHERE WHAT IT READS IS OF BULK AT MOST 1048576: true; the input reads as it did. -/
def fnRestRoundUptoRow : OpenClaim := { program := "ytifodjlfjnmnkaa", sum := "f1e5353da6d9d93efe9664cf7740af67c3931c51fa6b2c08d2b9ce1e04ecb630", func := "loop.example/oneletter/laws.FnRestRound", spec := "fnRestRound", inPlace := ["internal/bytealg.IndexByteString", "internal/bytealg.IndexString", "internal/abi.NoEscape"], unfollowed := true, recurses := true, named := ["internal/bytealg.MaxLen"], plainKeys := false, apart := false, narrowed := true }
def FnRestRoundUptoSaid : Prop := fnRestRoundUptoRow.holds Try.pinned (OpenSpec.upto fnRestRoundSpec)

/-- 'laws.FnRestUndo', WHERE WHAT IT READS IS OF BULK AT MOST 1048576: true; the input reads as it did. -/
def fnRestUndoUptoRow : OpenClaim := { program := "ytifodjlfjnmnkaa", sum := "f1e5353da6d9d93efe9664cf7740af67c3931c51fa6b2c08d2b9ce1e04ecb630", func := "loop.example/oneletter/laws.FnRestUndo", spec := "fnRestUndo", inPlace := ["internal/bytealg.IndexByteString", "internal/bytealg.IndexString", "internal/abi.NoEscape"], unfollowed := true, recurses := true, named := ["internal/bytealg.MaxLen"], plainKeys := false, apart := false, narrowed := true }
def FnRestUndoUptoSaid : Prop := fnRestUndoUptoRow.holds Try.pinned (OpenSpec.upto fnRestUndoSpec)

/-- 'laws.FnExactRestSome', WHERE WHAT IT READS IS OF BULK AT MOST 1048576: true; the input reads as it did. -/
def fnExactRestSomeUptoRow : OpenClaim := { program := "ytifodjlfjnmnkaa", sum := "f1e5353da6d9d93efe9664cf7740af67c3931c51fa6b2c08d2b9ce1e04ecb630", func := "loop.example/oneletter/laws.FnExactRestSome", spec := "fnExactRestSome", inPlace := ["internal/bytealg.IndexByteString", "internal/bytealg.IndexString", "internal/abi.NoEscape"], unfollowed := true, recurses := true, named := ["internal/bytealg.MaxLen"], plainKeys := false, apart := false, narrowed := true }
def FnExactRestSomeUptoSaid : Prop := fnExactRestSomeUptoRow.holds Try.pinned (OpenSpec.upto fnExactRestSomeSpec)

/-- 'laws.FnExactRestAll', WHERE WHAT IT READS IS OF BULK AT MOST 1048576: true; the input reads as it did. -/
def fnExactRestAllUptoRow : OpenClaim := { program := "ytifodjlfjnmnkaa", sum := "f1e5353da6d9d93efe9664cf7740af67c3931c51fa6b2c08d2b9ce1e04ecb630", func := "loop.example/oneletter/laws.FnExactRestAll", spec := "fnExactRestAll", inPlace := ["internal/bytealg.IndexByteString", "internal/bytealg.IndexString", "internal/abi.NoEscape"], unfollowed := true, recurses := true, named := ["internal/bytealg.MaxLen"], plainKeys := false, apart := false, narrowed := true }
def FnExactRestAllUptoSaid : Prop := fnExactRestAllUptoRow.holds Try.pinned (OpenSpec.upto fnExactRestAllSpec)

/-- 'laws.FnExactRestMany', WHERE WHAT IT READS IS OF BULK AT MOST 1048576: true; the input reads as it did. -/
def fnExactRestManyUptoRow : OpenClaim := { program := "ytifodjlfjnmnkaa", sum := "f1e5353da6d9d93efe9664cf7740af67c3931c51fa6b2c08d2b9ce1e04ecb630", func := "loop.example/oneletter/laws.FnExactRestMany", spec := "fnExactRestMany", inPlace := ["internal/bytealg.IndexByteString", "internal/bytealg.IndexString", "internal/abi.NoEscape"], unfollowed := true, recurses := true, named := ["internal/bytealg.MaxLen"], plainKeys := false, apart := false, narrowed := true }
def FnExactRestManyUptoSaid : Prop := fnExactRestManyUptoRow.holds Try.pinned (OpenSpec.upto fnExactRestManySpec)

/-- 'laws.FnExactRestSame', WHERE WHAT IT READS IS OF BULK AT MOST 1048576: true; the input reads as it did. -/
def fnExactRestSameUptoRow : OpenClaim := { program := "ytifodjlfjnmnkaa", sum := "f1e5353da6d9d93efe9664cf7740af67c3931c51fa6b2c08d2b9ce1e04ecb630", func := "loop.example/oneletter/laws.FnExactRestSame", spec := "fnExactRestSame", inPlace := ["internal/bytealg.IndexByteString", "internal/bytealg.IndexString", "internal/abi.NoEscape"], unfollowed := true, recurses := true, named := ["internal/bytealg.MaxLen"], plainKeys := false, apart := false, narrowed := true }
def FnExactRestSameUptoSaid : Prop := fnExactRestSameUptoRow.holds Try.pinned (OpenSpec.upto fnExactRestSameSpec)

end Rows
end Go.Proofs.Ytifodjlfjnmnkaa
