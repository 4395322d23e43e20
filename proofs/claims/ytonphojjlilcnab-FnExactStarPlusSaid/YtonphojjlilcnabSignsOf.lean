/-
  Truths as signs: plain facts.
-/
import Derived.Test.YtonphojjlilcnabLessMath
import Derived.Lib.Builder
namespace Go.Proofs.Ytonphojjlilcnab
open Go.RowKit

theorem infoByte : (Try.prog.info? 5).map (fun i => (i.zero, i.size, i.bytes)) = some (some (.int .u8 0), 1, 1) := by kernel_rfl

/-- A truth as a sign. -/
def signOf (b : Bool) : UInt8 := if b then 49 else 48

def signsOf (bs : List Bool) : List UInt8 := bs.map signOf

theorem signsOf_length (bs : List Bool) : (signsOf bs).length = bs.length := by simp [signsOf]

theorem signsOf_snoc (bs : List Bool) (k : Nat) (h : k < bs.length) : signsOf (bs.take (k + 1)) = signsOf (bs.take k) ++ [signOf (bs.getD k false)] := by
  unfold signsOf
  rw [List.take_succ_eq_append_getElem h, List.map_append, List.getD_eq_getElem?_getD, List.getElem?_eq_getElem h]; rfl

theorem byteCells_snoc (l : List UInt8) (c : UInt8) : Lib.byteCells (l ++ [c]) = Lib.byteCells l ++ [.int .u8 c.toNat] := by simp [Lib.byteCells]

/-- The text of a tail and a ring. -/
def textOf (t r : List Bool) : List UInt8 := signsOf t ++ 40 :: (signsOf r ++ [41])

end Go.Proofs.Ytonphojjlilcnab
