/-
  How the program reads a set text.
-/
import Derived.Test.YtonphojjlilcnabSetDef
import Derived.Test.YtonphojjlilcnabSplit
namespace Go.Proofs.Ytonphojjlilcnab
open Go.RowKit

/-- The cell of internal/bytealg.MaxLen, which strings.Cut reads. -/
structure LibAt (m : Int) (w : World) : Prop where
  lt : 0 < w.heap.size
  cell : w.cell? ⟨0, 0, none⟩ = some (.int .i64 m)

theorem LibAt.below {m : Int} {w w' : World} (h : LibAt m w) (hb : Below w.heap.size w w') : LibAt m w' :=
  ⟨Nat.lt_of_lt_of_le h.lt hb.size, (hb.cell (p := ⟨0, 0, none⟩) h.lt).trans h.cell⟩

/-- The program's parts of a text. -/
structure IsSplit (s T R : ByteArray) : Prop where
  tail : sb T.data.toList = setT s
  ring : sb R.data.toList = setR s
  tailLe : T.size ≤ 60
  ringLe : R.size ≤ 60
  ringPos : 0 < R.size
  ringText : R.data.toList = setRing s.data.toList

theorem IsSplit.tailLen {s T R : ByteArray} (h : IsSplit s T R) : (setT s).length = T.size := by rw [← h.tail, sb_length, size_eq]

theorem IsSplit.ringLen {s T R : ByteArray} (h : IsSplit s T R) : (setR s).length = R.size := by rw [← h.ring, sb_length, size_eq]

theorem split_on (s : ByteArray) (m : Int) (w : World) (hs : s.size ≤ 1048576) (hL : LibAt m w) (hok : okS s = true) :
    Calls Try.prog 47 #[.string s] w fun e w' =>
      ∃ T R, e = .returned (.tuple #[.agg #[.string T, .string R], .bool true]) ∧ Below w.heap.size w w' ∧ IsSplit s T R := by
  have hok' : setOk s.data.toList = true := hok
  refine (split_any s m w hs hL.lt hL.cell).mono ?_
  rintro e w' ⟨rfl, hb⟩
  refine ⟨⟨(setTail s.data.toList).toArray⟩, ⟨(setRing s.data.toList).toArray⟩, by unfold splitVal; rw [hok', if_pos rfl], hb, rfl, rfl, ?_, ?_, ?_, rfl⟩
  · exact tail_le hok'
  · exact ring_le hok'
  · exact ring_pos hok'

theorem split_off (s : ByteArray) (m : Int) (w : World) (hs : s.size ≤ 1048576) (hL : LibAt m w) (hok : okS s = false) :
    Calls Try.prog 47 #[.string s] w fun e w' =>
      e = .returned (.tuple #[.agg #[.string ⟨#[]⟩, .string ⟨#[]⟩], .bool false]) ∧ Below w.heap.size w w' := by
  have hok' : setOk s.data.toList = false := hok
  refine (split_any s m w hs hL.lt hL.cell).mono ?_
  rintro e w' ⟨rfl, hb⟩
  exact ⟨by unfold splitVal; rw [hok']; rfl, hb⟩

end Go.Proofs.Ytonphojjlilcnab
