/-
  A ring without a number, as strings.Contains tells it: a plain fact.
-/
import Derived.Test.YtcljchngjaodgabEndsS
import Derived.Test.YtcljchngjaodgabShelf
namespace Go.Proofs.Ytcljchngjaodgab
open Go.RowKit

theorem contains_ends (l : List UInt8) : decide (0 ≤ Lib.indexByte l 49) = !(endsB (sb l)) := by
  by_cases h : 0 ≤ Lib.indexByte l 49
  · obtain ⟨o, ho⟩ := Int.eq_ofNat_of_zero_le h
    have hs := (Lib.indexByte_some ho).1
    have hlt : o < l.length := by
      rcases Nat.lt_or_ge o l.length with k | k
      · exact k
      · rw [List.getElem?_eq_none k] at hs; cases hs
    rw [decide_eq_true h, ends_hit (sb l) o (by rw [sb_length]; exact hlt) ?_]; rfl
    rw [List.getD_eq_getElem?_getD]; unfold sb; rw [List.getElem?_map, hs]; rfl
  · have hm : Lib.indexByte l 49 = -1 := by have := Lib.indexByte_ge l 49; omega
    have hn := Lib.indexByte_none hm
    rw [decide_eq_false h, ends_all (sb l) ?_]; rfl
    intro i hi
    rw [sb_length] at hi
    have := hn i
    rw [List.getD_eq_getElem?_getD]; unfold sb; rw [List.getElem?_map]
    rw [List.getElem?_eq_getElem hi] at this ⊢
    simp only [Option.map_some, Option.getD_some]
    rw [beq_eq_false_iff_ne]
    intro e; exact this (by rw [e])

end Go.Proofs.Ytcljchngjaodgab
