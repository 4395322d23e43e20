/-
  The set of just the numbers of a list: plain facts.
-/
import Derived.Test.YtcljchngjaodgabFirstV
import Derived.Test.YtcljchngjaodgabInts
namespace Go.Proofs.Ytcljchngjaodgab
open Go.RowKit

/-- Is n among the numbers? -/
def marked (l : List Int) (n : Nat) : Bool := l.any (· == (n : Int))
def goodAll (l : List Int) : Bool := l.all fun z => decide (0 ≤ z ∧ z < 60)
def markT (l : List Int) : List Bool := (List.range 60).map (marked l)
/-- The set of just these numbers. -/
def fL (l : List Int) : Nat → Bool := hasB (markT l) [false]
theorem markT_length (l : List Int) : (markT l).length = 60 := by simp [markT]
theorem markT_getD (l : List Int) (i : Nat) (h : i < 60) : (markT l).getD i false = marked l i := by
  rw [List.getD_eq_getElem?_getD, List.getElem?_eq_getElem (by rw [markT_length]; exact h)]; simp [markT]
theorem fL_low (l : List Int) (i : Nat) (h : i < 60) : fL l i = marked l i := by
  unfold fL; rw [hasB_tail _ _ _ (by rw [markT_length]; exact h), markT_getD l i h]
theorem fL_high (l : List Int) (i : Nat) (h : 60 ≤ i) : fL l i = false := by
  unfold fL
  obtain ⟨j, rfl⟩ : ∃ j, i = (markT l).length + j := ⟨i - 60, by rw [markT_length]; omega⟩
  rw [hasB_ring, show j % [false].length = 0 from Nat.mod_one j]; rfl
theorem marked_snoc (l : List Int) (y n : Nat) : marked (l ++ [(y : Int)]) n = (marked l n || decide (y = n)) := by
  unfold marked
  rw [List.any_append]
  congr 1
  simp only [List.any_cons, List.any_nil, Bool.or_false]
  rw [Bool.eq_iff_iff, beq_iff_eq, decide_eq_true_eq]; omega
theorem made60 : (madeCells #[Value.bool false] 60).toList = (markT []).map Value.bool := by rw [toList_madeCells_one]; rfl
theorem bools_snoc (l : List Int) (y : Nat) : ((markT l).map Value.bool).set y (.bool true) = (markT (l ++ [(y : Int)])).map Value.bool := by
  apply List.ext_getElem?
  intro i
  rcases Nat.lt_or_ge i 60 with k | k
  · have e : ∀ l', ((markT l').map Value.bool)[i]? = some (.bool (marked l' i)) := fun l' => by
      rw [List.getElem?_map, List.getElem?_eq_getElem (by rw [markT_length]; exact k)]; simp [markT]
    by_cases h : y = i
    · subst h
      rw [List.getElem?_set_self (by rw [List.length_map, markT_length]; exact k), e, marked_snoc]; simp
    · rw [List.getElem?_set_ne h, e, e, marked_snoc, decide_eq_false h, Bool.or_false]
  · rw [List.getElem?_eq_none (by rw [List.length_set, List.length_map, markT_length]; exact k), List.getElem?_eq_none (by rw [List.length_map, markT_length]; exact k)]
theorem first_snoc (l : List Int) (y : Nat) (hy : y < 60) : (firstV (fL l)).setIfInBounds y (.bool true) = firstV (fL (l ++ [(y : Int)])) := by
  refine firstV_of _ _ (by rw [Array.size_setIfInBounds, firstV_size]) ?_
  intro i hi
  rw [Array.getElem?_setIfInBounds]
  by_cases e : y = i
  · subst e
    rw [if_pos rfl, if_pos (by rw [firstV_size]; omega), fL_low _ _ hy, marked_snoc]; simp
  · rw [if_neg e, firstV_at _ i hi]
    rcases Nat.lt_or_ge i 60 with k | k
    · rw [fL_low _ _ k, fL_low _ _ k, marked_snoc, decide_eq_false e, Bool.or_false]
    · rw [fL_high _ _ k, fL_high _ _ k]
theorem good_at {l : List Int} (h : goodAll l = true) (i : Nat) (hi : i < l.length) : 0 ≤ l.getD i 0 ∧ l.getD i 0 < 60 := by
  unfold goodAll at h
  have := List.all_eq_true.1 h (l[i]) (List.getElem_mem hi)
  rw [List.getD_eq_getElem?_getD, List.getElem?_eq_getElem hi, Option.getD_some]
  exact of_decide_eq_true this
theorem good_of {l : List Int} (h : ∀ i, i < l.length → 0 ≤ l.getD i 0 ∧ l.getD i 0 < 60) : goodAll l = true := by
  unfold goodAll
  rw [List.all_eq_true]
  intro x hx
  obtain ⟨i, hi, rfl⟩ := List.getElem_of_mem hx
  have := h i hi
  rw [List.getD_eq_getElem?_getD, List.getElem?_eq_getElem hi, Option.getD_some] at this
  exact decide_eq_true this
theorem takeI_snoc (l : List Int) (k : Nat) (h : k < l.length) : l.take (k + 1) = l.take k ++ [l.getD k 0] := by
  rw [List.take_succ_eq_append_getElem h, List.getD_eq_getElem?_getD, List.getElem?_eq_getElem h]; rfl

theorem fL_nil : fL [] = fun _ => false := by
  funext i
  rcases Nat.lt_or_ge i 60 with k | k
  · rw [fL_low _ _ k]; rfl
  · exact fL_high _ _ k

end Go.Proofs.Ytcljchngjaodgab
