/-
  The walks of impl.numbers.add, of impl.shifts.up and of impl.shiftsOf.
-/
import Derived.Test.YtojjfkabepkhdabElse
import Derived.Laws.CopyOwn
import Derived.Laws.Rows
import Derived.Laws.Tables
import Derived.Deep.OwnRows
set_option linter.unusedVariables false
set_option linter.unusedSimpArgs false
namespace Go.Proofs.Ytojjfkabepkhdab
open Go.RowKit

theorem ret_slice {p : Option Addr} {a a' b b' : Nat} (h : a = a') (h2 : b = b') : Ending.returned (.slice p a b) = .returned (.slice p a' b') := by rw [h, h2]

theorem vals_get {c : Nat → Bool} {N i : Nat} {v : Value} (h : ((List.range N).map fun i => Value.bool (c i))[i]? = some v) : i < N ∧ v = .bool (c i) := by
  rw [List.getElem?_map] at h
  rcases Nat.lt_or_ge i N with k | k
  · rw [List.getElem?_range k] at h
    exact ⟨k, by simpa using h.symm⟩
  · rw [List.getElem?_eq_none (by simpa using k)] at h; cases h
theorem splice_low {α : Type} (L : List α) (off : Nat) (cs : List α) (i : Nat) (h : i < off) (h2 : off ≤ L.length) : (splice L off cs)[i]? = L[i]? := by
  unfold splice
  rw [List.getElem?_append_left (by rw [List.length_take]; omega), List.getElem?_take_of_lt h]
theorem splice_in {α : Type} (L : List α) (off : Nat) (cs : List α) (i : Nat) (h : i < cs.length) (h2 : off ≤ L.length) : (splice L off cs)[off + i]? = cs[i]? := by
  unfold splice
  rw [List.getElem?_append_right (by rw [List.length_take]; omega), List.length_take, show off + i - min off L.length = i from by omega, List.getElem?_append_left h]
theorem behind_row {w : World} {g N : Nat} {f : Nat → Bool} {cur : Array Value} (hs : cur.size = 2 * N) (hc : ∀ i, i < 2 * N → cur[i]? = some (.bool false))
    (h : w.heap[g]? = some (.cells (splice cur.toList N ((List.range N).map fun i => Value.bool (f i))).toArray 4 (0, 0))) : BRow w g (2 * N) (behind N f) := by
  refine ⟨_, h, ?_, fun i hi => ?_⟩
  · rw [List.size_toArray, length_splice _ _ _ (by simp; omega)]; simpa using hs
  · rw [List.getElem?_toArray]
    rcases Nat.lt_or_ge i N with k | k
    · rw [splice_low _ _ _ _ k (by simp; omega), Array.getElem?_toList, hc i hi]
      unfold behind; rw [decide_eq_false (by omega)]; rfl
    · obtain ⟨j, rfl⟩ : ∃ j, i = N + j := ⟨i - N, by omega⟩
      rw [splice_in _ _ _ _ (by simp; omega) (by simp; omega), List.getElem?_map, List.getElem?_range (by omega)]
      unfold behind; rw [decide_eq_true (by omega), show N + j - N = j from by omega]; rfl
end Go.Proofs.Ytojjfkabepkhdab
