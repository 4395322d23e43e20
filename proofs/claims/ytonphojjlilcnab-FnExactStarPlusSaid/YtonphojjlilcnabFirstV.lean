/-
  The first 180 truths of a set, as the program holds them.
-/
import Derived.Test.YtonphojjlilcnabCoreI
import Derived.Test.YtonphojjlilcnabTidy
import Derived.Laws.Rows
import Derived.Laws.Tables
import Derived.Laws.CopyOwn
namespace Go.Proofs.Ytonphojjlilcnab
open Go.RowKit

/-- The first 180 truths of g, as the model holds them. -/
def firstV (g : Nat → Bool) : Array Value := ((List.range 180).map fun i => Value.bool (g i)).toArray

theorem firstV_size (g : Nat → Bool) : (firstV g).size = 180 := by simp [firstV]

theorem firstV_at (g : Nat → Bool) (i : Nat) (h : i < 180) : (firstV g)[i]? = some (.bool (g i)) := by
  unfold firstV; simp [h]

theorem firstV_of (g : Nat → Bool) (cur : Array Value) (hs : cur.size = 180) (h : ∀ i, i < 180 → cur[i]? = some (.bool (g i))) : cur = firstV g := by
  apply Array.ext_getElem?
  intro i
  rcases Nat.lt_or_ge i 180 with k | k
  · rw [h i k, firstV_at g i k]
  · rw [Array.getElem?_eq_none (by omega), Array.getElem?_eq_none (by rw [firstV_size]; omega)]

theorem firstV_one (g : Nat → Bool) : (firstV g).all (·.oneCell') = true := by
  rw [Array.all_eq_true_iff_forall_mem]
  intro v hv
  unfold firstV at hv
  simp only [List.mem_toArray, List.mem_map] at hv
  obtain ⟨i, _, rfl⟩ := hv
  rfl

theorem Try.infoFirst : (Try.prog.info? 71).map (·.size) = some 180 := by kernel_rfl

theorem zeroFirst_size : Try.zeroCells71.size = 180 := by kernel_rfl

theorem zeroFirst_at (i : Nat) (h : i < 180) : Try.zeroCells71[i]? = some (.bool false) := by
  have e : Try.zeroCells71 = firstV (fun _ => false) := by kernel_rfl
  rw [e, firstV_at _ i h]

/-- A block of a whole array. -/
def Row180 (w : World) (g : Nat) (cur : Array Value) : Prop := w.heap[g]? = some (.cells cur 71 (0, 0))

theorem Row180.below {w w' : World} {g B : Nat} {cur : Array Value} (h : Row180 w g cur) (hb : Below B w w') (hg : g < B) : Row180 w' g cur := (hb.block g hg).trans h

end Go.Proofs.Ytonphojjlilcnab
