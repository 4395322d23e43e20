/-
  The set of 0 alone, as SetOf makes it of a list.
-/
import Derived.Test.YtiphooodijbhiaaSetOfI
import Derived.Test.YtiphooodijbhiaaTimesMath
namespace Go.Proofs.Ytiphooodijbhiaa
open Go.RowKit

theorem fL_one : fL [0] = zeroOnly := by
  funext n
  rcases Nat.lt_or_ge n 60 with h | h
  · rw [fL_low _ _ h]
    unfold marked zeroOnly
    cases n with
    | zero => rfl
    | succ n => simp; omega
  · rw [fL_high _ _ h]; unfold zeroOnly; rw [decide_eq_false (by omega)]
theorem tidy_one : TidyText (fL [0]) ⟨#[49, 40, 48, 41]⟩ := by rw [fL_one]; exact tidyText_zeroOnly
theorem one_read (w : World) : ReadsI (w.alloc (.cells #[.int .i64 0] 3)) (some ⟨w.heap.size, 0, none⟩) 1 [0] :=
  ⟨rfl, .inr ⟨w.heap.size, 0, rfl, by simp, fun i hi => by
    obtain rfl : i = 0 := by omega
    rw [Nat.add_zero, World.cell?_alloc_at _ _ _ _ rfl]; rfl⟩⟩

end Go.Proofs.Ytiphooodijbhiaa
