/-
  The zero value of the first numbers, for a translation whose load does not name it (80 functions or fewer).
-/
import Derived.Test.YtifodjlfjnmnkabBase
namespace Go.Proofs.Ytifodjlfjnmnkab
open Go.RowKit

def Try.zeroCells64 : Array Value := (List.replicate 180 (Value.bool false)).toArray
@[simp] theorem zeroFirst_run (w : World) : (zeroValue 64).run Try.prog w = .ok (.agg Try.zeroCells64) w := by kernel_rfl
theorem zeroFirst_len : Try.zeroCells64.size = 180 := by kernel_rfl
@[simp] theorem zeroFirst_some : Try.zeroCells64 ≠ #[] := by
  intro h
  have h2 := zeroFirst_len
  rw [h] at h2
  cases h2
end Go.Proofs.Ytifodjlfjnmnkab
