/-
  The walk of restLine.round.
-/
import Derived.Test.YtcacdgojibojgacFillI
namespace Go.Proofs.Ytcacdgojibojgac
open Go.RowKit
set_option linter.unusedVariables false

set_option maxHeartbeats 1000000 in
theorem round_any (a : Option Addr) (c m q : Nat) (w : World) (hs : m + q ≤ 1000) :
    Calls Try.prog 114 #[.agg #[.slice a (m + q : Nat) c, .int .i64 m]] w fun e w' => e = .returned (.int .i64 q) ∧ Below w.heap.size w w' := by
  go_enter Try.func114, Try.ntmps114
  go_wp2
  go_ret
  exact ⟨ret_int (by omega), (Below.refl _ _).alloc (Nat.le_refl _) _⟩

end Go.Proofs.Ytcacdgojibojgac
