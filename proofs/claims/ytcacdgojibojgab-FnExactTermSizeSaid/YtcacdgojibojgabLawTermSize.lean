/-
  The walk of the exact law on TermSize, out of the walks of the program and of the model.
-/
import Derived.Test.YtcacdgojibojgabTermSize
namespace Go.Proofs.Ytcacdgojibojgab
open Go.RowKit

set_option maxHeartbeats 400000 in
theorem lawTermSize (s : ByteArray) (_ : s.size ≤ maxLen) (w : World) :
    Calls Try.prog 9 #[.string s] w fun e w' => e = .returned (.bool true) ∧ Below w.heap.size w w' := by
  by_cases hs : s.size ≤ 1048576
  · go_enter Try.func9, Try.ntmps9
    go_wp2_with fail
    refine (specTermSize s _ hs).mono ?_
    rintro e w1 ⟨rfl, hb1⟩
    go_wp2_with fail
    refine (implTermSize s _ hs).mono ?_
    rintro e w2 ⟨rfl, m, rfl⟩
    cases (termOf s.data.toList).isSome
    all_goals
      go_wp2
      go_ret
      exact ⟨rfl, below_drewN hb1 m⟩
  · have hd : (1048576 : Int) < (s.size : Int) := by omega
    go_enter Try.func9, Try.ntmps9
    go_wp2
    go_ret
    exact ⟨rfl, Below.refl _ _⟩
end Go.Proofs.Ytcacdgojibojgab
