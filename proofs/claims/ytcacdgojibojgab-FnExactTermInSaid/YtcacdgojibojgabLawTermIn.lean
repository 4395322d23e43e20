/-
  The walk of the exact law on TermIn, out of the walks of the program and of the model.
-/
import Derived.Test.YtcacdgojibojgabTermPart
import Derived.Test.YtcacdgojibojgabTermI
namespace Go.Proofs.Ytcacdgojibojgab
open Go.RowKit

set_option maxHeartbeats 400000 in
theorem lawTermIn (s : ByteArray) (_ : s.size ≤ maxLen) (w : World) :
    Calls Try.prog 3 #[.string s] w fun e w' => e = .returned (.bool true) ∧ Below w.heap.size w w' := by
  by_cases hs : s.size ≤ 1048576
  · go_enter Try.func3, Try.ntmps3
    go_wp2_with fail
    refine (specTermIn s _).mono ?_
    rintro e w1 ⟨rfl, hb1⟩
    go_wp2_with fail
    refine (implTermIn s _).mono ?_
    rintro e w2 ⟨rfl, m, rfl⟩
    cases (termOf s.data.toList).isSome
    all_goals
      go_wp2
      go_ret
      exact ⟨rfl, below_drewN hb1 m⟩
  · have hd : (1048576 : Int) < (s.size : Int) := by omega
    go_enter Try.func3, Try.ntmps3
    go_wp2
    go_ret
    exact ⟨rfl, Below.refl _ _⟩
end Go.Proofs.Ytcacdgojibojgab
