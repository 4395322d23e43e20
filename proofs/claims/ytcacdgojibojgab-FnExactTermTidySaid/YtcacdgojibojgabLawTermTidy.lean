/-
  The walk of the exact law on TermTidy, out of the walks of the program and of the model.
-/
import Derived.Test.YtcacdgojibojgabTermTidyAS
import Derived.Test.YtcacdgojibojgabTermTidyAll
namespace Go.Proofs.Ytcacdgojibojgab
open Go.RowKit

set_option maxHeartbeats 400000 in
theorem lawTermTidy (s : ByteArray) (_ : s.size ≤ maxLen) (w : World) :
    Calls Try.prog 7 #[.string s] w fun e w' => e = .returned (.bool true) ∧ Below w.heap.size w w' := by
  by_cases hs : s.size ≤ 1048576
  · go_enter Try.func7, Try.ntmps7
    go_wp2_with fail
    refine (specTermTidy s (tidyS s) _ rfl).mono ?_
    rintro e w1 ⟨rfl, hb1⟩
    go_wp2_with fail
    refine (implTermTidy s _).mono ?_
    rintro e w2 ⟨rfl, hb2⟩
    cases (termOf s.data.toList).isSome
    all_goals
      go_wp2
      go_ret
      exact ⟨rfl, hb1.trans (hb2.mono hb1.size)⟩
  · have hd : (1048576 : Int) < (s.size : Int) := by omega
    go_enter Try.func7, Try.ntmps7
    go_wp2
    go_ret
    exact ⟨rfl, Below.refl _ _⟩
end Go.Proofs.Ytcacdgojibojgab
