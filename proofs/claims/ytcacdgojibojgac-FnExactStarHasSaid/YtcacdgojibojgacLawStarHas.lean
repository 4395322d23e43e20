/-
  The walk of the exact law on StarHas, out of the walks of the program and of the model.
-/
import Derived.Test.YtcacdgojibojgacSpecHas
import Derived.Test.YtcacdgojibojgacStarHasI
namespace Go.Proofs.Ytcacdgojibojgac
open Go.RowKit

set_option maxHeartbeats 400000 in
theorem lawStarHas (s : ByteArray) (_ : s.size ≤ maxLen) (n : Int) (_ : (Lit.int .i64 n).wf = true) (m : Int) (w : World) (hg : 0 < w.heap.size) (hm : w.cell? ⟨0, 0, none⟩ = some (.int .i64 m)) :
    Calls Try.prog 10 #[.string s, .int .i64 n] w fun e w' => e = .returned (.bool true) ∧ Below w.heap.size w w' := by
  by_cases hs : s.size ≤ 1048576
  · have hL : LibAt m w := ⟨hg, hm⟩
    clear hg hm
    go_enter Try.func10, Try.ntmps10
    go_wp2_with fail
    refine (specHas s n _ hs).mono ?_
    rintro e w1 ⟨rfl, hb1⟩
    go_wp2_with fail
    refine (implHas s n m _ hs (hL.below hb1)).mono ?_
    rintro e w2 ⟨rfl, hb2⟩
    cases starHasV s n
    all_goals
      go_wp2
      go_ret
      exact ⟨rfl, hb1.trans (hb2.mono hb1.size)⟩
  · have hd : (1048576 : Int) < (s.size : Int) := by omega
    go_enter Try.func10, Try.ntmps10
    go_wp2
    go_ret
    exact ⟨rfl, Below.refl _ _⟩

end Go.Proofs.Ytcacdgojibojgac
