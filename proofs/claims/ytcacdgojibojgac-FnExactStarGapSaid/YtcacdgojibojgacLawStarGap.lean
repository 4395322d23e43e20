/-
  The walk of the exact law on StarGap, out of the walks of the program and of the model.
-/
import Derived.Test.YtcacdgojibojgacSpecGap
import Derived.Test.YtcacdgojibojgacStarGapI
namespace Go.Proofs.Ytcacdgojibojgac
open Go.RowKit

set_option maxHeartbeats 400000 in
theorem lawStarGap (s : ByteArray) (_ : s.size ≤ maxLen) (m : Int) (w : World) (hg : 0 < w.heap.size) (hm : w.cell? ⟨0, 0, none⟩ = some (.int .i64 m)) :
    Calls Try.prog 11 #[.string s] w fun e w' => e = .returned (.bool true) ∧ Below w.heap.size w w' := by
  by_cases hs : s.size ≤ 1048576
  · have hL : LibAt m w := ⟨hg, hm⟩
    clear hg hm
    go_enter Try.func11, Try.ntmps11
    go_wp2_with fail
    refine (specGap s _ hs).mono ?_
    rintro e w1 ⟨⟨T, b, rfl, hm1⟩, hb1⟩
    have HM := Lib.hid hm1
    clear hm1
    go_wp2_with fail
    refine (implGap s m _ hs (hL.below hb1)).mono ?_
    rintro e w2 ⟨⟨U, c, rfl, hm2⟩, hb2⟩
    obtain ⟨rfl, rfl⟩ := gapOut_unique HM.out hm2
    clear hm2
    cases b
    all_goals
      go_wp2
      go_ret
      exact ⟨rfl, hb1.trans (hb2.mono hb1.size)⟩
  · have hd : (1048576 : Int) < (s.size : Int) := by omega
    go_enter Try.func11, Try.ntmps11
    go_wp2
    go_ret
    exact ⟨rfl, Below.refl _ _⟩

end Go.Proofs.Ytcacdgojibojgac
