/-
  The walk of the exact law on RestMany, out of the walks of the program and of the model.
-/
import Derived.Test.YtifodjlfjnmnkaaSpecMany
import Derived.Test.YtifodjlfjnmnkaaRestManyI
namespace Go.Proofs.Ytifodjlfjnmnkaa
open Go.RowKit

set_option maxHeartbeats 400000 in
theorem lawRestMany (s : ByteArray) (_ : s.size ≤ maxLen) (m0 : Int) (w : World) (hg : 0 < w.heap.size) (hm : w.cell? ⟨0, 0, none⟩ = some (.int .i64 m0)) :
    Calls Try.prog 13 #[.string s] w fun e w' => e = .returned (.bool true) ∧ Below w.heap.size w w' := by
  by_cases hs : s.size ≤ 1048576
  · have hL : LibAt m0 w := ⟨hg, hm⟩
    clear hg hm
    go_enter Try.func13, Try.ntmps13
    go_wp2_with fail
    refine (specMany s _ hs).mono ?_
    rintro e w1 ⟨⟨n, rfl, hm1⟩, hb1⟩
    have HM := Lib.hid hm1
    clear hm1
    go_wp2_with fail
    refine (implMany s m0 _ hs (hL.below hb1)).mono ?_
    rintro e w2 ⟨⟨n2, rfl, hm2⟩, hb2⟩
    obtain rfl := numIs_unique many_unique HM.out hm2
    clear hm2
    clear HM
    generalize okS s = ok
    cases ok
    all_goals
      go_wp2
      go_ret
      exact ⟨rfl, hb1.trans (hb2.mono hb1.size)⟩
  · have hd : (1048576 : Int) < (s.size : Int) := by omega
    go_enter Try.func13, Try.ntmps13
    go_wp2
    go_ret
    exact ⟨rfl, Below.refl _ _⟩

end Go.Proofs.Ytifodjlfjnmnkaa
