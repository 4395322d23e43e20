/-
  The walk of the exact law on SolveLeast, out of the walks of the program and of the model.
-/
import Derived.Test.YtiphooodijbhiabSpecSolve
import Derived.Test.YtiphooodijbhiabSolveI
namespace Go.Proofs.Ytiphooodijbhiab
open Go.RowKit

set_option maxHeartbeats 400000 in
theorem lawSolveLeast (s : ByteArray) (_ : s.size ≤ maxLen) (t : ByteArray) (_ : t.size ≤ maxLen) (m : Int) (w : World) (hg : 0 < w.heap.size) (hm : w.cell? ⟨0, 0, none⟩ = some (.int .i64 m)) :
    Calls Try.prog 12 #[.string s, .string t] w fun e w' => e = .returned (.bool true) ∧ Below w.heap.size w w' := by
  by_cases hs : s.size ≤ 1048576
  · by_cases ht : t.size ≤ 1048576
    · have hL : LibAt m w := ⟨hg, hm⟩
      clear hg hm
      go_enter Try.func12, Try.ntmps12
      go_wp2_with fail
      refine (specLeast s t _ hs ht).mono ?_
      rintro e w1 ⟨⟨T, b, rfl, hm1⟩, hb1⟩
      have HM := Lib.hid hm1
      clear hm1
      go_wp2_with fail
      refine (implLeast s t m _ hs ht (hL.below hb1)).mono ?_
      rintro e w2 ⟨⟨U, c, rfl, hm2⟩, hb2⟩
      obtain ⟨rfl, rfl⟩ := makeIs_unique HM.out hm2
      clear hm2
      cases b
      all_goals
        go_wp2
        go_ret
        exact ⟨rfl, hb1.trans (hb2.mono hb1.size)⟩
    · have hd : (1048576 : Int) < (t.size : Int) := by omega
      have hd0 : (s.size : Int) ≤ 1048576 := by omega
      go_enter Try.func12, Try.ntmps12
      go_wp2
      go_ret
      exact ⟨rfl, Below.refl _ _⟩
  · have hd : (1048576 : Int) < (s.size : Int) := by omega
    go_enter Try.func12, Try.ntmps12
    go_wp2
    go_ret
    exact ⟨rfl, Below.refl _ _⟩

end Go.Proofs.Ytiphooodijbhiab
