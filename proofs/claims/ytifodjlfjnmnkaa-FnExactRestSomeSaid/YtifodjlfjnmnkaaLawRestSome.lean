/-
  The walk of the exact law on RestSome, out of the walks of the program and of the model.
-/
import Derived.Test.YtifodjlfjnmnkaaSpecQuot
import Derived.Test.YtifodjlfjnmnkaaRestSomeI
namespace Go.Proofs.Ytifodjlfjnmnkaa
open Go.RowKit

set_option maxHeartbeats 400000 in
theorem lawRestSome (s : ByteArray) (_ : s.size ≤ maxLen) (t : ByteArray) (_ : t.size ≤ maxLen) (m0 : Int) (w : World) (hg : 0 < w.heap.size) (hm : w.cell? ⟨0, 0, none⟩ = some (.int .i64 m0)) :
    Calls Try.prog 11 #[.string s, .string t] w fun e w' => e = .returned (.bool true) ∧ Below w.heap.size w w' := by
  by_cases hs : s.size ≤ 1048576
  · by_cases ht : t.size ≤ 1048576
    · have hL : LibAt m0 w := ⟨hg, hm⟩
      clear hg hm
      go_enter Try.func11, Try.ntmps11
      go_wp2_with fail
      refine (specSome s t _ hs ht).mono ?_
      rintro e w1 ⟨⟨T, b, rfl, hm1⟩, hb1⟩
      have HM := Lib.hid hm1
      clear hm1
      go_wp2_with fail
      refine (implSome s t m0 _ hs ht (hL.below hb1)).mono ?_
      rintro e w2 ⟨⟨U, c, rfl, hm2⟩, hb2⟩
      obtain ⟨rfl, rfl⟩ := makeIs_unique HM.out hm2
      clear hm2
      cases b
      all_goals
        go_wp2
        go_ret
        exact ⟨rfl, hb1.trans (hb2.mono hb1.size)⟩
    · have hd : (1048576 : Int) < (t.size : Int) := by omega
      have hd0 : (s.size : Int) ≤ 1048576 := by omega
      go_enter Try.func11, Try.ntmps11
      go_wp2
      go_ret
      exact ⟨rfl, Below.refl _ _⟩
  · have hd : (1048576 : Int) < (s.size : Int) := by omega
    go_enter Try.func11, Try.ntmps11
    go_wp2
    go_ret
    exact ⟨rfl, Below.refl _ _⟩

end Go.Proofs.Ytifodjlfjnmnkaa
