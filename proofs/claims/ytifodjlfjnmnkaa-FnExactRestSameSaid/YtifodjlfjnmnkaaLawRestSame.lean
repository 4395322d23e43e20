/-
  The walk of the exact law on RestSame, out of the walks of the program and of the model.
-/
import Derived.Test.YtifodjlfjnmnkaaSpecSameRest
import Derived.Test.YtifodjlfjnmnkaaRestSameI
namespace Go.Proofs.Ytifodjlfjnmnkaa
open Go.RowKit

set_option maxHeartbeats 400000 in
theorem lawRestSame (s : ByteArray) (_ : s.size ≤ maxLen) (i : Int) (_ : (Lit.int .i64 i).wf = true) (k : Int) (_ : (Lit.int .i64 k).wf = true) (m0 : Int) (w : World) (hg : 0 < w.heap.size) (hm : w.cell? ⟨0, 0, none⟩ = some (.int .i64 m0)) :
    Calls Try.prog 14 #[.string s, .int .i64 i, .int .i64 k] w fun e w' => e = .returned (.bool true) ∧ Below w.heap.size w w' := by
  by_cases hs : s.size ≤ 1048576
  · have hL : LibAt m0 w := ⟨hg, hm⟩
    clear hg hm
    go_enter Try.func14, Try.ntmps14
    go_wp2_with fail
    refine (specSameRest s i k _ hs).mono ?_
    rintro e w1 ⟨⟨b, rfl, hm1⟩, hb1⟩
    have HM := Lib.hid hm1
    clear hm1
    go_wp2_with fail
    refine (implSameRest s i k m0 _ hs (hL.below hb1)).mono ?_
    rintro e w2 ⟨⟨b2, rfl, hm2⟩, hb2⟩
    obtain rfl := twinIs_unique HM.out hm2
    clear hm2
    cases b
    all_goals
      go_wp2
      go_ret
      exact ⟨rfl, hb1.trans (hb2.mono hb1.size)⟩
  · have hd : (1048576 : Int) < (s.size : Int) := by omega
    go_enter Try.func14, Try.ntmps14
    go_wp2
    go_ret
    exact ⟨rfl, Below.refl _ _⟩

end Go.Proofs.Ytifodjlfjnmnkaa
