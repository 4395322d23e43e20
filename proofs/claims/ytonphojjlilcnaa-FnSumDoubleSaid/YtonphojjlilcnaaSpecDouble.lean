/-
  What the model's SumDouble answers.
-/
import Derived.Test.YtonphojjlilcnaaSumS
set_option linter.unusedVariables false
set_option linter.unusedSimpArgs false
namespace Go.Proofs.Ytonphojjlilcnaa
open Go.RowKit

set_option maxHeartbeats 400000 in
theorem specDouble (s : ByteArray) (w : World) (hs : s.size ≤ 1048576) :
    Calls Try.prog 26 #[.string s] w fun e w' => MakeEnd (smallS s) (sumG true (fS s) (fS s)) e ∧ Below w.heap.size w w' := by
  go_enter Try.func26, Try.ntmps26
  go_wp2_with fail
  refine (l4Small_any s _ hs).mono ?_
  rintro e w1 ⟨a1, n1, c1, a2, n2, c2, rfl, hb, hA⟩
  have HB1 := Lib.hid (hb.alloc hb.size (.cells #[.slice a1 n1 c1, .slice a2 n2 c2] 59))
  have HA := Lib.hid hA
  clear hb hA
  cases h1 : smallS s
  · go_wp2
    go_ret2
    exact ⟨makeEnd_off h1, HB1.out⟩
  · have HA2 := Lib.hid ((HA.out h1).alloc (.cells #[.slice a1 n1 c1, .slice a2 n2 c2] 59))
    have HOK := Lib.hid h1
    clear h1
    go_wp2_with fail
    refine (l4Sum_any true (fS s) (fS s) a1 n1 c1 a2 n2 c2 a1 n1 c1 a2 n2 c2 _ HA2.out HA2.out (fun _ => rfl)).mono ?_
    rintro e w3 ⟨⟨U, b, rfl, hm⟩, hb3⟩
    have HM := Lib.hid hm
    have HB4 := Lib.hid (HB1.out.trans (hb3.mono HB1.out.size))
    clear hm hb3
    go_wp2
    go_ret2
    rw [HOK.out]
    exact ⟨makeEnd_on HM.out, HB4.out⟩

end Go.Proofs.Ytonphojjlilcnaa
