/-
  What the model's SumOf answers.
-/
import Derived.Test.YtiphooodijbhiaaSumS
set_option linter.unusedVariables false
set_option linter.unusedSimpArgs false
namespace Go.Proofs.Ytiphooodijbhiaa
open Go.RowKit

set_option maxHeartbeats 400000 in
theorem specSum (s t : ByteArray) (w : World) (hs : s.size ≤ 1048576) (ht : t.size ≤ 1048576) :
    Calls Try.prog 119 #[.string s, .string t] w fun e w' => MakeEnd (smallS s && smallS t) (sumG false (fS s) (fS t)) e ∧ Below w.heap.size w w' := by
  go_enter Try.func119, Try.ntmps119
  go_wp2_with fail
  refine (l4Small_any s _ hs).mono ?_
  rintro e w1 ⟨a1, n1, c1, a2, n2, c2, rfl, hb, hA⟩
  have HB1 := Lib.hid hb
  have HA := Lib.hid hA
  clear hb hA
  go_wp2_with fail
  refine (l4Small_any t _ ht).mono ?_
  rintro e w2 ⟨b1, m1, d1, b2, m2, d2, rfl, hb2, hB⟩
  have HB2 := Lib.hid (below_second HB1.out hb2 (.cells #[.slice b1 m1 d1, .slice b2 m2 d2] 75))
  have HB := Lib.hid hB
  cases h1 : smallS s
  · cases h2 : smallS t
    · clear hb2 hB
      go_wp2
      go_ret2
      exact ⟨makeEnd_off (by rw [h1]; rfl), HB2.out⟩
    · clear hb2 hB
      go_wp2
      go_ret2
      exact ⟨makeEnd_off (by rw [h1]; rfl), HB2.out⟩
  · cases h2 : smallS t
    · clear hb2 hB
      go_wp2
      go_ret2
      exact ⟨makeEnd_off (by rw [h1, h2]; rfl), HB2.out⟩
    · obtain ⟨e1, e2⟩ := boxes_later hb2 ((Below.refl (w2.alloc (.cells #[.slice b1 m1 d1, .slice b2 m2 d2] 75)).heap.size (w2.alloc (.cells #[.slice b1 m1 d1, .slice b2 m2 d2] 75))))
      have HA2 := Lib.hid ((((HA.out h1).alloc (.cells #[.slice a1 n1 c1, .slice a2 n2 c2] 75)).below hb2 (Nat.le_refl _)).alloc (.cells #[.slice b1 m1 d1, .slice b2 m2 d2] 75))
      have HB3 := Lib.hid ((HB.out h2).alloc (.cells #[.slice b1 m1 d1, .slice b2 m2 d2] 75))
      obtain ⟨⟨q0, q1⟩, q2, q3⟩ := And.intro e1 e2
      have HOK : Hid ((smallS s && smallS t) = true) := Lib.hid (by rw [h1, h2]; rfl)
      clear hb2 hB h1 h2
      go_wp2_with fail
      refine (l4Sum_any false (fS s) (fS t) a1 n1 c1 a2 n2 c2 b1 m1 d1 b2 m2 d2 _ HA2.out HB3.out (fun x => by cases x)).mono ?_
      rintro e w3 ⟨⟨U, b, rfl, hm⟩, hb3⟩
      have HM := Lib.hid hm
      have HB4 := Lib.hid (HB2.out.trans (hb3.mono HB2.out.size))
      clear hm hb3
      go_wp2
      go_ret2
      rw [HOK.out]
      exact ⟨makeEnd_on HM.out, HB4.out⟩

end Go.Proofs.Ytiphooodijbhiaa
