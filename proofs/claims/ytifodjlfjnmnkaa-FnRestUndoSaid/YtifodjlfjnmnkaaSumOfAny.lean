/-
  The walk of SumOf, of the program, whatever the texts.
-/
import Derived.Test.YtifodjlfjnmnkaaSumOfI
set_option linter.unusedVariables false
set_option linter.unusedSimpArgs false
namespace Go.Proofs.Ytifodjlfjnmnkaa
open Go.RowKit

set_option maxHeartbeats 400000 in
theorem implSum_off (s t : ByteArray) (m : Int) (w : World) (hs : s.size ≤ 1048576) (ht : t.size ≤ 1048576) (hL : LibAt m w) (h : (smallS s && smallS t) = false) :
    Calls Try.prog 40 #[.string s, .string t] w fun e w' => MakeEnd (smallS s && smallS t) (sumG false (fS s) (fS t)) e ∧ Below w.heap.size w w' := by
  have HL := Lib.hid hL
  have HE := Lib.hid h
  have hor : smallS s = false ∨ (smallS s = true ∧ smallS t = false) := by
    cases h1 : smallS s
    · exact .inl rfl
    · rw [h1, Bool.true_and] at h; exact .inr ⟨rfl, h⟩
  clear hL h
  go_enter Try.func40, Try.ntmps40
  go_wp2_with fail
  refine (smallSet_any s m _ hs HL.out).mono ?_
  rintro e w1 ⟨⟨T, R, rfl, hsp⟩, hb⟩
  have HB1 := Lib.hid hb
  clear hsp hb
  go_wp2_with fail
  refine (smallSet_any t m _ ht ((HL.out.below HB1.out).alloc _)).mono ?_
  rintro e w2 ⟨⟨T2, R2, rfl, hsp2⟩, hb2⟩
  have HB2 := Lib.hid (below_second HB1.out hb2 (.cells #[.string T2, .string R2] 57))
  clear hsp2 hb2
  rcases hor with h1 | ⟨h1, h2⟩
  · rw [h1]
    cases smallS t
    · go_wp2
      go_ret2
      exact ⟨makeEnd_off HE.out, HB2.out⟩
    · go_wp2
      go_ret2
      exact ⟨makeEnd_off HE.out, HB2.out⟩
  · rw [h1, h2]
    go_wp2
    go_ret2
    exact ⟨makeEnd_off HE.out, HB2.out⟩

theorem implSum (s t : ByteArray) (m : Int) (w : World) (hs : s.size ≤ 1048576) (ht : t.size ≤ 1048576) (hL : LibAt m w) :
    Calls Try.prog 40 #[.string s, .string t] w fun e w' => MakeEnd (smallS s && smallS t) (sumG false (fS s) (fS t)) e ∧ Below w.heap.size w w' := by
  cases h : (smallS s && smallS t)
  · have := implSum_off s t m w hs ht hL h
    rw [h] at this
    exact this
  · rw [Bool.and_eq_true] at h
    exact implSum_on s t m w hs ht hL h.1 h.2

end Go.Proofs.Ytifodjlfjnmnkaa
