/-
  What the model's MakeEither, MakeBoth, MakeWithout, MakeOther answer.
-/
import Derived.Test.YtcacdgojibojgabTwoS
namespace Go.Proofs.Ytcacdgojibojgab
open Go.RowKit

theorem specEither (s t : ByteArray) (w : World) (hs : s.size ≤ 1048576) (ht : t.size ≤ 1048576) :
    Calls Try.prog 53 #[.string s, .string t] w fun e w' => MakeEnd (okS s && okS t) (fun n => fS s n || fS t n) e ∧ Below w.heap.size w w' := by
  go_enter Try.func53, Try.ntmps53
  go_wp2_with fail
  refine (specTwo s t 14 _ hs ht (by decide)).mono ?_
  rintro e w1 ⟨⟨T, b, rfl, hm⟩, hb⟩
  rw [twoF_either] at hm
  have HM := Lib.hid hm
  clear hm
  go_wp2
  go_ret2
  exact ⟨⟨T, b, rfl, HM.out⟩, hb⟩

theorem specBoth (s t : ByteArray) (w : World) (hs : s.size ≤ 1048576) (ht : t.size ≤ 1048576) :
    Calls Try.prog 55 #[.string s, .string t] w fun e w' => MakeEnd (okS s && okS t) (fun n => fS s n && fS t n) e ∧ Below w.heap.size w w' := by
  go_enter Try.func55, Try.ntmps55
  go_wp2_with fail
  refine (specTwo s t 8 _ hs ht (by decide)).mono ?_
  rintro e w1 ⟨⟨T, b, rfl, hm⟩, hb⟩
  rw [twoF_both] at hm
  have HM := Lib.hid hm
  clear hm
  go_wp2
  go_ret2
  exact ⟨⟨T, b, rfl, HM.out⟩, hb⟩

end Go.Proofs.Ytcacdgojibojgab
