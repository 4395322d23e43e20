/-
  What the model's MakeEither, MakeBoth, MakeWithout, MakeOther answer.
-/
import Derived.Test.YtcljchngjaodgaaTwoS
namespace Go.Proofs.Ytcljchngjaodgaa
open Go.RowKit

theorem specEither (s t : ByteArray) (w : World) (hs : s.size ≤ 1048576) (ht : t.size ≤ 1048576) :
    Calls Try.prog 17 #[.string s, .string t] w fun e w' => MakeEnd (okS s && okS t) (fun n => fS s n || fS t n) e ∧ Below w.heap.size w w' := by
  go_enter Try.func17, Try.ntmps17
  go_wp2_with fail
  refine (specTwo s t 14 _ hs ht (by decide)).mono ?_
  rintro e w1 ⟨⟨T, b, rfl, hm⟩, hb⟩
  rw [twoF_either] at hm
  have HM := Lib.hid hm
  clear hm
  go_wp2
  go_ret2
  exact ⟨⟨T, b, rfl, HM.out⟩, hb⟩

theorem specBoth (s t : ByteArray) (w : World) (hs : s.size ≤ 1048576) (ht : t.size ≤ 1048576) :
    Calls Try.prog 22 #[.string s, .string t] w fun e w' => MakeEnd (okS s && okS t) (fun n => fS s n && fS t n) e ∧ Below w.heap.size w w' := by
  go_enter Try.func22, Try.ntmps22
  go_wp2_with fail
  refine (specTwo s t 8 _ hs ht (by decide)).mono ?_
  rintro e w1 ⟨⟨T, b, rfl, hm⟩, hb⟩
  rw [twoF_both] at hm
  have HM := Lib.hid hm
  clear hm
  go_wp2
  go_ret2
  exact ⟨⟨T, b, rfl, HM.out⟩, hb⟩

theorem specWithout (s t : ByteArray) (w : World) (hs : s.size ≤ 1048576) (ht : t.size ≤ 1048576) :
    Calls Try.prog 25 #[.string s, .string t] w fun e w' => MakeEnd (okS s && okS t) (fun n => fS s n && !fS t n) e ∧ Below w.heap.size w w' := by
  go_enter Try.func25, Try.ntmps25
  go_wp2_with fail
  refine (specTwo s t 4 _ hs ht (by decide)).mono ?_
  rintro e w1 ⟨⟨T, b, rfl, hm⟩, hb⟩
  rw [twoF_without] at hm
  have HM := Lib.hid hm
  clear hm
  go_wp2
  go_ret2
  exact ⟨⟨T, b, rfl, HM.out⟩, hb⟩

theorem specOther (s : ByteArray) (w : World) (hs : s.size ≤ 1048576) :
    Calls Try.prog 28 #[.string s] w fun e w' => MakeEnd (okS s) (fun n => !fS s n) e ∧ Below w.heap.size w w' := by
  go_enter Try.func28, Try.ntmps28
  go_wp2_with fail
  refine (specTwo s s 1 _ hs hs (by decide)).mono ?_
  rintro e w1 ⟨⟨T, b, rfl, hm⟩, hb⟩
  rw [twoF_other, Bool.and_self] at hm
  have HM := Lib.hid hm
  clear hm
  go_wp2
  go_ret2
  exact ⟨⟨T, b, rfl, HM.out⟩, hb⟩

end Go.Proofs.Ytcljchngjaodgaa
