/-
  The function that MakeEither hands joined. The walk of MakeEither, of the program.
-/
import Derived.Test.YtcacdgojibojgadJoinI
namespace Go.Proofs.Ytcacdgojibojgad
open Go.RowKit

theorem pair_either : PairGives 62 (fun x y => x || y) := by
  refine ⟨enters_of Try.func62 (by kernel_rfl) rfl, fun W x y => ?_⟩
  show Calls Try.prog 62 #[.bool x, .bool y] W _
  cases x <;> cases y <;>
    (go_enter Try.func62, Try.ntmps62
     go_wp2
     go_ret
     exact ⟨rfl, Below.refl _ _⟩)

theorem implEither (s t : ByteArray) (m : Int) (w : World) (hs : s.size ≤ 1048576) (ht : t.size ≤ 1048576) (hL : LibAt m w) :
    Calls Try.prog 28 #[.string s, .string t] w fun e w' => MakeEnd (okS s && okS t) (fun n => fS s n || fS t n) e ∧ Below w.heap.size w w' := by
  go_enter Try.func28, Try.ntmps28
  go_wp2_with fail
  refine (joined_any s t 62 _ m _ hs ht hL pair_either).mono ?_
  rintro e w1 ⟨⟨T, b, rfl, hm⟩, hb⟩
  have HM := Lib.hid hm
  clear hm
  go_wp2
  go_ret2
  exact ⟨⟨T, b, rfl, HM.out⟩, hb⟩

end Go.Proofs.Ytcacdgojibojgad
