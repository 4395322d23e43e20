/-
  The function that MakeEither hands joined. The walk of MakeEither, of the program.
-/
import Derived.Test.YtcacdgojibojgabJoinI
namespace Go.Proofs.Ytcacdgojibojgab
open Go.RowKit

theorem pair_either : PairGives 140 (fun x y => x || y) := by
  refine ⟨enters_of Try.func140 (by kernel_rfl) rfl, fun W x y => ?_⟩
  show Calls Try.prog 140 #[.bool x, .bool y] W _
  cases x <;> cases y <;>
    (go_enter Try.func140, Try.ntmps140
     go_wp2
     go_ret
     exact ⟨rfl, Below.refl _ _⟩)

theorem implEither (s t : ByteArray) (m : Int) (w : World) (hs : s.size ≤ 1048576) (ht : t.size ≤ 1048576) (hL : LibAt m w) :
    Calls Try.prog 137 #[.string s, .string t] w fun e w' => MakeEnd (okS s && okS t) (fun n => fS s n || fS t n) e ∧ Below w.heap.size w w' := by
  go_enter Try.func137, Try.ntmps137
  go_wp2_with fail
  refine (joined_any s t 140 _ m _ hs ht hL pair_either).mono ?_
  rintro e w1 ⟨⟨T, b, rfl, hm⟩, hb⟩
  have HM := Lib.hid hm
  clear hm
  go_wp2
  go_ret2
  exact ⟨⟨T, b, rfl, HM.out⟩, hb⟩

end Go.Proofs.Ytcacdgojibojgab
