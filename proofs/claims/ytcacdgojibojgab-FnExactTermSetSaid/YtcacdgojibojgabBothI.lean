/-
  The function that MakeBoth hands joined. The walk of MakeBoth, of the program.
-/
import Derived.Test.YtcacdgojibojgabJoinI
namespace Go.Proofs.Ytcacdgojibojgab
open Go.RowKit

theorem pair_both : PairGives 141 (fun x y => x && y) := by
  refine ⟨enters_of Try.func141 (by kernel_rfl) rfl, fun W x y => ?_⟩
  show Calls Try.prog 141 #[.bool x, .bool y] W _
  cases x <;> cases y <;>
    (go_enter Try.func141, Try.ntmps141
     go_wp2
     go_ret
     exact ⟨rfl, Below.refl _ _⟩)

theorem implBoth (s t : ByteArray) (m : Int) (w : World) (hs : s.size ≤ 1048576) (ht : t.size ≤ 1048576) (hL : LibAt m w) :
    Calls Try.prog 138 #[.string s, .string t] w fun e w' => MakeEnd (okS s && okS t) (fun n => fS s n && fS t n) e ∧ Below w.heap.size w w' := by
  go_enter Try.func138, Try.ntmps138
  go_wp2_with fail
  refine (joined_any s t 141 _ m _ hs ht hL pair_both).mono ?_
  rintro e w1 ⟨⟨T, b, rfl, hm⟩, hb⟩
  have HM := Lib.hid hm
  clear hm
  go_wp2
  go_ret2
  exact ⟨⟨T, b, rfl, HM.out⟩, hb⟩

end Go.Proofs.Ytcacdgojibojgab
