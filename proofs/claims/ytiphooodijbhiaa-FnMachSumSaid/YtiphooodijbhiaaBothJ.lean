/-
  The function that MakeBoth hands joined. The walk of MakeBoth, of the program.
-/
import Derived.Test.YtiphooodijbhiaaJoinI
namespace Go.Proofs.Ytiphooodijbhiaa
open Go.RowKit

theorem pairJ_both : PairGives 82 (fun x y => x && y) := by
  refine ⟨enters_of Try.func82 (by kernel_rfl) rfl, fun W x y => ?_⟩
  show Calls Try.prog 82 #[.bool x, .bool y] W _
  cases x <;> cases y <;>
    (go_enter Try.func82, Try.ntmps82
     go_wp2
     go_ret
     exact ⟨rfl, Below.refl _ _⟩)

theorem implJoinBoth (s t : ByteArray) (m : Int) (w : World) (hs : s.size ≤ 1048576) (ht : t.size ≤ 1048576) (hL : LibAt m w) :
    Calls Try.prog 33 #[.string s, .string t] w fun e w' => MakeEnd (okS s && okS t) (fun n => fS s n && fS t n) e ∧ Below w.heap.size w w' := by
  go_enter Try.func33, Try.ntmps33
  go_wp2_with fail
  refine (joined_any s t 82 _ m _ hs ht hL pairJ_both).mono ?_
  rintro e w1 ⟨⟨T, b, rfl, hm⟩, hb⟩
  have HM := Lib.hid hm
  clear hm
  go_wp2
  go_ret2
  exact ⟨⟨T, b, rfl, HM.out⟩, hb⟩

end Go.Proofs.Ytiphooodijbhiaa
