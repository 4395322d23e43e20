/-
  The function that MakeEither hands joined. The walk of MakeEither, of the program.
-/
import Derived.Test.YtiphooodijbhiabJoinI
namespace Go.Proofs.Ytiphooodijbhiab
open Go.RowKit

theorem pair_either : PairGives 110 (fun x y => x || y) := by
  refine ⟨enters_of Try.func110 (by kernel_rfl) rfl, fun W x y => ?_⟩
  show Calls Try.prog 110 #[.bool x, .bool y] W _
  cases x <;> cases y <;>
    (go_enter Try.func110, Try.ntmps110
     go_wp2
     go_ret
     exact ⟨rfl, Below.refl _ _⟩)

theorem implEither (s t : ByteArray) (m : Int) (w : World) (hs : s.size ≤ 1048576) (ht : t.size ≤ 1048576) (hL : LibAt m w) :
    Calls Try.prog 72 #[.string s, .string t] w fun e w' => MakeEnd (okS s && okS t) (fun n => fS s n || fS t n) e ∧ Below w.heap.size w w' := by
  go_enter Try.func72, Try.ntmps72
  go_wp2_with fail
  refine (joined_any s t 110 _ m _ hs ht hL pair_either).mono ?_
  rintro e w1 ⟨⟨T, b, rfl, hm⟩, hb⟩
  have HM := Lib.hid hm
  clear hm
  go_wp2
  go_ret2
  exact ⟨⟨T, b, rfl, HM.out⟩, hb⟩

end Go.Proofs.Ytiphooodijbhiab
