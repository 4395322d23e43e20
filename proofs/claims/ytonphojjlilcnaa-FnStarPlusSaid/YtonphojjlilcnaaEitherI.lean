/-
  The walk of MakeEither, of the program.
-/
import Derived.Test.YtonphojjlilcnaaJoinI
import Derived.Test.YtonphojjlilcnaaClosEither
namespace Go.Proofs.Ytonphojjlilcnaa
open Go.RowKit

theorem implEither (s t : ByteArray) (m : Int) (w : World) (hs : s.size ≤ 1048576) (ht : t.size ≤ 1048576) (hL : LibAt m w) :
    Calls Try.prog 34 #[.string s, .string t] w fun e w' => MakeEnd (okS s && okS t) (fun n => fS s n || fS t n) e ∧ Below w.heap.size w w' := by
  go_enter Try.func34, Try.ntmps34
  go_wp2_with fail
  refine (joined_any s t 70 _ m _ hs ht hL pair_either).mono ?_
  rintro e w1 ⟨⟨T, b, rfl, hm⟩, hb⟩
  have HM := Lib.hid hm
  clear hm
  go_wp2
  go_ret2
  exact ⟨⟨T, b, rfl, HM.out⟩, hb⟩

end Go.Proofs.Ytonphojjlilcnaa
