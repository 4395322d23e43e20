/-
  The walk of the program's RestText.
-/
import Derived.Test.YtifodjlfjnmnkaaMakeDownI
namespace Go.Proofs.Ytifodjlfjnmnkaa
open Go.RowKit

theorem implRest (s : ByteArray) (k m : Int) (w : World) (hs : s.size ≤ 1048576) (hL : LibAt m w) :
    Calls Try.prog 29 #[.string s, .int .i64 k] w fun e w' => MakeEnd (okS s && inR k 0 1000) (downF (fS s) k.toNat) e ∧ Below w.heap.size w w' := by
  go_enter Try.func29, Try.ntmps29
  go_wp2_with fail
  refine (implDown s k m _ hs hL).mono ?_
  rintro e w1 ⟨⟨T, b, rfl, hm⟩, hb⟩
  have HM := Lib.hid hm
  have HB := Lib.hid hb
  clear hm hb
  go_wp2
  go_ret2
  exact ⟨⟨T, b, rfl, HM.out⟩, HB.out⟩
end Go.Proofs.Ytifodjlfjnmnkaa
