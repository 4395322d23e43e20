/-
  The function that MakeWithout hands joined. The walk of MakeWithout, of the program. The walk of MakeOther, of the program.
-/
import Derived.Test.YtcacdgojibojgacJoinI
namespace Go.Proofs.Ytcacdgojibojgac
open Go.RowKit

theorem pair_without : PairGives 127 (fun x y => x && !y) := by
  refine ⟨enters_of Try.func127 (by kernel_rfl) rfl, fun W x y => ?_⟩
  show Calls Try.prog 127 #[.bool x, .bool y] W _
  cases x <;> cases y <;>
    (go_enter Try.func127, Try.ntmps127
     go_wp2
     go_ret
     exact ⟨rfl, Below.refl _ _⟩)

theorem implWithout (s t : ByteArray) (m : Int) (w : World) (hs : s.size ≤ 1048576) (ht : t.size ≤ 1048576) (hL : LibAt m w) :
    Calls Try.prog 116 #[.string s, .string t] w fun e w' => MakeEnd (okS s && okS t) (fun n => fS s n && !fS t n) e ∧ Below w.heap.size w w' := by
  go_enter Try.func116, Try.ntmps116
  go_wp2_with fail
  refine (joined_any s t 127 _ m _ hs ht hL pair_without).mono ?_
  rintro e w1 ⟨⟨T, b, rfl, hm⟩, hb⟩
  have HM := Lib.hid hm
  clear hm
  go_wp2
  go_ret2
  exact ⟨⟨T, b, rfl, HM.out⟩, hb⟩

theorem all_ok : okS ⟨#[40, 49, 41]⟩ = true := by kernel_rfl
theorem all_has (n : Nat) : fS ⟨#[40, 49, 41]⟩ n = true := by
  have e1 : setT ⟨#[40, 49, 41]⟩ = [] := by kernel_rfl
  have e2 : setR ⟨#[40, 49, 41]⟩ = [true] := by kernel_rfl
  unfold fS hasB
  rw [e1, e2, if_neg (by simp)]
  simp [Nat.mod_one]

theorem implOther (s : ByteArray) (m : Int) (w : World) (hs : s.size ≤ 1048576) (hL : LibAt m w) :
    Calls Try.prog 88 #[.string s] w fun e w' => MakeEnd (okS s) (fun n => !fS s n) e ∧ Below w.heap.size w w' := by
  have hW := Lib.hid (fun W hLW => implWithout ⟨#[40, 49, 41]⟩ s m W (by decide) hs hLW)
  go_enter Try.func88, Try.ntmps88
  go_wp2_with fail
  refine (hW.out _ hL).mono ?_
  rintro e w1 ⟨⟨T, b, rfl, hm⟩, hb⟩
  rw [all_ok, Bool.true_and, show (fun n => fS ⟨#[40, 49, 41]⟩ n && !fS s n) = fun n => !fS s n from by funext n; rw [all_has, Bool.true_and]] at hm
  have HM := Lib.hid hm
  clear hm
  go_wp2
  go_ret2
  exact ⟨⟨T, b, rfl, HM.out⟩, hb⟩

end Go.Proofs.Ytcacdgojibojgac
