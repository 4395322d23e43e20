/-
  The walk of the law FnMachIn.
-/
import Derived.Test.YtjaifkpmhcekcaaPMachBase
import Derived.Test.YtjaifkpmhcekcaaMachInI
import Derived.Test.YtjaifkpmhcekcaaMachS
set_option linter.unusedVariables false
set_option linter.unusedSimpArgs false
namespace Go.Proofs.Ytjaifkpmhcekcaa
open Go.RowKit

theorem okAt_zero (zs : List Int) (b e : Int) : okAt zs b e 0 = okM zs b e := by unfold okAt; simp

set_option maxRecDepth 100000 in
set_option maxHeartbeats 4000000 in
theorem pMachIn (a : Option Addr) (n c : Nat) (zs : List Int) (w : World) (hr : IsRow .u8 w a n c zs) :
    Calls Try.prog 3 #[.slice a n c] w fun e w' => e = .returned (.bool true) ∧ Below w.heap.size w w' := by
  by_cases hn : n ≤ 1048576
  · have hB := Lib.hid hr.bytes
    have hC := Lib.hid hr.cap
    clear hr
    go_enter Try.func3, Try.ntmps3
    go_wp2_with fail
    refine (drawMachIn a n c _ hB.out hn hC.out).mono ?_
    rintro e1 w1 ⟨a', m, c', ys, x, y, rfl, hrd, hm12, hb1⟩
    have HB := Lib.hid hb1
    have RM := Lib.hid hrd
    have BX1 := Lib.hid (boxM_start a' m c' x y w1 25)
    clear hb1 hrd
    have p0 := BX1.out.q0
    have p1 := BX1.out.q1
    have p2 := BX1.out.q2
    go_wp2_with fail
    refine (implIn a' m c' ys x y _ (RM.out.below BX1.out.below (Nat.le_refl _)) (by omega)).mono ?_
    rintro e1 w2 ⟨rfl, hx⟩
    have BX2 := Lib.hid (BX1.out.step hx)
    clear hx p0 p1 p2
    have p0 := BX2.out.q0
    have p1 := BX2.out.q1
    have p2 := BX2.out.q2
    go_wp2_with fail
    refine (specIn a' m c' ys x y _ (RM.out.below BX2.out.below (Nat.le_refl _)) (by omega)).mono ?_
    rintro e1 w3 ⟨rfl, hx⟩
    have BX3 := Lib.hid (BX2.out.step hx)
    clear hx p0 p1 p2
    have p0 := BX3.out.q0
    have p1 := BX3.out.q1
    have p2 := BX3.out.q2
    go_wp2_with fail
    refine (implAt a' m c' ys x y 0 _ (RM.out.below BX3.out.below (Nat.le_refl _)) (by omega)).mono ?_
    rintro e1 w4 ⟨rfl, hx⟩
    have BX4 := Lib.hid (BX3.out.step hx)
    clear hx p0 p1 p2
    have p0 := BX4.out.q0
    have p1 := BX4.out.q1
    have p2 := BX4.out.q2
    rw [okAt_zero]
    generalize okM ys x y = ok
    generalize ((atV ys x y 0 : Nat) : Int) = v
    cases ok
    all_goals
      go_wp2
      go_ret
      exact ⟨rfl, (HB.out.trans (BX4.out.below.mono HB.out.size))⟩
  · have hd : (1048576 : Int) < (n : Int) := by omega
    go_enter Try.func3, Try.ntmps3
    go_wp2
    go_ret
    exact ⟨rfl, Below.refl _ _⟩
end Go.Proofs.Ytjaifkpmhcekcaa
