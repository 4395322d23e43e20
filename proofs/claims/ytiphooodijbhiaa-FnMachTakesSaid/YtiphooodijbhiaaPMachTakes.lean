/-
  The walk of the law FnMachTakes.
-/
import Derived.Test.YtiphooodijbhiaaDrawMachTakes
import Derived.Test.YtiphooodijbhiaaMachInI
import Derived.Test.YtiphooodijbhiaaTakesS
import Derived.Test.YtiphooodijbhiaaMachAtI
set_option linter.unusedVariables false
set_option linter.unusedSimpArgs false
namespace Go.Proofs.Ytiphooodijbhiaa
open Go.RowKit

theorem taken_at {l : List Nat} {n' s t : Nat} (h : GoodM l n' s t) {k : Int} (hk : okAt (castM l) s t k = true) : ∃ j : Nat, k = j ∧ j ≤ 1000000 ∧ atV (castM l) s t k = afterN l s j ∧ takesV (castM l) s t k = (afterN l s j &&& t != 0) := by
  have h2 := hk
  unfold okAt at h2
  rw [Bool.and_eq_true, decide_eq_true_iff] at h2
  obtain ⟨j, rfl⟩ := Int.eq_ofNat_of_zero_le h2.2.1
  refine ⟨j, rfl, by omega, ?_, ?_⟩
  · unfold atV; rw [hk, natsM_cast]; rfl
  · unfold takesV fM; rw [hk, natsM_cast]; rfl
theorem okAt_good {zs : List Int} {b e k : Int} (h : okAt zs b e k = true) : ∃ l n s t, zs = castM l ∧ zs.length = n ∧ b = (s : Nat) ∧ e = (t : Nat) ∧ GoodM l n s t := by
  unfold okAt at h
  rw [Bool.and_eq_true] at h
  exact okM_good h.1
theorem at_small {l : List Nat} {n' s t : Nat} (h : GoodM l n' s t) (j : Nat) : afterN l s j < 2 ^ 5 := Nat.lt_of_lt_of_le (after_lt h.good h.starts j) (Nat.pow_le_pow_right (by decide) h.le)
theorem ends_small {l : List Nat} {n' s t : Nat} (h : GoodM l n' s t) : t < 2 ^ 5 := Nat.lt_of_lt_of_le h.ends (Nat.pow_le_pow_right (by decide) h.le)

set_option maxRecDepth 100000 in
set_option maxHeartbeats 4000000 in
theorem pMachTakes (a : Option Addr) (n c : Nat) (zs : List Int) (w : World) (hr : IsRow .u8 w a n c zs) :
    Calls Try.prog 3 #[.slice a n c] w fun e w' => e = .returned (.bool true) ∧ Below w.heap.size w w' := by
  by_cases hn : n ≤ 1048576
  · have hB := Lib.hid hr.bytes
    have hC := Lib.hid hr.cap
    clear hr
    go_enter Try.func3, Try.ntmps3
    go_wp2_with fail
    refine (drawMachTakes a n c _ hB.out hn hC.out).mono ?_
    rintro e1 w1 ⟨a', m, c', ys, x, y, k, rfl, hrd, hm12, hk, hb1⟩
    have HB := Lib.hid hb1
    have RM := Lib.hid hrd
    have BX1 := Lib.hid (boxM_start a' m c' x y w1 25)
    clear hb1 hrd
    have p0 := BX1.out.q0
    have p1 := BX1.out.q1
    have p2 := BX1.out.q2
    go_wp2_with fail
    refine (implTakes a' m c' ys x y k _ (RM.out.below BX1.out.below (Nat.le_refl _)) (by omega)).mono ?_
    rintro e1 w2 ⟨rfl, hx⟩
    have BX2 := Lib.hid (BX1.out.step hx)
    clear hx p0 p1 p2
    have p0 := BX2.out.q0
    have p1 := BX2.out.q1
    have p2 := BX2.out.q2
    go_wp2_with fail
    refine (specTakes a' m c' ys x y k _ (RM.out.below BX2.out.below (Nat.le_refl _)) (by omega)).mono ?_
    rintro e1 w3 ⟨rfl, hx⟩
    have BX3 := Lib.hid (BX2.out.step hx)
    clear hx p0 p1 p2
    have p0 := BX3.out.q0
    have p1 := BX3.out.q1
    have p2 := BX3.out.q2
    go_wp2_with fail
    refine (implAt a' m c' ys x y k _ (RM.out.below BX3.out.below (Nat.le_refl _)) (by omega)).mono ?_
    rintro e1 w4 ⟨rfl, hx⟩
    have BX4 := Lib.hid (BX3.out.step hx)
    clear hx p0 p1 p2
    have p0 := BX4.out.q0
    have p1 := BX4.out.q1
    have p2 := BX4.out.q2
    cases hok : okAt ys x y k
    · have hv : takesV ys x y k = false := by unfold takesV; rw [hok]; rfl
      rw [hv]
      generalize ((atV ys x y k : Nat) : Int) = v
      clear hv hok
      go_wp2
      go_ret
      exact ⟨rfl, (HB.out.trans (BX4.out.below.mono HB.out.size))⟩
    · obtain ⟨l, n', s, t, rfl, _, rfl, rfl, hg⟩ := okAt_good hok
      obtain ⟨j, rfl, _, e1, e2⟩ := taken_at hg hok
      have ha := at_small hg j
      have ht := ends_small hg
      rw [e1, e2]
      obtain ⟨A, hA⟩ : ∃ A, A = afterN l s j := ⟨_, rfl⟩
      rw [← hA] at ha ⊢
      have hbit := bit_and A t (by omega) (by omega)
      obtain ⟨V, hV⟩ : ∃ V, V = A &&& t := ⟨_, rfl⟩
      rw [← hV] at hbit ⊢
      clear hV hA e1 e2 hok
      by_cases h0 : V = 0
      · subst h0
        go_wp2
        go_ret
        exact ⟨ret_bool (by simp), (HB.out.trans (BX4.out.below.mono HB.out.size))⟩
      · have hne : (V != 0) = true := by simpa using h0
        have hnI : ((V : Int) != 0) = true := by simpa using h0
        rw [hne]
        go_wp2
        go_ret
        exact ⟨ret_bool (by simp), (HB.out.trans (BX4.out.below.mono HB.out.size))⟩
  · have hd : (1048576 : Int) < (n : Int) := by omega
    go_enter Try.func3, Try.ntmps3
    go_wp2
    go_ret
    exact ⟨rfl, Below.refl _ _⟩

end Go.Proofs.Ytiphooodijbhiaa
