/-
  The walk of spec.l91Number.
-/
import Derived.Test.YtcacdgojibojgadDrawOpen
namespace Go.Proofs.Ytcacdgojibojgad
open Go.RowKit

set_option maxRecDepth 100000 in
set_option maxHeartbeats 1000000 in
theorem number_rd {R : Nat} {a : Option Addr} {n c p : Nat} {w : World} (h : Rd R a n c p w) (N : Nat) (hp : p ≤ 40000) (hN : N ≤ 100000) :
    Calls Try.prog 49 #[.pointer (some ⟨R, 0, none⟩), .int .i64 N] w fun e w' =>
      ∃ (x : Int) (p' : Nat), e = .returned (.int .i64 x) ∧ (-1 ≤ x ∧ x ≤ N + 1) ∧ p' ≤ p + 20 ∧ Rd R a n c p' w' ∧ Apart R w w' := by
  have hR := h.lt
  go_enter Try.func49, Try.ntmps49
  go_wp2_with fail
  refine (pick_rd h 16 (by omega) (by omega) (by omega)).mono ?_
  rintro e w1 ⟨v, rfl, hv, hrd1, hap1, hsz1⟩
  have hR1 := hrd1.lt
  have HA := Lib.hid hap1
  clear hap1 hsz1
  by_cases h0 : v = 0
  · subst h0
    go_wp2_with fail
    refine (pick_rd (hrd1.below ((Below.refl _ _).alloc (Nat.le_refl _) _) hR1) 3 (by omega) (by omega) (by omega)).mono ?_
    rintro e w4 ⟨y, rfl, hy, hrd4, hap4, hsz4⟩
    have HA4 := Lib.hid (HA.out.trans ((Apart.of_below (Nat.le_of_lt hR1) ((Below.refl _ _).alloc (Nat.le_refl _) _)).trans hap4))
    have HR4 := Lib.hid hrd4
    have hy3 : (y : Int) < 3 := by omega
    have hc := table_cell hap4 hR1 y
    clear hap4 hrd4 hsz4
    obtain ⟨x, hx, hx1⟩ : ∃ x : Int, w4.cell? ⟨w1.heap.size, y, none⟩ = some (.int .i64 x) ∧ (-1 ≤ x ∧ x ≤ N + 1) := by
      have : y = 0 ∨ y = 1 ∨ y = 2 := by omega
      rcases this with rfl | rfl | rfl
      · exact ⟨-1, hc, by omega⟩
      · exact ⟨N, hc, by omega⟩
      · exact ⟨N + 1, hc, by omega⟩
    clear hc
    go_wp2
    go_ret
    exact ⟨x, _, rfl, hx1, by omega, HR4.out, HA4.out⟩
  · have b0 : ((v : Int) == 0) = false := by rw [beq_eq_false_iff_ne]; omega
    obtain ⟨m, hm⟩ : ∃ m : Nat, min (N : Int) 30 + 1 = (m : Int) := ⟨min N 30 + 1, by omega⟩
    have hm1 : 0 < m ∧ m ≤ 31 ∧ m ≤ N + 1 := by omega
    have HM := Lib.hid hm
    clear hm
    go_wp2_with fail
    refine (pick_rdi hrd1 (min (N : Int) 30 + 1) m HM.out (by omega) hm1.1 (by omega)).mono ?_
    rintro e w4 ⟨y, rfl, hy, hrd4, hap4, hsz4⟩
    have HA4 := Lib.hid (HA.out.trans hap4)
    have HR4 := Lib.hid hrd4
    clear hap4 hrd4 hsz4
    go_wp2
    go_ret
    exact ⟨y, _, rfl, by omega, by omega, HR4.out, HA4.out⟩

end Go.Proofs.Ytcacdgojibojgad
