/-
  The walk of the law FnMachSingle.
-/
import Derived.Test.YtjaifkpmhcekcaaPMachBase
import Derived.Test.YtjaifkpmhcekcaaSingleI
import Derived.Test.YtjaifkpmhcekcaaSingleS
import Derived.Test.YtjaifkpmhcekcaaMachAtI
set_option linter.unusedVariables false
set_option linter.unusedSimpArgs false
namespace Go.Proofs.Ytjaifkpmhcekcaa
open Go.RowKit

theorem single_at {zs : List Int} {b e : Int} (h : singleM zs b e = true) (k : Nat) (hk : k ≤ 1000000) : okAt zs b e k = true ∧ oneS (atV zs b e k) = true := by
  unfold singleM at h
  simp only [Bool.and_eq_true] at h
  obtain ⟨⟨h1, h2⟩, h3⟩ := h
  have ho : okAt zs b e k = true := by unfold okAt; rw [h1, Bool.true_and]; exact decide_eq_true ⟨by omega, by omega⟩
  refine ⟨ho, ?_⟩
  unfold atV
  rw [if_pos ho]
  obtain ⟨l, n, s, t, rfl, hl, rfl, rfl, hg⟩ := okM_good h1
  rw [natsM_cast] at h3 ⊢
  rw [toNat_cast] at h2 ⊢
  rw [List.all_eq_true] at h3
  refine single_after hg.good (fun i hi => ?_) h2 hg.starts _
  have hll := hg.good.len
  rw [List.getD_eq_getElem?_getD, List.getElem?_eq_getElem (by omega)]
  exact h3 _ (List.getElem_mem _)
theorem one_bits {v : Nat} (h : oneS v = true) : 1 ≤ v ∧ v ≤ 16 ∧ Go.bits .and .i64 (v : Int) ((v : Int) - 1) = 0 := by
  obtain ⟨i, hi, rfl⟩ := one_pow h
  have : i = 0 ∨ i = 1 ∨ i = 2 ∨ i = 3 ∨ i = 4 := by omega
  rcases this with rfl | rfl | rfl | rfl | rfl <;> decide

set_option maxRecDepth 100000 in
set_option maxHeartbeats 4000000 in
theorem pMachSingle (a : Option Addr) (n c : Nat) (zs : List Int) (w : World) (hr : IsRow .u8 w a n c zs) :
    Calls Try.prog 8 #[.slice a n c] w fun e w' => e = .returned (.bool true) ∧ Below w.heap.size w w' := by
  by_cases hn : n ≤ 1048576
  · have hB := Lib.hid hr.bytes
    have hC := Lib.hid hr.cap
    clear hr
    go_enter Try.func8, Try.ntmps8
    go_wp2_with fail
    refine (drawMachSingle a n c _ hB.out hn hC.out).mono ?_
    rintro e1 w1 ⟨a', m, c', ys, x, y, rfl, hrd, hm12, hb1⟩
    have HB := Lib.hid hb1
    have RM := Lib.hid hrd
    have BX1 := Lib.hid (boxM_start a' m c' x y w1 25)
    clear hb1 hrd
    have p0 := BX1.out.q0
    have p1 := BX1.out.q1
    have p2 := BX1.out.q2
    go_wp2_with fail
    refine (implSingle a' m c' ys x y _ (RM.out.below BX1.out.below (Nat.le_refl _)) (by omega)).mono ?_
    rintro e1 w2 ⟨rfl, hx⟩
    have BX2 := Lib.hid (BX1.out.step hx)
    clear hx p0 p1 p2
    have p0 := BX2.out.q0
    have p1 := BX2.out.q1
    have p2 := BX2.out.q2
    go_wp2_with fail
    refine (specSingle a' m c' ys x y _ (RM.out.below BX2.out.below (Nat.le_refl _)) (by omega)).mono ?_
    rintro e1 w3 ⟨rfl, hx⟩
    have BX3 := Lib.hid (BX2.out.step hx)
    clear hx p0 p1 p2
    have p0 := BX3.out.q0
    have p1 := BX3.out.q1
    have p2 := BX3.out.q2
    cases hsg : singleM ys x y
    · clear hsg
      go_wp2
      go_ret
      exact ⟨rfl, (HB.out.trans (BX3.out.below.mono HB.out.size))⟩
    · have HSG := Lib.hid hsg
      clear hsg
      go_wp2
      go_loopw [7] (fun i wr => ∃ z : Nat, i = .int .i64 z ∧ z ≤ 41 ∧ BoxM a' m c' x y w1.heap.size w1 wr) (fun i _ => 42 - (intOf i).toNat)
      case atStart => exact ⟨0, rfl, by omega, BX3.out⟩
      case round =>
        obtain ⟨z, rfl, hz, hbz⟩ := hrel
        clear p0 p1 p2
        have BXZ := Lib.hid hbz
        have p0 := hbz.q0
        have p1 := hbz.q1
        have p2 := hbz.q2
        clear hbz
        by_cases hlt : z ≤ 40
        · have hltI : (z : Int) ≤ 40 := by omega
          obtain ⟨h1, h2⟩ := single_at HSG.out z (by omega)
          obtain ⟨v, hv⟩ : ∃ v, v = atV ys x y z := ⟨_, rfl⟩
          have hc := implAt a' m c' ys x y z _ (RM.out.below BXZ.out.below (Nat.le_refl _)) (by omega)
          rw [h1, ← hv] at hc
          rw [← hv] at h2
          obtain ⟨h3, h5, h4⟩ := one_bits h2
          have h6 : (v : Int) ≤ 16 := by omega
          have h7 : 1 ≤ (v : Int) := by omega
          have hv0 : ((v : Int) == 0) = false := by rw [beq_eq_false_iff_ne]; omega
          have hv1 : ¬ (v : Int) = 0 := by omega
          clear h1 h2 hv h3 h5
          go_wp2_with fail
          refine hc.mono ?_
          rintro e w4 ⟨rfl, hx⟩
          have BX4 := Lib.hid (BXZ.out.step hx)
          clear hx hc p0 p1 p2
          go_wp2
          go_roundw
          case rel => exact ⟨z + 1, by go_num, by omega, BX4.out⟩
          case measure => simp [intOf]; omega
        · have hltI : 40 < (z : Int) := by omega
          go_wp2
          go_ret
          exact ⟨rfl, (HB.out.trans (BXZ.out.below.mono HB.out.size))⟩
  · have hd : (1048576 : Int) < (n : Int) := by omega
    go_enter Try.func8, Try.ntmps8
    go_wp2
    go_ret
    exact ⟨rfl, Below.refl _ _⟩
end Go.Proofs.Ytjaifkpmhcekcaa
