/-
  What the model's WaysOdd answers.
-/
import Derived.Test.YtojjfkabepkhdabWayPartS
set_option linter.unusedVariables false
set_option linter.unusedSimpArgs false
namespace Go.Proofs.Ytojjfkabepkhdab
open Go.RowKit

theorem oddS_boundS (f : Nat → Bool) {n : Nat} (hn : n ≤ 40) (m : Nat) : oddS f n m ≤ 1099511627776 := by
  by_cases h : n < m
  · rw [oddF_at f n m h]
    exact Nat.le_trans (oddF_many f n) (manyF_le40 f hn)
  · have h2 : ∀ j, oddS f n m ≤ oddS f n (m + j) := by
      intro j
      induction j with
      | zero => exact Nat.le_refl _
      | succ j ih => exact Nat.le_trans ih (Nat.le_add_right _ _)
    have := h2 (n + 1 - m)
    rw [show m + (n + 1 - m) = n + 1 from by omega] at this
    exact Nat.le_trans this (Nat.le_trans (oddF_many f n) (manyF_le40 f hn))
theorem oddS_two (f : Nat → Bool) (n m : Nat) (h : m % 2 = 1) : oddS f n (m + 2) = oddS f n m + partF f m n := by
  show oddS f n m + (if m % 2 = 1 then partF f m n else 0) + (if (m + 1) % 2 = 1 then partF f (m + 1) n else 0) = _
  rw [if_pos h, if_neg (by omega)]; rfl

set_option maxRecDepth 100000 in
set_option maxHeartbeats 2000000 in
theorem specWaysOdd (s : ByteArray) (n : Int) (w : World) (hs : s.size ≤ 1048576) :
    Calls Try.prog 17 #[.string s, .int .i64 n] w fun e w' => TellsW s n 40 oddI e ∧ Below w.heap.size w w' := by
  cases h : okW s n 40
  · have HO := Lib.hid (tellsW_off (F := oddI) h)
    unfold okW at h
    go_enter Try.func17, Try.ntmps17
    go_wp2_with fail
    refine (given9_any s n 40 _ hs (by decide)).mono ?_
    rintro e w1 ⟨⟨a1, n1, c1, a2, n2, c2, rfl, hsp⟩, hb⟩
    have HB1 := Lib.hid (hb.alloc hb.size (.cells #[.slice a1 n1 c1, .slice a2 n2 c2] 34))
    rw [h]
    clear hsp hb h
    go_wp2
    go_ret2
    exact ⟨HO.out, HB1.out⟩
  · obtain ⟨h1, n, rfl, hk⟩ := okW_nat h
    have HO := Lib.hid (fun v hv => tellsW_on (F := oddI) (v := v) h hv)
    unfold okW at h
    go_enter Try.func17, Try.ntmps17
    go_wp2_with fail
    refine (given9_any s n 40 _ hs (by decide)).mono ?_
    rintro e w1 ⟨⟨a1, n1, c1, a2, n2, c2, rfl, hsp⟩, hb⟩
    have HB1 := Lib.hid (hb.alloc hb.size (.cells #[.slice a1 n1 c1, .slice a2 n2 c2] 34))
    have HSP := Lib.hid ((hsp h1).alloc (.cells #[.slice a1 n1 c1, .slice a2 n2 c2] 34))
    rw [h]
    clear hsp hb h h1
    go_wp2_with fail
    refine (l9Parts_any (fS s) a1 n1 c1 a2 n2 c2 n _ HSP.out (by omega)).mono ?_
    rintro e w2 ⟨a, c, rfl, hr, hb2⟩
    have HB2 := Lib.hid (HB1.out.trans (hb2.mono HB1.out.size))
    have HR := Lib.hid hr
    clear hr hb2
    go_wp2
    go_loopw [9, 10] (fun m j wq => ∃ y : Nat, y % 2 = 1 ∧ y ≤ 41 ∧ j = .int .i64 y ∧ m = .int .i64 (oddS (fS s) n y : Nat) ∧ wq = w2) (fun _ j _ => 43 - (intOf j).toNat)
    case atStart => exact ⟨1, rfl, by decide, rfl, rfl, rfl⟩
    case round =>
      obtain ⟨y, hy2, hyn, rfl, rfl, rfl⟩ := hrel
      by_cases hle : y < 41
      · have hli : (y : Int) < 41 := by omega
        obtain ⟨b, o, rfl, hbl, c0⟩ := HR.out.at hle
        unfold partsI at c0
        have hs1 := partF_le40 (fS s) y (i := n) (by omega)
        have hs2 := oddS_boundS (fS s) (n := n) (by omega) y
        have HSTEP := Lib.hid (oddS_two (fS s) n y hy2)
        obtain ⟨v, hv⟩ : ∃ v, v = partF (fS s) y n := ⟨_, rfl⟩
        obtain ⟨u, hu⟩ : ∃ u, u = oddS (fS s) n y := ⟨_, rfl⟩
        rw [← hv] at c0 hs1 HSTEP
        rw [← hu] at hs2 HSTEP ⊢
        have hsv : (u : Int) + (v : Int) ≤ 1099511627776000 := by omega
        have HSV : Hid (((u : Int) + (v : Int)) = ((oddS (fS s) n (y + 2) : Nat) : Int)) := Lib.hid (by rw [HSTEP.out]; omega)
        clear hv hu hs1 hs2
        go_wp2
        go_roundw
        case rel => exact ⟨y + 2, by omega, by omega, by go_num, by rw [← HSV.out], by first | rfl | trivial⟩
        case measure => simp [intOf]; omega
      · obtain rfl : y = 41 := by omega
        have HV := Lib.hid (HO.out (oddS (fS s) n 41 : Nat) (by unfold oddI; rw [oddF_at _ _ _ (by omega)]))
        go_wp2
        go_ret2
        exact ⟨HV.out, HB2.out⟩

end Go.Proofs.Ytojjfkabepkhdab
