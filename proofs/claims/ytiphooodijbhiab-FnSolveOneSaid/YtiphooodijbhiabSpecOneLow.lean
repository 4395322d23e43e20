/-
  The walk of SolveOne, of the model.
-/
import Derived.Test.YtiphooodijbhiabSpecLow
set_option linter.unusedVariables false
set_option linter.unusedSimpArgs false
namespace Go.Proofs.Ytiphooodijbhiab
open Go.RowKit

/-- The first of those numbers that is not there, or none. -/
theorem one_no {s t : ByteArray} {k : Nat} (h1 : smallS s = true) (h2 : smallS t = true) (h0 : fS s 0 = true) (hk : k < 500) (h : lowF (fS s) (fS t) k = false) : oneW s t = false := by
  unfold oneW oneV
  rw [h1, h2, h0]
  simp only [Bool.true_and, Bool.not_true, Bool.false_or, decide_eq_false_iff_not]
  rw [← one_far (smallS_iff.1 h1).2 (smallS_iff.1 h2).2 (show 16 ≤ 500 by decide), countF_all]
  intro x
  rw [x k hk] at h; cases h
theorem one_yes {s t : ByteArray} (h1 : smallS s = true) (h2 : smallS t = true) (h : ∀ k, k < 500 → lowF (fS s) (fS t) k = true) : oneW s t = true := by
  unfold oneW oneV
  rw [h1, h2]
  simp only [Bool.true_and, Bool.or_eq_true, decide_eq_true_eq]
  right
  rw [← one_far (smallS_iff.1 h1).2 (smallS_iff.1 h2).2 (show 16 ≤ 500 by decide), countF_all]
  exact h

set_option maxRecDepth 100000 in
set_option maxHeartbeats 2000000 in
theorem specSolveOne (s t : ByteArray) (w : World) (hs : s.size ≤ 1048576) (ht : t.size ≤ 1048576) :
    Calls Try.prog 39 #[.string s, .string t] w fun e w' => e = .returned (.bool (oneW s t)) ∧ Below w.heap.size w w' := by
  go_enter Try.func39, Try.ntmps39
  go_wp2_with fail
  refine (l4Small_any s _ hs).mono ?_
  rintro e w1 ⟨a1, n1, c1, a2, n2, c2, rfl, hb1, hA⟩
  have hA2 := fun h => (hA h).alloc (.cells #[.slice a1 n1 c1, .slice a2 n2 c2] 77)
  go_wp2_with fail
  refine (l4Small_any t _ ht).mono ?_
  rintro e w2 ⟨b1, m1, d1, b2, m2, d2, rfl, hb2, hB⟩
  have hb3 := below_step (hb1.alloc hb1.size (.cells #[.slice a1 n1 c1, .slice a2 n2 c2] 77)) hb2
  have HB2 := Lib.hid (hb3.alloc hb3.size (.cells #[.slice b1 m1 d1, .slice b2 m2 d2] 77))
  have hA3 := fun h => ((hA2 h).below hb2 (Nat.le_refl _)).alloc (.cells #[.slice b1 m1 d1, .slice b2 m2 d2] 77)
  have hB3 := fun h => (hB h).alloc (.cells #[.slice b1 m1 d1, .slice b2 m2 d2] 77)
  obtain ⟨q0, q1⟩ := box_later (hb2.alloc hb2.size (.cells #[.slice b1 m1 d1, .slice b2 m2 d2] 77))
  obtain ⟨p0, p1⟩ := box_later (w1 := w2) (u := .slice b1 m1 d1) (v := .slice b2 m2 d2) (T := 77) (Below.refl _ _)
  clear hb1 hb2 hb3 hA hA2 hB
  cases hp : smallS s
  · have HO : Hid (oneW s t = false) := Lib.hid (by unfold oneW; rw [hp]; rfl)
    clear hp hA3 hB3
    cases smallS t
    all_goals
      go_wp2
      go_ret
      exact ⟨ret_bool HO.out.symm, HB2.out⟩
  · have HA := Lib.hid (hA3 hp)
    cases hq : smallS t
    · have HO : Hid (oneW s t = false) := Lib.hid (by unfold oneW; rw [hp, hq]; rfl)
      clear hp hq hA3 hB3
      go_wp2
      go_ret
      exact ⟨ret_bool HO.out.symm, HB2.out⟩
    · have HB := Lib.hid (hB3 hq)
      have hcall := small_has (c1 := c1) (c2 := c2) 0 HA.out (by omega)
      cases h0 : fS s 0
      · rw [h0] at hcall
        have HO : Hid (oneW s t = true) := Lib.hid (by unfold oneW oneV; rw [hp, hq, h0]; rfl)
        clear hp hq hA3 hB3 h0
        go_wp2_with fail
        refine hcall.mono ?_
        rintro e w3 ⟨rfl, hb3⟩
        have HB3 := Lib.hid (below_step HB2.out hb3)
        clear hb3
        go_wp2
        go_ret
        exact ⟨ret_bool HO.out.symm, HB3.out⟩
      · rw [h0] at hcall
        have HNo := Lib.hid (fun k hk h => one_no (k := k) hp hq h0 hk h)
        have HYes := Lib.hid (one_yes hp hq)
        have HL := Lib.hid (fun W hA hB => l8Least_any (fS s) (fS t) a1 n1 c1 a2 n2 c2 b1 m1 d1 b2 m2 d2 500 W hA hB (by omega))
        clear hp hq hA3 hB3 h0
        go_wp2_with fail
        refine hcall.mono ?_
        rintro e w3 ⟨rfl, hb3⟩
        have HB3 := Lib.hid (below_step HB2.out hb3)
        have z0 := (hb3.cell (p := ⟨w1.heap.size, 0, none⟩) (lt_of_some q0)).trans q0
        have z1 := (hb3.cell (p := ⟨w1.heap.size, 1, none⟩) (lt_of_some q1)).trans q1
        have y0 := (hb3.cell (p := ⟨w2.heap.size, 0, none⟩) (lt_of_some p0)).trans p0
        have y1 := (hb3.cell (p := ⟨w2.heap.size, 1, none⟩) (lt_of_some p1)).trans p1
        have HA4 := Lib.hid (HA.out.below hb3 (Nat.le_refl _))
        have HB4 := Lib.hid (HB.out.below hb3 (Nat.le_refl _))
        clear hb3 hcall q0 q1 p0 p1
        go_wp2_with fail
        refine (HL.out _ HA4.out HB4.out).mono ?_
        rintro e w4 ⟨G, rfl, hG, hrow, hb4⟩
        have HR := Lib.hid hrow
        have HB5 := Lib.hid (below_step HB3.out hb4)
        clear hrow hb4 z0 z1 y0 y1
        go_wp2
        go_loopw [10] (fun xi wr => ∃ x : Nat, x ≤ 500 ∧ xi = .int .i64 x ∧ (∀ k, k < x → lowF (fS s) (fS t) k = true) ∧ wr = w4) (fun i _ => 500 - (intOf i).toNat)
        case atStart => exact ⟨0, Nat.zero_le _, rfl, fun k hk => absurd hk (Nat.not_lt_zero _), rfl⟩
        case round =>
          obtain ⟨x, hx, rfl, hall, rfl⟩ := hrel
          by_cases hlt : x < 500
          · have c1 := HR.out.cell hlt
            have hxi : (x : Int) < 500 := by omega
            cases hv : lowF (fS s) (fS t) x
            · rw [hv] at c1
              have HO := Lib.hid (HNo.out x hlt hv)
              clear hall hv
              go_wp2
              go_ret
              exact ⟨ret_bool HO.out.symm, HB5.out⟩
            · rw [hv] at c1
              have HAll : Hid (∀ k, k < x + 1 → lowF (fS s) (fS t) k = true) := Lib.hid (fun k hk => by
                rcases Nat.lt_or_ge k x with e | e
                · exact hall k e
                · obtain rfl : k = x := by omega
                  exact hv)
              clear hall hv
              go_wp2
              go_roundw
              case rel => exact ⟨x + 1, by omega, by go_num, HAll.out, trivial⟩
              case measure => simp [intOf]; omega
          · obtain rfl : x = 500 := by omega
            have HO := Lib.hid (HYes.out hall)
            clear hall
            go_wp2
            go_ret
            exact ⟨ret_bool HO.out.symm, HB5.out⟩

end Go.Proofs.Ytiphooodijbhiab
