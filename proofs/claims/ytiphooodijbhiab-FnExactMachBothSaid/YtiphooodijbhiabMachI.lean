/-
  The walks of the program's small functions on machines: hasState, Machine.fits, Machine.step.
-/
import Derived.Test.YtiphooodijbhiabMachBox
import Derived.Test.YtiphooodijbhiabInts
import Derived.Test.YtiphooodijbhiabHasMath
import Derived.Test.YtiphooodijbhiabBetween
import Derived.BigQuiet
namespace Go.Proofs.Ytiphooodijbhiab
open Go.RowKit
set_option linter.unusedVariables false

theorem hasState_is (s i : Nat) (w : World) (hs : s < 2 ^ 62) (hi : i ≤ 60) :
    Calls Try.prog 122 #[.int .i64 s, .int .i64 i] w fun e w' => e = .returned (.bool (s.testBit i)) ∧ w' = w := by
  have hb := bit_one s i hs
  cases h : s.testBit i
  · rw [h] at hb
    simp only [Bool.false_eq_true, if_false] at hb
    clear h
    go_enter Try.func122, Try.ntmps122
    go_wp2
    go_ret
    exact ⟨rfl, rfl⟩
  · rw [h] at hb
    simp only [if_true] at hb
    clear h
    go_enter Try.func122, Try.ntmps122
    go_wp2
    go_ret
    exact ⟨rfl, rfl⟩

theorem btw_is (k a b : Int) (w : World) :
    Calls Try.prog 57 #[.int .i64 k, .int .i64 a, .int .i64 b] w fun e w' => e = .returned (.bool (decide (a ≤ k ∧ k ≤ b))) ∧ w' = w := by
  rcases inR_cases k a b with ⟨h, h1⟩ | ⟨h, h1⟩
  · rw [decide_eq_true h1]; exact between_in k a b w h
  · rw [decide_eq_false (by omega)]; exact between_out k a b w h

set_option maxHeartbeats 1000000 in
theorem machFits_is (a : Option Addr) (n c : Nat) (zs : List Int) (b e : Int) (w : World) (h : ReadsI w a n zs) (hn : n ≤ 1048576) :
    Calls Try.prog 88 #[.agg #[.slice a n c, .int .i64 b, .int .i64 e]] w fun e1 w' => e1 = .returned (.bool (okM zs b e)) ∧ Below w.heap.size w w' := by
  have hl := h.len
  have HB := Lib.hid (boxM_start a n c b e w 50)
  have HR := Lib.hid (h.below (Below.alloc (Below.refl w.heap.size w) (Nat.le_refl _) (.cells #[.slice a n c, .int .i64 b, .int .i64 e] 50)) (Nat.le_refl _))
  clear h
  by_cases h5 : 1 ≤ n ∧ n ≤ 5
  · obtain ⟨hA1, hA2⟩ := pow_all h5.2
    have hd : decide ((1 : Int) ≤ (n : Int) ∧ (n : Int) ≤ 5) = true := decide_eq_true (by omega)
    have HOK : Hid (∀ (i : Nat), i < n → ¬ (0 ≤ zs.getD i 0 ∧ zs.getD i 0 ≤ (2 : Int) ^ n - 1) → okM zs b e = false) := Lib.hid fun i hi hh => okM_bad (i := i) (by omega) (by rw [hl]; exact hh)
    have HALL : Hid ((∀ i, i < n → 0 ≤ zs.getD i 0 ∧ zs.getD i 0 ≤ (2 : Int) ^ n - 1) → okM zs b e = (decide (0 ≤ b ∧ b ≤ (2 : Int) ^ n - 1) && decide (0 ≤ e ∧ e ≤ (2 : Int) ^ n - 1))) := Lib.hid fun hh => by
      have := okM_all (zs := zs) (b := b) (e := e) (by omega) (fun i hi => by rw [hl]; exact hh i (by omega))
      rw [hl] at this
      exact this
    generalize okM zs b e = ok at HOK HALL
    clear hl
    go_enter Try.func88, Try.ntmps88
    go_wp2_with fail
    refine (btw_is n 1 5 _).mono ?_
    rw [hd]
    rintro e1 w1 ⟨rfl, rfl⟩
    go_wp2
    go_loopw [19] (fun i wr => ∃ k : Nat, i = .int .i64 k ∧ k ≤ n ∧ (∀ j, j < k → 0 ≤ zs.getD j 0 ∧ zs.getD j 0 ≤ (2 : Int) ^ n - 1) ∧ wr = w.alloc (.cells #[.slice a n c, .int .i64 b, .int .i64 e] 50)) (fun i _ => n - (intOf i).toNat)
    case atStart => exact ⟨0, rfl, Nat.zero_le _, fun j hj => absurd hj (Nat.not_lt_zero _), rfl⟩
    case round =>
      obtain ⟨k, rfl, hk, hall, rfl⟩ := hrel
      have HA := Lib.hid hall
      clear hall
      by_cases hlt : k < n
      · rcases HR.out.cells with h | ⟨g, o, rfl, hg, hc⟩
        · omega
        have q1 := hc k hlt
        clear hc
        obtain ⟨z, hz⟩ : ∃ z, z = zs.getD k 0 := ⟨_, rfl⟩
        rw [← hz] at q1
        have b1 : (k : Int) < (n : Int) := by omega
        have b2 : (0 : Int) ≤ (k : Int) := by omega
        cases hd2 : decide (0 ≤ z ∧ z ≤ (2 : Int) ^ n - 1)
        · have HN := Lib.hid (HOK.out k hlt (by rw [← hz]; exact of_decide_eq_false hd2))
          clear hz
          go_wp2_with fail
          refine (btw_is z 0 ((2 : Int) ^ n - 1) _).mono ?_
          rw [hd2]
          rintro e1 w1 ⟨rfl, rfl⟩
          clear hd2
          go_wp2
          go_ret
          exact ⟨by rw [HN.out]; rfl, HB.out.below⟩
        · have HN : Hid (∀ j, j < k + 1 → 0 ≤ zs.getD j 0 ∧ zs.getD j 0 ≤ (2 : Int) ^ n - 1) := Lib.hid fun j hj => by
            by_cases ej : j = k
            · rw [ej, ← hz]; exact of_decide_eq_true hd2
            · exact HA.out j (by omega)
          clear hz
          go_wp2_with fail
          refine (btw_is z 0 ((2 : Int) ^ n - 1) _).mono ?_
          rw [hd2]
          rintro e1 w1 ⟨rfl, rfl⟩
          clear hd2
          go_wp2
          go_roundw
          case rel => exact ⟨k + 1, by go_num, by omega, HN.out, trivial⟩
          case measure => simp [intOf]; omega
      · have HE := Lib.hid (HALL.out fun i hi => HA.out i (by omega))
        have q1 := HB.out.q1
        have q2 := HB.out.q2
        cases d1 : decide (0 ≤ b ∧ b ≤ (2 : Int) ^ n - 1)
        · rw [d1] at HE
          go_wp2_with fail
          refine (btw_is b 0 ((2 : Int) ^ n - 1) _).mono ?_
          rw [d1]
          rintro e1 w1 ⟨rfl, rfl⟩
          clear d1
          go_wp2
          go_ret
          exact ⟨by rw [HE.out]; rfl, HB.out.below⟩
        · rw [d1] at HE
          obtain ⟨D, hD⟩ : ∃ D, D = decide (0 ≤ e ∧ e ≤ (2 : Int) ^ n - 1) := ⟨_, rfl⟩
          rw [← hD] at HE
          have K := btw_is e 0 ((2 : Int) ^ n - 1) 
          rw [← hD] at K
          clear hD
          go_wp2_with fail
          refine (btw_is b 0 ((2 : Int) ^ n - 1) _).mono ?_
          rw [d1]
          rintro e1 w1 ⟨rfl, rfl⟩
          clear d1
          go_wp2_with fail
          refine (K _).mono ?_
          rintro e1 w1 ⟨rfl, rfl⟩
          clear K
          go_wp2
          go_ret
          exact ⟨by rw [HE.out]; rfl, HB.out.below⟩
  · have hd : decide ((1 : Int) ≤ (n : Int) ∧ (n : Int) ≤ 5) = false := decide_eq_false (by omega)
    have hok : okM zs b e = false := okM_off (by omega)
    rw [hok]
    clear hok h5 hl
    go_enter Try.func88, Try.ntmps88
    go_wp2_with fail
    refine (btw_is n 1 5 _).mono ?_
    rw [hd]
    rintro e1 w1 ⟨rfl, rfl⟩
    go_wp2
    go_ret
    exact ⟨rfl, HB.out.below⟩

end Go.Proofs.Ytiphooodijbhiab
