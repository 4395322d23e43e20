/-
  The walks of the model's small functions on machines: l6In, MachIn, l6mStep.
-/
import Derived.Test.YtiphooodijbhiabMachMath
import Derived.Test.YtiphooodijbhiabInts
import Derived.Test.YtiphooodijbhiabHasMath
import Derived.Test.YtiphooodijbhiabMachBox
import Derived.BigQuiet
import Derived.Laws.Shifts
namespace Go.Proofs.Ytiphooodijbhiab
open Go.RowKit
set_option linter.unusedVariables false

theorem in6_is (n a b : Int) (w : World) :
    Calls Try.prog 59 #[.int .i64 n, .int .i64 a, .int .i64 b] w fun e w' => e = .returned (.bool (decide (a ≤ n ∧ n ≤ b))) ∧ w' = w := by
  by_cases h1 : a ≤ n
  · by_cases h2 : n ≤ b
    · have e : decide (a ≤ n ∧ n ≤ b) = true := decide_eq_true ⟨h1, h2⟩
      rw [e]
      clear e
      go_enter Try.func59, Try.ntmps59
      go_wp2
      go_ret
      exact ⟨rfl, rfl⟩
    · have e : decide (a ≤ n ∧ n ≤ b) = false := decide_eq_false (fun h => h2 h.2)
      rw [e]
      clear e
      have h3 : decide (n ≤ b) = false := decide_eq_false h2
      go_enter Try.func59, Try.ntmps59
      go_wp2
      go_ret
      exact ⟨rfl, rfl⟩
  · have e : decide (a ≤ n ∧ n ≤ b) = false := decide_eq_false (fun h => h1 h.1)
    rw [e]
    clear e
    have h3 : n < a := by omega
    go_enter Try.func59, Try.ntmps59
    go_wp2
    go_ret
    exact ⟨rfl, rfl⟩

set_option maxHeartbeats 1000000 in
theorem specIn_few (a : Option Addr) (n c : Nat) (zs : List Int) (b e : Int) (w : World) (h : ReadsI w a n zs) (hn : n ≤ 5) :
    Calls Try.prog 86 #[.agg #[.slice a n c, .int .i64 b, .int .i64 e]] w fun e1 w' => e1 = .returned (.bool (okM zs b e)) ∧ Below w.heap.size w w' := by
  have hl := h.len
  have HBX := Lib.hid (boxM_start a n c b e w 50)
  have HR0 := Lib.hid h
  obtain ⟨hA1, hA2⟩ := pow_all hn
  have HBAD : Hid (∀ (i : Nat), i < n → ¬ (0 ≤ zs.getD i 0 ∧ zs.getD i 0 ≤ (2 : Int) ^ n - 1) → okM zs b e = false) := Lib.hid fun i hi hh => okM_bad (i := i) (by omega) (by rw [hl]; exact hh)
  have HALL : Hid ((∀ i, i < n → 0 ≤ zs.getD i 0 ∧ zs.getD i 0 ≤ (2 : Int) ^ n - 1) → okM zs b e = (decide (1 ≤ (n : Int) ∧ (n : Int) ≤ 5) && (decide (0 ≤ b ∧ b ≤ (2 : Int) ^ n - 1) && decide (0 ≤ e ∧ e ≤ (2 : Int) ^ n - 1)))) := Lib.hid fun hh => by
    by_cases h1 : 1 ≤ n
    · have := okM_all (zs := zs) (b := b) (e := e) (by omega) (fun i hi => by rw [hl]; exact hh i (by omega))
      rw [hl] at this
      rw [this, decide_eq_true (show (1 : Int) ≤ (n : Int) ∧ (n : Int) ≤ 5 by omega), Bool.true_and]
    · rw [okM_off (by omega), decide_eq_false (show ¬ ((1 : Int) ≤ (n : Int) ∧ (n : Int) ≤ 5) by omega)]; rfl
  generalize okM zs b e = ok at HBAD HALL ⊢
  clear h hl
  go_enter Try.func86, Try.ntmps86
  go_wp2
  go_loopw [4] (fun i wr => ∃ k : Nat, i = .int .i64 k ∧ k ≤ n ∧ (∀ j, j < k → 0 ≤ zs.getD j 0 ∧ zs.getD j 0 ≤ (2 : Int) ^ n - 1) ∧ BoxM a n c b e w.heap.size w wr) (fun i _ => n - (intOf i).toNat)
  case atStart => exact ⟨0, rfl, Nat.zero_le _, fun j hj => absurd hj (Nat.not_lt_zero _), HBX.out⟩
  case round =>
    obtain ⟨k, rfl, hk, hall, hbx⟩ := hrel
    have q0 := hbx.q0
    have qs := hbx.q1
    have qe := hbx.q2
    have HB := Lib.hid hbx
    have HA := Lib.hid hall
    clear hall
    by_cases hlt : k < n
    · rcases (HR0.out.below hbx.below (Nat.le_refl _)).cells with h | ⟨g, o, rfl, hg, hc⟩
      · omega
      have q1 := hc k hlt
      clear hc hbx
      obtain ⟨z, hz⟩ : ∃ z, z = zs.getD k 0 := ⟨_, rfl⟩
      rw [← hz] at q1
      have b1 : (k : Int) < (n : Int) := by omega
      have b2 : (0 : Int) ≤ (k : Int) := by omega
      have K : ∀ W : World, Calls Try.prog 59 #[.int .i64 z, .int .i64 0, .int .i64 ((2 : Int) ^ n - 1)] W fun e w' => e = .returned (.bool (decide (0 ≤ z ∧ z ≤ (2 : Int) ^ n - 1))) ∧ w' = W := fun W => by exact in6_is z 0 _ W
      cases hd2 : decide (0 ≤ z ∧ z ≤ (2 : Int) ^ n - 1)
      · rw [hd2] at K
        have HN := Lib.hid (HBAD.out k hlt (by rw [← hz]; exact of_decide_eq_false hd2))
        have HK := Lib.hid K
        clear hz hd2 K
        go_wp2
        go_quiet ((go_at_call 59; exact Calls.quiet_of_same (HK.out _)))
        go_wp2
        go_ret
        exact ⟨by rw [HN.out]; rfl, (HB.out.step (below_drewN (Below.refl _ _) _)).below⟩
      · rw [hd2] at K
        have HN : Hid (∀ j, j < k + 1 → 0 ≤ zs.getD j 0 ∧ zs.getD j 0 ≤ (2 : Int) ^ n - 1) := Lib.hid fun j hj => by
          by_cases ej : j = k
          · rw [ej, ← hz]; exact of_decide_eq_true hd2
          · exact HA.out j (by omega)
        have HK := Lib.hid K
        clear hz hd2 K
        go_wp2
        go_quiet ((go_at_call 59; exact Calls.quiet_of_same (HK.out _)))
        go_wp2
        go_roundw
        case rel => exact ⟨k + 1, by go_num, by omega, HN.out, HB.out.step (below_drewN (Below.refl _ _) _)⟩
        case measure => simp [intOf]; omega
    · obtain rfl : k = n := by omega
      clear hbx
      have HE := Lib.hid (HALL.out fun i hi => HA.out i hi)
      have K1 := in6_is k 1 5
      have K2 : ∀ W : World, Calls Try.prog 59 #[.int .i64 b, .int .i64 0, .int .i64 ((2 : Int) ^ k - 1)] W fun e w' => e = .returned (.bool (decide (0 ≤ b ∧ b ≤ (2 : Int) ^ k - 1))) ∧ w' = W := fun W => by exact in6_is b 0 _ W
      have K3 : ∀ W : World, Calls Try.prog 59 #[.int .i64 e, .int .i64 0, .int .i64 ((2 : Int) ^ k - 1)] W fun e1 w' => e1 = .returned (.bool (decide (0 ≤ e ∧ e ≤ (2 : Int) ^ k - 1))) ∧ w' = W := fun W => by exact in6_is e 0 _ W
      cases d1 : decide ((1 : Int) ≤ (k : Int) ∧ (k : Int) ≤ 5)
      · rw [d1] at HE K1
        have HK1 := Lib.hid K1
        clear d1 K1 K2 K3
        go_wp2
        go_quiet ((go_at_call 59; exact Calls.quiet_of_same (HK1.out _)))
        go_wp2
        go_ret
        exact ⟨by rw [HE.out]; rfl, (HB.out.step (below_drewN (Below.refl _ _) _)).below⟩
      · rw [d1] at HE K1
        have HK1 := Lib.hid K1
        clear d1 K1
        cases d2 : decide (0 ≤ b ∧ b ≤ (2 : Int) ^ k - 1)
        · rw [d2] at HE K2
          have HK2 := Lib.hid K2
          clear d2 K2 K3
          go_wp2
          go_quiet ((go_at_call 59; first | (with_reducible exact Calls.quiet_of_same (HK1.out _)) | (with_reducible exact Calls.quiet_of_same (HK2.out _))))
          go_wp2
          go_ret
          exact ⟨by rw [HE.out]; rfl, (HB.out.step (below_drewN (Below.refl _ _) _)).below⟩
        · rw [d2] at HE K2
          have HK2 := Lib.hid K2
          clear d2 K2
          cases d3 : decide (0 ≤ e ∧ e ≤ (2 : Int) ^ k - 1)
          all_goals
            rw [d3] at HE K3
            have HK3 := Lib.hid K3
            clear d3 K3
            go_wp2
            go_quiet ((go_at_call 59; first | (with_reducible exact Calls.quiet_of_same (HK1.out _)) | (with_reducible exact Calls.quiet_of_same (HK2.out _)) | (with_reducible exact Calls.quiet_of_same (HK3.out _))))
            go_wp2
            go_ret
            exact ⟨by rw [HE.out]; rfl, (HB.out.step (below_drewN (Below.refl _ _) _)).below⟩

set_option maxHeartbeats 1000000 in
theorem specIn_more (a : Option Addr) (n c : Nat) (zs : List Int) (b e : Int) (w : World) (h : ReadsI w a n zs) (hn : n ≤ 1048576) (h5 : 5 < n) :
    Calls Try.prog 86 #[.agg #[.slice a n c, .int .i64 b, .int .i64 e]] w fun e1 w' => e1 = .returned (.bool false) ∧ Below w.heap.size w w' := by
  have HBX := Lib.hid (boxM_start a n c b e w 50)
  have HR0 := Lib.hid h
  have h5I : (5 : Int) < (n : Int) := by omega
  clear h
  go_enter Try.func86, Try.ntmps86
  go_wp2
  go_loopw [4] (fun i wr => ∃ k : Nat, i = .int .i64 k ∧ k ≤ n ∧ BoxM a n c b e w.heap.size w wr) (fun i _ => n - (intOf i).toNat)
  case atStart => exact ⟨0, rfl, Nat.zero_le _, HBX.out⟩
  case round =>
    obtain ⟨k, rfl, hk, hbx⟩ := hrel
    have q0 := hbx.q0
    have qs := hbx.q1
    have qe := hbx.q2
    have HB := Lib.hid hbx
    by_cases hlt : k < n
    · rcases (HR0.out.below hbx.below (Nat.le_refl _)).cells with h | ⟨g, o, rfl, hg, hc⟩
      · omega
      have q1 := hc k hlt
      clear hc hbx
      obtain ⟨z, hz⟩ : ∃ z, z = zs.getD k 0 := ⟨_, rfl⟩
      rw [← hz] at q1
      have b1 : (k : Int) < (n : Int) := by omega
      have b2 : (0 : Int) ≤ (k : Int) := by omega
      clear hz
      go_wp2
      go_quiet ((go_at_call 59; exact Calls.quiet_of_same (in6_is _ _ _ _)))
      go_wp2
      · go_ret
        exact ⟨rfl, (HB.out.step (below_drewN (Below.refl _ _) _)).below⟩
      · exact ⟨⟨k + 1, by go_num, by omega, HB.out.step (below_drewN (Below.refl _ _) _)⟩, by simp [intOf]; omega⟩
    · obtain rfl : k = n := by omega
      have K1 := in6_is k 1 5
      rw [decide_eq_false (show ¬ ((1 : Int) ≤ (k : Int) ∧ (k : Int) ≤ 5) by omega)] at K1
      have HK1 := Lib.hid K1
      clear K1 hbx
      go_wp2
      go_quiet ((go_at_call 59; exact Calls.quiet_of_same (HK1.out _)))
      go_wp2
      go_ret
      exact ⟨rfl, (HB.out.step (below_drewN (Below.refl _ _) _)).below⟩

theorem specIn (a : Option Addr) (n c : Nat) (zs : List Int) (b e : Int) (w : World) (h : ReadsI w a n zs) (hn : n ≤ 1048576) :
    Calls Try.prog 86 #[.agg #[.slice a n c, .int .i64 b, .int .i64 e]] w fun e1 w' => e1 = .returned (.bool (okM zs b e)) ∧ Below w.heap.size w w' := by
  rcases Nat.lt_or_ge 5 n with h5 | h5
  · rw [okM_off (by have := h.len; omega)]
    exact specIn_more a n c zs b e w h hn h5
  · exact specIn_few a n c zs b e w h h5

end Go.Proofs.Ytiphooodijbhiab
