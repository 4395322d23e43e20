/-
  The walks of the program's small functions on rows: between, row.has, row.fits, row.list, row.early; the greatest common divisor and the least common multiple.
-/
import Derived.Test.YtdcedkjoligekabBase
import Derived.Test.YtdcedkjoligekabInts
import Derived.Test.YtdcedkjoligekabRowMath
import Derived.Lib.MinMax
namespace Go.Proofs.Ytdcedkjoligekab
open Go.RowKit
set_option linter.unusedVariables false

/-- A row as the program holds it. -/
def rwV (r : Rw) : Value := .agg #[.int .i64 r.b, .int .i64 r.s]

theorem betw_is (k a b : Int) (w : World) :
    Calls Try.prog 42 #[.int .i64 k, .int .i64 a, .int .i64 b] w fun e w' => e = .returned (.bool (decide (a ≤ k ∧ k ≤ b))) ∧ w' = w := by
  by_cases h1 : a ≤ k
  · by_cases h2 : k ≤ b
    · have e : decide (a ≤ k ∧ k ≤ b) = true := decide_eq_true ⟨h1, h2⟩
      rw [e]
      clear e
      go_enter Try.func42, Try.ntmps42
      go_wp2
      go_ret
      exact ⟨rfl, rfl⟩
    · have e : decide (a ≤ k ∧ k ≤ b) = false := decide_eq_false (fun h => h2 h.2)
      rw [e]
      clear e
      have h3 : decide (k ≤ b) = false := decide_eq_false h2
      go_enter Try.func42, Try.ntmps42
      go_wp2
      go_ret
      exact ⟨rfl, rfl⟩
  · have e : decide (a ≤ k ∧ k ≤ b) = false := decide_eq_false (fun h => h1 h.1)
    rw [e]
    clear e
    have h3 : k < a := by omega
    go_enter Try.func42, Try.ntmps42
    go_wp2
    go_ret
    exact ⟨rfl, rfl⟩

theorem has_zero' (b n : Nat) : (Rw.mk b 0).has n = decide ((n : Int) = (b : Int)) := by
  rw [Bool.eq_iff_iff, has_zero rfl]; simp only [decide_eq_true_eq]; omega
theorem has_pos' (b s n : Nat) (hs : s ≠ 0) (h : b ≤ n) : (Rw.mk b s).has n = decide (((n : Int) - (b : Int)) % (s : Int) = 0) := by
  rw [Bool.eq_iff_iff, has_pos (Nat.pos_of_ne_zero hs)]
  show b ≤ n ∧ s ∣ n - b ↔ _
  rw [decide_eq_true_eq, show (n : Int) - (b : Int) = ((n - b : Nat) : Int) from by omega, Nat.dvd_iff_mod_eq_zero]
  omega
theorem has_less' (b s n : Nat) (hs : s ≠ 0) (h : n < b) : (Rw.mk b s).has n = false := by
  cases e : (Rw.mk b s).has n
  · rfl
  · have := has_ge e
    have : b ≤ n := this
    omega

set_option maxHeartbeats 1000000 in
theorem rowHas_is (r : Rw) (n : Nat) (w : World) (hb : r.b ≤ 1000000) (hs : r.s ≤ 1000000) (hn : n ≤ 1000000) :
    Calls Try.prog 41 #[rwV r, .int .i64 n] w fun e w' => e = .returned (.bool (r.has n)) ∧ Below w.heap.size w w' := by
  obtain ⟨b, s⟩ := r
  unfold rwV
  by_cases h0 : s = 0
  · subst h0
    rw [has_zero']
    go_enter Try.func41, Try.ntmps41
    go_wp2
    go_ret
    exact ⟨rfl, (Below.refl _ _).alloc (Nat.le_refl _) _⟩
  · have d0 : (s : Int) ≠ 0 := by omega
    by_cases h1 : b ≤ n
    · rw [has_pos' b s n h0 h1]
      have c1 : (b : Int) ≤ (n : Int) := by omega
      go_enter Try.func41, Try.ntmps41
      go_wp2
      go_ret
      exact ⟨rfl, (Below.refl _ _).alloc (Nat.le_refl _) _⟩
    · rw [has_less' b s n h0 (by omega)]
      have c1 : (n : Int) < (b : Int) := by omega
      go_enter Try.func41, Try.ntmps41
      go_wp2
      go_ret
      exact ⟨rfl, (Below.refl _ _).alloc (Nat.le_refl _) _⟩

theorem rowFits_is (r : Rw) (w : World) :
    Calls Try.prog 27 #[rwV r] w fun e w' => e = .returned (.bool (decide (r.b ≤ 59 ∧ r.s ≤ 60))) ∧ Below w.heap.size w w' := by
  obtain ⟨b, s⟩ := r
  unfold rwV
  show Calls _ _ _ _ fun e w' => e = .returned (.bool (decide (b ≤ 59 ∧ s ≤ 60))) ∧ _
  by_cases h1 : b ≤ 59
  · have e1 : decide ((0 : Int) ≤ (b : Int) ∧ (b : Int) ≤ 59) = true := decide_eq_true (by omega)
    have e2 : decide (b ≤ 59 ∧ s ≤ 60) = decide ((s : Int) ≤ 60) := decide_eq_decide.2 (by omega)
    have e3 : decide ((0 : Int) ≤ (s : Int) ∧ (s : Int) ≤ 60) = decide ((s : Int) ≤ 60) := decide_eq_decide.2 (by omega)
    rw [e2]
    clear e2
    go_enter Try.func27, Try.ntmps27
    go_wp2_with fail
    refine (betw_is b 0 59 _).mono ?_
    rintro e w1 ⟨rfl, rfl⟩
    rw [e1]
    go_wp2_with fail
    refine (betw_is s 0 60 _).mono ?_
    rintro e w1 ⟨rfl, rfl⟩
    rw [e3]
    go_wp2
    go_ret
    exact ⟨rfl, (Below.refl _ _).alloc (Nat.le_refl _) _⟩
  · have e1 : decide ((0 : Int) ≤ (b : Int) ∧ (b : Int) ≤ 59) = false := decide_eq_false (by omega)
    have e2 : decide (b ≤ 59 ∧ s ≤ 60) = false := decide_eq_false (by omega)
    rw [e2]
    clear e2
    go_enter Try.func27, Try.ntmps27
    go_wp2_with fail
    refine (betw_is b 0 59 _).mono ?_
    rintro e w1 ⟨rfl, rfl⟩
    rw [e1]
    go_wp2
    go_ret
    exact ⟨rfl, (Below.refl _ _).alloc (Nat.le_refl _) _⟩

theorem list_two (w : World) (o : Obj) (x y : Int) : ((w.alloc o).alloc (.cells #[.int .i64 x, .int .i64 y] 3)).ownsRow (w.heap.size + 1) 3 1 (.slice (some ⟨w.heap.size + 1, 0, none⟩) 2 2) 2 (ints [x, y]) := by
  refine ⟨rfl, .inr ⟨w.heap.size + 1, 2, #[.int .i64 x, .int .i64 y], rfl, Nat.le_refl _, ?_, Nat.le_refl _, by decide, rfl, rfl⟩⟩
  have h := heap_alloc_new (w.alloc o) (.cells #[.int .i64 x, .int .i64 y] 3)
  simp at h ⊢
  exact h

theorem rowList_is (r : Rw) (w : World) :
    Calls Try.prog 28 #[rwV r] w fun e w' => ∃ g, e = .returned (.slice (some ⟨g, 0, none⟩) 2 2) ∧ Below w.heap.size w w' ∧ w'.ownsRow w.heap.size 3 1 (.slice (some ⟨g, 0, none⟩) 2 2) 2 (ints [(r.b : Int), (r.s : Int)]) := by
  obtain ⟨b, s⟩ := r
  unfold rwV
  go_enter Try.func28, Try.ntmps28
  go_wp2
  go_ret
  exact ⟨_, rfl, ((Below.refl _ _).alloc (Nat.le_refl _) _).alloc (by simp) _, own_base (list_two _ _ _ _) (Nat.le_succ _)⟩

set_option maxHeartbeats 1000000 in
theorem rowEarly_is (r : Rw) (w : World) (hs : 0 < r.s) (hs2 : r.s ≤ 1000000) (hb : r.b ≤ 1000000) :
    Calls Try.prog 44 #[rwV r] w fun e w' => e = .returned (rwV r.early) ∧ Below w.heap.size w w' := by
  obtain ⟨b, s⟩ := r
  unfold rwV Rw.early
  show Calls _ _ _ _ fun e w' => e = .returned (.agg #[.int .i64 ((b % s : Nat) : Int), .int .i64 (s : Int)]) ∧ _
  have hs' : 0 < s := hs
  have d0 : (s : Int) ≠ 0 := by omega
  rw [Int.natCast_emod]
  go_enter Try.func44, Try.ntmps44
  go_wp2
  go_region
  go_wp2
  refine bodyPost_ret (v := .agg #[.int .i64 ((b : Int) % (s : Int)), .int .i64 (s : Int)]) (by simp [results, Try.results44, go_sem]) rfl ⟨rfl, ?_⟩
  exact below_drewN (((Below.refl _ _).alloc (Nat.le_refl _) _).alloc (by simp) _) 1

/-- The greatest common divisor, as the program finds it. -/
theorem gcd_step (a b : Nat) : Nat.gcd a b = Nat.gcd b (a % b) := by rw [Nat.gcd_comm a b, Nat.gcd_rec b a, Nat.gcd_comm]

set_option maxHeartbeats 1000000 in
theorem divisor_is (a b : Nat) (w : World) (ha : a ≤ 1000000000000) (hb : b ≤ 1000000000000) :
    Calls Try.prog 39 #[.int .i64 a, .int .i64 b] w fun e w' => e = .returned (.int .i64 (Nat.gcd a b : Nat)) ∧ Below w.heap.size w w' := by
  go_enter Try.func39, Try.ntmps39
  go_wp2
  go_loopw [0, 1] (fun x y wr => ∃ p q : Nat, x = .int .i64 p ∧ y = .int .i64 q ∧ p ≤ 1000000000000 ∧ q ≤ 1000000000000 ∧ Nat.gcd p q = Nat.gcd a b ∧ Below w.heap.size w wr) (fun _ y _ => (intOf y).toNat)
  case atStart => exact ⟨a, b, rfl, rfl, ha, hb, rfl, Below.refl _ _⟩
  case round =>
    obtain ⟨p, q, rfl, rfl, hp, hq, hg, hB⟩ := hrel
    by_cases h0 : q = 0
    · have HG : Hid (p = Nat.gcd a b) := Lib.hid (by rw [← hg, h0, Nat.gcd_zero_right])
      have d0 : ((q : Int) != 0) = false := by subst h0; rfl
      clear hg h0
      go_wp2
      go_ret
      have e := HG.out
      subst e
      exact ⟨rfl, hB⟩
    · have d0 : (q : Int) ≠ 0 := by omega
      have HG : Hid (Nat.gcd q (p % q) = Nat.gcd a b) := Lib.hid (by rw [← gcd_step]; exact hg)
      have hlt := Nat.mod_lt p (Nat.pos_of_ne_zero h0)
      clear hg
      go_wp2
      go_quiet (fail)
      go_wp2
      go_roundw
      case rel => exact ⟨q, p % q, rfl, by rw [Int.natCast_emod], hq, by omega, HG.out, below_drewN hB _⟩
      case measure => simp [intOf]; omega

theorem lcm_div (a b : Nat) : a / Nat.gcd a b * b = Nat.lcm a b := by
  unfold Nat.lcm
  rw [Nat.div_mul_right_comm (Nat.gcd_dvd_left a b)]

set_option maxHeartbeats 1000000 in
theorem multiple_is (a b : Nat) (w : World) (ha : a ≤ 1000000) (hb : b ≤ 1000000) (h0 : 0 < b) :
    Calls Try.prog 38 #[.int .i64 a, .int .i64 b] w fun e w' => e = .returned (.int .i64 (Nat.lcm a b : Nat)) ∧ Below w.heap.size w w' := by
  have hg : 0 < Nat.gcd a b := Nat.gcd_pos_of_pos_right a h0
  obtain ⟨g, hgd⟩ : ∃ g, g = Nat.gcd a b := ⟨_, rfl⟩
  have d0 : (g : Int) ≠ 0 := by omega
  have hl : a / g * b ≤ 1000000000000 := by
    have h1 := Nat.div_le_self a g
    calc a / g * b ≤ 1000000 * 1000000 := Nat.mul_le_mul (by omega) hb
      _ = _ := by decide
  have HL : Hid ((a : Int) / (g : Int) * (b : Int) = ((Nat.lcm a b : Nat) : Int)) := Lib.hid (by rw [← lcm_div, ← hgd]; simp)
  have c1 : 0 ≤ (a : Int) / (g : Int) := Int.ediv_nonneg (by omega) (by omega)
  have c2 : (a : Int) / (g : Int) ≤ 1000000 := by have := Int.ediv_le_self (b := (g : Int)) (show (0 : Int) ≤ (a : Int) from by omega); omega
  have hl0 : 0 ≤ (a : Int) / (g : Int) * (b : Int) := Int.mul_nonneg c1 (by omega)
  have hl' : (a : Int) / (g : Int) * (b : Int) ≤ 1000000000000 := by have := Int.ofNat_le.2 hl; rw [Int.natCast_mul, Int.natCast_ediv] at this; exact this
  go_enter Try.func38, Try.ntmps38
  go_wp2_with fail
  refine (divisor_is a b _ (by omega) (by omega)).mono ?_
  rintro e w1 ⟨rfl, hB⟩
  rw [← hgd]
  clear hgd hg hl
  go_wp2
  go_ret
  refine ⟨?_, hB⟩
  rw [← HL.out]
  rfl

end Go.Proofs.Ytdcedkjoligekab
