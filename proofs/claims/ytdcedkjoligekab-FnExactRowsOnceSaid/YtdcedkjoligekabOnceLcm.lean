/-
  Steps up to 60 whose prime powers cost little have a small common multiple: plain facts.
-/
import Derived.Test.YtdcedkjoligekabShareMath
namespace Go.Proofs.Ytdcedkjoligekab
set_option linter.unusedVariables false

/-- The prime powers up to 60, each with its prime. -/
def powers : List (Nat × Nat) := [(2, 2), (2, 4), (2, 8), (2, 16), (2, 32), (3, 3), (3, 9), (3, 27), (5, 5), (5, 25), (7, 7), (7, 49), (11, 11), (13, 13), (17, 17), (19, 19), (23, 23), (29, 29), (31, 31), (37, 37), (41, 41), (43, 43), (47, 47), (53, 53), (59, 59)]
def costOf (l : List (Nat × Nat)) (c : Nat → Bool) : Nat := ((l.filter fun x => c x.2).map fun x => x.1 - 1).sum
def prodOf : List (Nat × Nat) → (Nat → Bool) → Nat
  | [], _ => 1
  | x :: l, c => if c x.2 = true then x.1 * prodOf l c else prodOf l c
/-- The greatest product of primes that cost so much at most. -/
def bestOf : List (Nat × Nat) → Nat → Nat
  | [], _ => 1
  | x :: l, b => if x.1 - 1 ≤ b then max (bestOf l b) (x.1 * bestOf l (b - (x.1 - 1))) else bestOf l b
theorem prod_best (l : List (Nat × Nat)) (c : Nat → Bool) : ∀ b, costOf l c ≤ b → prodOf l c ≤ bestOf l b := by
  induction l with
  | nil => intro b _; exact Nat.le_refl _
  | cons x l ih =>
    intro b hb
    unfold prodOf bestOf
    by_cases h : c x.2 = true
    · rw [if_pos h]
      have e : costOf (x :: l) c = (x.1 - 1) + costOf l c := by unfold costOf; simp [h]
      rw [if_pos (by omega)]
      exact Nat.le_trans (Nat.mul_le_mul_left _ (ih _ (by omega))) (Nat.le_max_right _ _)
    · rw [if_neg h]
      have e : costOf (x :: l) c = costOf l c := by unfold costOf; simp [h]
      have := ih b (by omega)
      split
      · exact Nat.le_trans this (Nat.le_max_left _ _)
      · exact this
theorem best_small : bestOf powers 19 ≤ 60000 := by decide +kernel
theorem prod_more (l : List (Nat × Nat)) (c e : Nat → Bool) (h : ∀ d, c d = true → e d = true) : prodOf l c ∣ prodOf l e := by
  induction l with
  | nil => exact Nat.dvd_refl _
  | cons x l ih =>
    unfold prodOf
    by_cases hc : c x.2 = true
    · rw [if_pos hc, if_pos (h _ hc)]; exact Nat.mul_dvd_mul_left _ ih
    · rw [if_neg hc]
      split
      · exact Nat.dvd_trans ih (Nat.dvd_mul_left _ _)
      · exact ih
theorem step_prod : ∀ s, s < 61 → 0 < s → s ∣ prodOf powers (fun d => s % d == 0) := by decide +kernel
/-- The prime powers of the steps of rows. -/
def inSteps (l : List Rw) (d : Nat) : Bool := l.any fun r => decide (0 < r.s) && r.s % d == 0
theorem lcm_small (l : List Rw) (h : ∀ r ∈ l, r.s ≤ 60) (hc : costOf powers (inSteps l) ≤ 19) : lcmAll l ≤ 60000 := by
  have hp : 0 < prodOf powers (inSteps l) := by
    have : ∀ (k : List (Nat × Nat)) (c : Nat → Bool), (∀ x ∈ k, 0 < x.1) → 0 < prodOf k c := by
      intro k c
      induction k with
      | nil => intro _; exact Nat.one_pos
      | cons x k ih =>
        intro hk
        unfold prodOf
        have h1 := ih (fun y hy => hk y (List.mem_cons_of_mem _ hy))
        split
        · exact Nat.mul_pos (hk x (List.mem_cons_self ..)) h1
        · exact h1
    exact this _ _ (by decide)
  refine Nat.le_trans (Nat.le_of_dvd hp (lcmAll_least ?_)) (Nat.le_trans (prod_best _ _ _ hc) best_small)
  intro r hr h0
  refine Nat.dvd_trans (step_prod r.s (by have := h r hr; omega) h0) (prod_more _ _ _ fun d hd => ?_)
  unfold inSteps
  rw [List.any_eq_true]
  exact ⟨r, hr, by rw [decide_eq_true h0]; exact hd⟩

end Go.Proofs.Ytdcedkjoligekab
