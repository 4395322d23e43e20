/-
  Sums of two sets, as functions from numbers to truths, and when they come round; small sets: plain facts.
-/
import Derived.Test.YtifodjlfjnmnkaaMakeMath
import Derived.Test.YtifodjlfjnmnkaaToldMath
set_option linter.unusedVariables false
set_option linter.unusedSimpArgs false
namespace Go.Proofs.Ytifodjlfjnmnkaa
open Go.RowKit

/-- Is n a sum by x? With d, not of two equal numbers. -/
def sumT (d : Bool) (f g : Nat → Bool) (n x : Nat) : Bool := f x && (g (n - x) && (!d || decide (x ≠ n - x)))
/-- The sum of f and g; with d, of different numbers. -/
def sumG (d : Bool) (f g : Nat → Bool) (n : Nat) : Bool := someF (sumT d f g n) 0 (n + 1)
theorem sumT_iff {d : Bool} {f g : Nat → Bool} {n x : Nat} : sumT d f g n x = true ↔ f x = true ∧ g (n - x) = true ∧ (d = true → x ≠ n - x) := by
  unfold sumT
  rw [Bool.and_eq_true, Bool.and_eq_true, Bool.or_eq_true, decide_eq_true_iff]
  cases d <;> simp
theorem sumG_iff {d : Bool} {f g : Nat → Bool} {n : Nat} : sumG d f g n = true ↔ ∃ x y, x + y = n ∧ f x = true ∧ g y = true ∧ (d = true → x ≠ y) := by
  unfold sumG
  rw [someF_iff]
  constructor
  · rintro ⟨i, hi, h⟩
    rw [Nat.zero_add, sumT_iff] at h
    exact ⟨i, n - i, by omega, h.1, h.2.1, h.2.2⟩
  · rintro ⟨x, y, rfl, h1, h2, h3⟩
    refine ⟨x, by omega, ?_⟩
    rw [Nat.zero_add, sumT_iff, show x + y - x = y from by omega]
    exact ⟨h1, h2, h3⟩
theorem bool_iff {a b : Bool} (h : a = true ↔ b = true) : a = b := by
  cases a <;> cases b <;> simp at h ⊢
theorem sum_round {f g : Nat → Bool} {m p : Nat} (hp : 0 < p) (hf : ∀ n, m ≤ n → f (n + p) = f n) (hg : ∀ n, m ≤ n → g (n + p) = g n) (n : Nat) (hn : 2 * m + p ≤ n) : sumG false f g (n + p) = sumG false f g n := by
  apply bool_iff
  rw [sumG_iff, sumG_iff]
  constructor
  · rintro ⟨x, y, e, h1, h2, _⟩
    by_cases hx : m + p ≤ x
    · refine ⟨x - p, y, by omega, ?_, h2, by simp⟩
      rw [← hf (x - p) (by omega), show x - p + p = x from by omega]; exact h1
    · refine ⟨x, y - p, by omega, h1, ?_, by simp⟩
      rw [← hg (y - p) (by omega), show y - p + p = y from by omega]; exact h2
  · rintro ⟨x, y, e, h1, h2, _⟩
    by_cases hx : m ≤ x
    · exact ⟨x + p, y, by omega, by rw [hf x hx]; exact h1, h2, by simp⟩
    · exact ⟨x, y + p, by omega, h1, by rw [hg y (by omega)]; exact h2, by simp⟩
theorem sumD_round {f : Nat → Bool} {m p : Nat} (hp : 0 < p) (hf : ∀ n, m ≤ n → f (n + p) = f n) (n : Nat) (hn : 2 * m + 3 * p ≤ n) : sumG true f f (n + p) = sumG true f f n := by
  have up : ∀ x, m ≤ x → f x = true → f (x + p) = true := fun x hx h => by rw [hf x hx]; exact h
  have dn : ∀ x, m + p ≤ x → f x = true → f (x - p) = true := fun x hx h => by
    rw [← hf (x - p) (by omega), show x - p + p = x from by omega]; exact h
  apply bool_iff
  rw [sumG_iff, sumG_iff]
  constructor
  · rintro ⟨x, y, e, h1, h2, h3⟩
    have h3 := h3 rfl
    by_cases hx : m + p ≤ x
    · by_cases he : x - p = y
      · exact ⟨x, y - p, by omega, h1, dn y (by omega) h2, fun _ => by omega⟩
      · exact ⟨x - p, y, by omega, dn x hx h1, h2, fun _ => he⟩
    · exact ⟨x, y - p, by omega, h1, dn y (by omega) h2, fun _ => by omega⟩
  · rintro ⟨x, y, e, h1, h2, h3⟩
    have h3 := h3 rfl
    by_cases hx : m ≤ x
    · by_cases he : x + p = y
      · exact ⟨x, y + p, by omega, h1, up y (by omega) h2, fun _ => by omega⟩
      · exact ⟨x + p, y, by omega, up x hx h1, h2, fun _ => he⟩
    · exact ⟨x, y + p, by omega, h1, up y (by omega) h2, fun _ => by omega⟩
theorem sumG_comm (f g : Nat → Bool) : sumG false f g = sumG false g f := by
  funext n
  apply bool_iff
  rw [sumG_iff, sumG_iff]
  constructor
  · rintro ⟨x, y, e, h1, h2, _⟩; exact ⟨y, x, by omega, h2, h1, by simp⟩
  · rintro ⟨x, y, e, h1, h2, _⟩; exact ⟨y, x, by omega, h2, h1, by simp⟩

/-- Has a set a tidy tail and ring of 8 signs at most? -/
def Small (f : Nat → Bool) : Prop := ∃ m q, Tidy f m q ∧ m ≤ 8 ∧ q ≤ 8
noncomputable def smallS (s : ByteArray) : Bool := okS s && @decide (Small (fS s)) (Classical.propDecidable _)
theorem smallS_iff {s : ByteArray} : smallS s = true ↔ okS s = true ∧ Small (fS s) := by
  unfold smallS
  rw [Bool.and_eq_true, @decide_eq_true_iff _ (Classical.propDecidable _)]
theorem smallS_off {s : ByteArray} (h : okS s = false) : smallS s = false := by unfold smallS; rw [h]; rfl
theorem smallS_not {s : ByteArray} {m q : Nat} (h : Tidy (fS s) m q) (h2 : ¬ (m ≤ 8 ∧ q ≤ 8)) : smallS s = false := by
  cases e : smallS s
  · rfl
  · obtain ⟨_, m', q', ht, h3⟩ := smallS_iff.1 e
    obtain ⟨rfl, rfl⟩ := tidy_unique h ht
    exact absurd h3 h2
theorem smallS_on {s : ByteArray} {m q : Nat} (ho : okS s = true) (h : Tidy (fS s) m q) (h2 : m ≤ 8 ∧ q ≤ 8) : smallS s = true := smallS_iff.2 ⟨ho, m, q, h, h2⟩
/-- Only 0. -/
def zeroOnly (n : Nat) : Bool := decide (n = 0)
theorem tidy_zeroOnly : Tidy zeroOnly 1 1 :=
  ⟨by decide, fun n hn => by unfold zeroOnly; rw [decide_eq_false (by omega), decide_eq_false (by omega)], fun d hd => hd.1, .inr (by decide)⟩
theorem tidyText_zeroOnly : TidyText zeroOnly ⟨#[49, 40, 48, 41]⟩ := ⟨1, 1, tidy_zeroOnly, by decide, by decide, by decide⟩

end Go.Proofs.Ytifodjlfjnmnkaa
