/-
  Answers that are numbers, of rests: plain facts.
-/
import Derived.Test.YtifodjlfjnmnkabRestMath
namespace Go.Proofs.Ytifodjlfjnmnkab
open Go.RowKit

/-- What is answered where there is a number: ok tells whether there is one, P which. -/
def NumIs (ok : Bool) (P : Nat → Prop) (e : Ending) : Prop := ∃ n : Nat, e = .returned (.tuple #[.int .i64 n, .bool ok]) ∧ (ok = true → P n) ∧ (ok = false → n = 0)
def ManyIs (f : Nat → Bool) (n : Nat) : Prop := ∃ m q, Tidy f m q ∧ n = m + q
def RoundIs (f : Nat → Bool) (n : Nat) : Prop := ∃ m, Tidy f m n
def FirstIs (f : Nat → Bool) (k n : Nat) : Prop := ∃ m q, Tidy f m q ∧ n = placeF m q k
theorem numIs_unique {ok : Bool} {P : Nat → Prop} (hP : ∀ a b, P a → P b → a = b) {a b : Nat} (h1 : (ok = true → P a) ∧ (ok = false → a = 0)) (h2 : (ok = true → P b) ∧ (ok = false → b = 0)) : a = b := by
  cases ok
  · rw [h1.2 rfl, h2.2 rfl]
  · exact hP a b (h1.1 rfl) (h2.1 rfl)
theorem many_unique {f : Nat → Bool} : ∀ a b, ManyIs f a → ManyIs f b → a = b := by
  rintro a b ⟨m, q, h, rfl⟩ ⟨m', q', h', rfl⟩
  obtain ⟨rfl, rfl⟩ := tidy_unique h h'
  rfl
theorem round_unique {f : Nat → Bool} : ∀ a b, RoundIs f a → RoundIs f b → a = b := by
  rintro a b ⟨m, h⟩ ⟨m', h'⟩
  exact (tidy_unique h h').2
theorem first_unique {f : Nat → Bool} {k : Nat} : ∀ a b, FirstIs f k a → FirstIs f k b → a = b := by
  rintro a b ⟨m, q, h, rfl⟩ ⟨m', q', h', rfl⟩
  obtain ⟨rfl, rfl⟩ := tidy_unique h h'
  rfl
end Go.Proofs.Ytifodjlfjnmnkab
