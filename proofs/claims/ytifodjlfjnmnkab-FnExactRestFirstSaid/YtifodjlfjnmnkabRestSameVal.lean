/-
  What is told of two rests, and texts that are compared: plain facts.
-/
import Derived.Test.YtifodjlfjnmnkabRestNum
namespace Go.Proofs.Ytifodjlfjnmnkab
open Go.RowKit

/-- What is told of two rests. -/
def SameIs (ok : Bool) (f : Nat → Bool) (i k : Nat) (e : Ending) : Prop := ∃ b, e = .returned (.bool b) ∧ (ok = true → (b = true ↔ downF f i = downF f k)) ∧ (ok = false → b = false)
theorem bytes_beq (T U : ByteArray) : (T.toList == U.toList) = decide (T = U) := by
  rw [Go.Lib.toList_data, Go.Lib.toList_data]
  by_cases h : T = U
  · subst h; simp
  · rw [decide_eq_false h]
    cases e : (T.data.toList == U.data.toList)
    · rfl
    · have e := eq_of_beq e
      exact absurd (by cases T; cases U; simp at e; rw [e]) h
theorem sameIs_off {ok : Bool} {f : Nat → Bool} {i k : Nat} {e : Ending} (h : ok = false) (he : e = .returned (.bool false)) : SameIs ok f i k e :=
  ⟨false, he, And.intro (fun h2 => absurd (h.symm.trans h2) (by decide)) (fun _ => rfl)⟩
theorem sameIs_unique {ok : Bool} {f : Nat → Bool} {i k : Nat} {a b : Bool} (h1 : (ok = true → (a = true ↔ downF f i = downF f k)) ∧ (ok = false → a = false)) (h2 : (ok = true → (b = true ↔ downF f i = downF f k)) ∧ (ok = false → b = false)) : a = b := by
  cases ok
  · rw [h1.2 rfl, h2.2 rfl]
  · have e := (h1.1 rfl).trans (h2.1 rfl).symm
    cases a <;> cases b <;> simp at e <;> rfl
end Go.Proofs.Ytifodjlfjnmnkab
