/-
  The walks of the drawing of what chapter 5's functions are asked. What the walks of chapter 5's promises share.
-/
import Derived.Test.YtcacdgojibojgacDrawSet
import Derived.Test.YtcacdgojibojgacRowBytes
import Derived.Test.YtcacdgojibojgacSetHasI
import Derived.Test.YtcacdgojibojgacToldMath
import Derived.Test.YtcacdgojibojgacMakeMath
set_option linter.unusedVariables false
set_option linter.unusedSimpArgs false
namespace Go.Proofs.Ytcacdgojibojgac
open Go.RowKit

theorem setHas_nat {s : ByteArray} (h : okS s = true) (n : Nat) : setHas s (n : Int) = fS s n := by
  unfold setHas; rw [h, Bool.true_and, hasI_nat]; rfl
theorem told_size {T : ByteArray} (h : okS T = true) : T.size ≤ 1048576 := by
  rw [set_size h]
  have h1 := setT_le h
  have h2 := setR_le h
  omega
theorem makeIs_size {ok : Bool} {f : Nat → Bool} {T : ByteArray} {b : Bool} (h : MakeIs ok f T b) : T.size ≤ 1048576 := by
  cases ok
  · obtain ⟨rfl, _⟩ := h.2 rfl; decide
  · rcases h.1 rfl with ⟨_, h⟩ | ⟨_, rfl, _⟩
    · exact told_size h.told.ok
    · decide
theorem makeIs_true {ok : Bool} {f : Nat → Bool} {T : ByteArray} (h : MakeIs ok f T true) : ok = true ∧ TidyText f T := by
  cases ok
  · have := (h.2 rfl).2; cases this
  · rcases h.1 rfl with ⟨_, h⟩ | ⟨h, _⟩
    · exact ⟨rfl, h⟩
    · cases h
theorem and_both {a b : Bool} (h : (a && b) = true) : a = true ∧ b = true := by cases a <;> cases b <;> simp at h <;> exact ⟨rfl, rfl⟩
theorem and_left {a b : Bool} (h : (a && b) = true) : a = true := (and_both h).1
theorem and_right {a b : Bool} (h : (a && b) = true) : b = true := (and_both h).2
/-- A set is asked, in a walk's own terms. -/
theorem ask_set {s : ByteArray} (h : okS s = true) (n : Nat) (m : Int) (W : World) (hs : s.size ≤ 1048576) (hn : n ≤ 100000) (hL : LibAt m W) :
    Calls Try.prog 59 #[.string s, .int .i64 n] W fun e w' => e = .returned (.bool (fS s n)) ∧ Below W.heap.size W w' := by
  have := implSetHas s n m W hs (by omega) hL
  rw [setHas_nat h] at this
  exact this
/-- A number in its range, as a natural one. -/
theorem inR_nat {x : Int} (h : inR x 0 1000 = true) : ∃ k : Nat, x = k ∧ k ≤ 1000 := by
  rcases inR_cases x 0 1000 with ⟨_, k1, k2⟩ | ⟨h2, _⟩
  · obtain ⟨k, rfl⟩ := Int.eq_ofNat_of_zero_le k1
    exact ⟨k, rfl, by omega⟩
  · rw [h2] at h; cases h
theorem small_parts {s : ByteArray} {m q : Nat} (ho : okS s = true) (hs : s.size ≤ 12) (ht : Tidy (fS s) m q) : m + q ≤ 10 := by
  have h1 := tidy_short ho ht
  have h2 := set_size ho
  omega
end Go.Proofs.Ytcacdgojibojgac
