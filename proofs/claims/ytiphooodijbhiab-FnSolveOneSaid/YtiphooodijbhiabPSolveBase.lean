/-
  What the walks of chapter 8's promises share.
-/
import Derived.Test.YtiphooodijbhiabDrawSolve
import Derived.Test.YtiphooodijbhiabRowBytes
import Derived.Test.YtiphooodijbhiabSetHasI
import Derived.Test.YtiphooodijbhiabEquMath
import Derived.Test.YtiphooodijbhiabSolveI
set_option linter.unusedVariables false
set_option linter.unusedSimpArgs false
namespace Go.Proofs.Ytiphooodijbhiab
open Go.RowKit

theorem setHas_nat {s : ByteArray} (h : okS s = true) (n : Nat) : setHas s (n : Int) = fS s n := by
  unfold setHas; rw [h, Bool.true_and, hasI_nat]; rfl
theorem told_size {T : ByteArray} (h : okS T = true) : T.size ≤ 1048576 := by
  rw [set_size h]
  have h1 := setT_le h
  have h2 := setR_le h
  omega
theorem small_ok {s : ByteArray} (h : smallS s = true) : okS s = true := (smallS_iff.1 h).1
theorem least_told {s t T : ByteArray} (h : MakeIs (leastOk s t) (lowF (fS s) (fS t)) T true) : leastOk s t = true ∧ smallS s = true ∧ smallS t = true ∧ okS T = true ∧ fS T = lowF (fS s) (fS t) ∧ TidyText (lowF (fS s) (fS t)) T := by
  obtain ⟨h1, h2⟩ := makeIs_told h
  exact ⟨h1, (leastOk_small h1).1, (leastOk_small h1).2, h2.told.ok, h2.told.set, h2⟩
theorem most_told {s t T : ByteArray} (h : MakeIs (mostOk s t) (mostF (fS s) (fS t)) T true) : smallS s = true ∧ smallS t = true ∧ okS T = true ∧ fS T = mostF (fS s) (fS t) ∧ TidyText (mostF (fS s) (fS t)) T := by
  obtain ⟨h1, h2⟩ := makeIs_told h
  unfold mostOk at h1
  rw [Bool.and_eq_true, Bool.and_eq_true] at h1
  exact ⟨h1.1.1, h1.1.2, h2.told.ok, h2.told.set, h2⟩
theorem most_of_low {f g : Nat → Bool} {n : Nat} (h : lowF f g n = true) : mostF f g n = true := by
  unfold mostF
  cases e : f 0
  · exact h
  · rfl
theorem most_is_low {f g : Nat → Bool} (h : f 0 = false) : mostF f g = lowF f g := by unfold mostF; rw [h]; rfl
theorem most_is_all {f g : Nat → Bool} (h : f 0 = true) : mostF f g = allF := by unfold mostF; rw [if_pos h]
/-- A set is asked, in a walk's own terms. -/
theorem ask_set {s : ByteArray} (h : okS s = true) (n : Nat) (m : Int) (W : World) (hs : s.size ≤ 1048576) (hn : n ≤ 100000) (hL : LibAt m W) :
    Calls Try.prog 33 #[.string s, .int .i64 n] W fun e w' => e = .returned (.bool (fS s n)) ∧ Below W.heap.size W w' := by
  have := implSetHas s n m W hs (by omega) hL
  rw [setHas_nat h] at this
  exact this

end Go.Proofs.Ytiphooodijbhiab
