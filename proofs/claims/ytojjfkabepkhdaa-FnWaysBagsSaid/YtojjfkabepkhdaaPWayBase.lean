/-
  What the walks of chapter 9's promises share.
-/
import Derived.Test.YtojjfkabepkhdaaRowBytes
import Derived.Test.YtojjfkabepkhdaaDrawWays
import Derived.Test.YtojjfkabepkhdaaSetHasI
import Derived.Test.YtojjfkabepkhdaaWayVal
set_option linter.unusedVariables false
set_option linter.unusedSimpArgs false
namespace Go.Proofs.Ytojjfkabepkhdaa
open Go.RowKit

theorem setHas_nat9 {s : ByteArray} (h : okS s = true) (n : Nat) : setHas s (n : Int) = fS s n := by
  unfold setHas; rw [h, Bool.true_and, hasI_nat]; rfl
theorem small_ok9 {s : ByteArray} (h : smallS s = true) : okS s = true := (smallS_iff.1 h).1
/-- A set is asked, in a walk's own terms. -/
theorem ask_set9 {s : ByteArray} (h : smallS s = true) (n : Nat) (m : Int) (W : World) (hs : s.size ≤ 1048576) (hn : n ≤ 100000) (hL : LibAt m W) :
    Calls Try.prog 33 #[.string s, .int .i64 n] W fun e w' => e = .returned (.bool (fS s n)) ∧ Below W.heap.size W w' := by
  have := implSetHas s n m W hs (by omega) hL
  rw [setHas_nat9 (small_ok9 h)] at this
  exact this
theorem inR_in {k N : Int} (h0 : 0 ≤ k) (h1 : k ≤ N) : inR k 0 N = true := by
  unfold inR; rw [decide_eq_true h0, decide_eq_true h1]; rfl
theorem inR_out {k N : Int} (h : k < 0 ∨ N < k) : inR k 0 N = false := by
  rcases inR_cases k 0 N with ⟨_, a, b⟩ | ⟨a, _⟩
  · omega
  · exact a
theorem okW_of {s : ByteArray} {n : Nat} {N : Int} (h : smallS s = true) (hn : (n : Int) ≤ N) : okW s n N = true := by
  unfold okW; rw [h, inR_in (by omega) hn]; rfl
theorem partOk_of {s : ByteArray} {n k : Nat} (h : smallS s = true) (hn : n ≤ 40) (hk : k ≤ 40) : partOk s n k = true := by
  unfold partOk; rw [okW_of h (by omega), inR_in (by omega) (by omega)]; rfl

end Go.Proofs.Ytojjfkabepkhdaa
