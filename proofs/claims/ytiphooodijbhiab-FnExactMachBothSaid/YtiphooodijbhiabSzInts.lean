/-
  The walk of the exact laws' szIntS.
-/
import Derived.Test.YtiphooodijbhiabSetDef
namespace Go.Proofs.Ytiphooodijbhiab
open Go.RowKit
set_option linter.unusedVariables false

set_option maxHeartbeats 400000 in
theorem szIntS_is (a : Option Addr) (n c l : Nat) (w : World) (hl : l ≤ 1048576) (hn : n ≤ maxLen) :
    Calls Try.prog 85 #[.slice a n c, .int .i64 l] w fun e w' => e = .returned (.int .i64 (if n ≤ l then ((l - n : Nat) : Int) else -1)) ∧ w = w' := by
  unfold maxLen at hn
  by_cases h : n ≤ l
  · rw [if_pos h]
    have h1 : (0 : Int) ≤ (l : Int) - (n : Int) := by omega
    have e1 : ((l - n : Nat) : Int) = (l : Int) - (n : Int) := by omega
    rw [e1]
    clear e1
    go_enter Try.func85, Try.ntmps85
    go_wp2
    go_ret
    exact ⟨rfl, rfl⟩
  · rw [if_neg h]
    have h1 : (l : Int) - (n : Int) < 0 := by omega
    go_enter Try.func85, Try.ntmps85
    go_wp2
    go_ret
    exact ⟨rfl, rfl⟩

end Go.Proofs.Ytiphooodijbhiab
