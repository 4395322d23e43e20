/-
  The walk of impl.numberIn.
-/
import Derived.Test.YtiphooodijbhiabSetDef
namespace Go.Proofs.Ytiphooodijbhiab
open Go.RowKit

theorem numberIn_yes (n : Int) (w : World) (h : 0 ≤ n) (h2 : n ≤ 1000) :
    Calls Try.prog 121 #[.int .i64 n] w fun e w' => e = .returned (.bool true) ∧ w = w' := by
  go_enter Try.func121, Try.ntmps121
  go_wp2
  go_ret
  exact ⟨rfl, rfl⟩

theorem numberIn_no (n : Int) (w : World) (h : n < 0 ∨ 1000 < n) :
    Calls Try.prog 121 #[.int .i64 n] w fun e w' => e = .returned (.bool false) ∧ w = w' := by
  rcases h with h | h
  · go_enter Try.func121, Try.ntmps121
    go_wp2
    go_ret
    exact ⟨rfl, rfl⟩
  · have h0 : 0 ≤ n := by omega
    have hd : decide (n ≤ 1000) = false := decide_eq_false (by omega)
    go_enter Try.func121, Try.ntmps121
    go_wp2
    go_ret
    exact ⟨rfl, rfl⟩

end Go.Proofs.Ytiphooodijbhiab
