/-
  The closure of MakeDown.
-/
import Derived.Test.YtifodjlfjnmnkabMade
import Derived.Test.YtifodjlfjnmnkabMakeMath
namespace Go.Proofs.Ytifodjlfjnmnkab
open Go.RowKit

set_option maxHeartbeats 400000 in
theorem clo_down (s T R : ByteArray) (P B k n : Nat) (W : World) (hk : k ≤ 1000) (hn : n ≤ 900000) (_ : P < W.heap.size) (_ : B < W.heap.size) (hs : IsSplit s T R) (c1 : W.cell? ⟨P, 0, none⟩ = some (.string T)) (c2 : W.cell? ⟨P, 1, none⟩ = some (.string R)) (c0 : W.cell? ⟨B, 0, none⟩ = some (.int .i64 k)) :
    Calls Try.prog 25 #[.int .i64 n, .pointer (some ⟨P, 0, none⟩), .pointer (some ⟨B, 0, none⟩)] W fun e w' => e = .returned (.bool (downF (fS s) k n)) ∧ Below W.heap.size W w' := by
  have K1 : ∀ W1 : World, Calls Try.prog 26 #[.agg #[.string T, .string R], .int .i64 ((n : Int) + (k : Int))] W1 fun e w1 => e = .returned (.bool (downF (fS s) k n)) ∧ Below W1.heap.size W1 w1 := fun W1 =>
    has_nat (n := n + k) hs (by omega)
  go_enter Try.func25, Try.ntmps25
  go_wp2_with fail
  refine (K1 _).mono ?_
  rintro e w1 ⟨rfl, hb⟩
  go_wp2
  go_ret
  exact ⟨rfl, hb⟩

end Go.Proofs.Ytifodjlfjnmnkab
