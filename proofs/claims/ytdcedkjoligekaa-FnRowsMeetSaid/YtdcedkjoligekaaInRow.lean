/-
  The walk of the laws' own inRow: a row has a number.
-/
import Derived.Test.YtdcedkjoligekaaRowS
namespace Go.Proofs.Ytdcedkjoligekaa
open Go.RowKit
set_option linter.unusedVariables false

set_option maxHeartbeats 1000000 in
theorem inRow_is (a : Option Addr) (c : Nat) (r : Rw) (n : Nat) (w : World) (h : IsRw w a r) (hb : r.b ≤ 1000000) (hs : r.s ≤ 1000000) (hn : n ≤ 1000000) :
    Calls Try.prog 30 #[.slice a 2 c, .int .i64 n] w fun e w' => e = .returned (.bool (r.has n)) ∧ Below w.heap.size w w' := by
  obtain ⟨b, s⟩ := r
  obtain ⟨g, o, rfl, hg, k0, k1⟩ := h.cells
  have hb : b ≤ 1000000 := hb
  have hs : s ≤ 1000000 := hs
  clear h
  by_cases h0 : s = 0
  · subst h0
    rw [has_zeroS]
    by_cases h1 : n < b
    · have c1 : (n : Int) < (b : Int) := by omega
      go_enter Try.func30, Try.ntmps30
      go_wp2
      go_ret
      exact ⟨rfl, Below.refl _ _⟩
    · have c1 : (b : Int) ≤ (n : Int) := by omega
      have c2 : decide ((n : Int) < (b : Int)) = false := decide_eq_false (by omega)
      go_enter Try.func30, Try.ntmps30
      go_wp2
      go_ret
      exact ⟨rfl, Below.refl _ _⟩
  · have d0 : (s : Int) ≠ 0 := by omega
    have d1 : ((s : Int) == 0) = false := by rw [beq_eq_false_iff_ne]; omega
    by_cases h1 : b ≤ n
    · rw [has_posS b s n h0 h1]
      have c1 : (b : Int) ≤ (n : Int) := by omega
      have c2 : decide ((n : Int) < (b : Int)) = false := decide_eq_false (by omega)
      go_enter Try.func30, Try.ntmps30
      go_wp2
      go_quiet (fail)
      go_wp2
      go_ret
      exact ⟨rfl, below_drewN (Below.refl _ _) _⟩
    · rw [has_lessS b s n h0 (by omega)]
      have c1 : (n : Int) < (b : Int) := by omega
      have c2 : decide ((n : Int) = (b : Int)) = false := decide_eq_false (by omega)
      have c3 : ((n : Int) == (b : Int)) = false := by rw [beq_eq_false_iff_ne]; omega
      have C3 := Lib.hid c3
      clear c3
      go_enter Try.func30, Try.ntmps30
      go_wp2
      rw [C3.out]
      go_ret
      exact ⟨rfl, Below.refl _ _⟩
end Go.Proofs.Ytdcedkjoligekaa
