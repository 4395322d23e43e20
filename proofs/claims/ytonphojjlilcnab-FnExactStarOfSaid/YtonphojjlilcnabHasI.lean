/-
  The walk of has, of the program.
-/
import Derived.Test.YtonphojjlilcnabCoreI
namespace Go.Proofs.Ytonphojjlilcnab
open Go.RowKit

set_option maxHeartbeats 400000 in
theorem has_any (T R : ByteArray) (n : Int) (w : World) (hT : T.size ≤ 60) (hR : R.size ≤ 60) (hR0 : 0 < R.size) (hn : n ≤ 9223372036854775807) :
    Calls Try.prog 39 #[.agg #[.string T, .string R], .int .i64 n] w fun e w' =>
      e = .returned (.bool (hasI (sb T.data.toList) (sb R.data.toList) n)) ∧ Below w.heap.size w w' := by
  by_cases h0 : n < 0
  · have H := Lib.hid (hasI_neg (sb T.data.toList) (sb R.data.toList) n h0)
    go_enter Try.func39, Try.ntmps39
    go_wp2
    go_ret
    exact ⟨ret_bool H.out.symm, (Below.refl _ _).alloc (Nat.le_refl _) _⟩
  · obtain ⟨k, rfl⟩ := Int.eq_ofNat_of_zero_le (show 0 ≤ n by omega)
    by_cases h1 : k < T.size
    · have H : Hid (hasI (sb T.data.toList) (sb R.data.toList) (k : Int) = ((T[k].toNat : Int) == 49)) := by
        refine Lib.hid ?_
        rw [hasI_nat, hasB_tail _ _ _ (by rw [sb_length, size_eq]; exact h1), at_sb T k h1]
      go_enter Try.func39, Try.ntmps39
      go_wp2
      go_ret
      exact ⟨ret_bool H.out.symm, (Below.refl _ _).alloc (Nat.le_refl _) _⟩
    · obtain ⟨j, rfl⟩ : ∃ j, k = T.size + j := ⟨k - T.size, by omega⟩
      have hj : j % R.size < R.size := Nat.mod_lt _ hR0
      have H : Hid (hasI (sb T.data.toList) (sb R.data.toList) ((T.size + j : Nat) : Int) = ((R[j % R.size].toNat : Int) == 49)) := by
        refine Lib.hid ?_
        have e : T.size + j = (sb T.data.toList).length + j := by rw [sb_length, size_eq]
        rw [hasI_nat, e, hasB_ring, sb_length, size_eq, at_sb R _ hj]
      go_enter Try.func39, Try.ntmps39
      go_wp2
      have hE : ¬ R = ByteArray.empty := by intro e; subst e; exact absurd hR0 (by decide)
      have hw5 : ((j : Int) % (R.size : Int)) < (R.size : Int) := by omega
      have hw6 : (0 : Int) ≤ ((j : Int) % (R.size : Int)) := by omega
      have hw7 : ((j : Int) % (R.size : Int)).toNat = j % R.size := rfl
      have hw1 : IntKind.i64.wrap ((T.size : Int) + (j : Int) - (T.size : Int)) = (j : Int) := by rw [IntWalk.i64_in _ (by omega)]; omega
      go_quiet (fail)
      go_wp2
      go_ret
      exact ⟨ret_bool H.out.symm, below_drewN ((Below.refl _ _).alloc (Nat.le_refl _) _) _⟩

theorem has_on (s T R : ByteArray) (n : Int) (w : World) (h : IsSplit s T R) (hn : n ≤ 9223372036854775807) :
    Calls Try.prog 39 #[.agg #[.string T, .string R], .int .i64 n] w fun e w' =>
      e = .returned (.bool (hasI (setT s) (setR s) n)) ∧ Below w.heap.size w w' := by
  have := has_any T R n w h.tailLe h.ringLe h.ringPos hn
  rw [h.tail, h.ring] at this
  exact this

end Go.Proofs.Ytonphojjlilcnab
