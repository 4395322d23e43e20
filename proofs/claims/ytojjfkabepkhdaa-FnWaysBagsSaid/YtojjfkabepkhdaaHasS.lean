/-
  The walk of spec.l1Has.
-/
import Derived.Test.YtojjfkabepkhdaaSetDef
namespace Go.Proofs.Ytojjfkabepkhdaa
open Go.RowKit

set_option maxHeartbeats 400000 in
theorem l1Has_any (a1 a2 : Option Addr) (n1 c1 n2 c2 : Nat) (t r : List Bool) (k : Nat) (w : World) (h1 : Reads w a1 n1 t) (h2 : Reads w a2 n2 r) (hn1 : n1 ≤ 1048576) (hn2 : n2 ≤ 1048576) (hn0 : 0 < n2) (hk : k ≤ 9223372036854775807) :
    Calls Try.prog 51 #[.agg #[.slice a1 n1 c1, .slice a2 n2 c2], .int .i64 k] w fun e w' =>
      e = .returned (.bool (hasB t r k)) ∧ Below w.heap.size w w' := by
  by_cases hlt : k < n1
  · have H := Lib.hid (hasB_tail t r k (by rw [h1.len]; exact hlt))
    rcases h1.cells with h | ⟨g, o, rfl, hg, hc⟩
    · omega
    · have hc' : ∀ ob, (w.alloc ob).cell? ⟨g, o + k, none⟩ = some (.bool (t.getD k false)) := fun ob => by rw [World.cell?_alloc_past _ _ _ hg]; exact hc k hlt
      clear hc h1 h2
      go_enter Try.func51, Try.ntmps51
      go_wp2
      go_ret
      exact ⟨ret_bool H.out.symm, (Below.refl _ _).alloc (Nat.le_refl _) _⟩
  · obtain ⟨j, rfl⟩ : ∃ j, k = n1 + j := ⟨k - n1, by omega⟩
    have H : Hid (hasB t r (n1 + j) = r.getD (j % n2) false) := by
      refine Lib.hid ?_
      rw [← h1.len, hasB_ring, h2.len]
    have hj : j % n2 < n2 := Nat.mod_lt _ hn0
    rcases h2.cells with h | ⟨g, o, rfl, hg, hc⟩
    · omega
    · have hc' : ∀ ob, (w.alloc ob).cell? ⟨g, o + j % n2, none⟩ = some (.bool (r.getD (j % n2) false)) := fun ob => by rw [World.cell?_alloc_past _ _ _ hg]; exact hc _ hj
      clear hc h1 h2
      go_enter Try.func51, Try.ntmps51
      go_wp2
      have hE : ¬ n2 = 0 := by omega
      have hw5 : ((j : Int) % (n2 : Int)) < (n2 : Int) := by omega
      have hw6 : (0 : Int) ≤ ((j : Int) % (n2 : Int)) := by omega
      have hw7 : ((j : Int) % (n2 : Int)).toNat = j % n2 := rfl
      have hw1 : IntKind.i64.wrap ((n1 : Int) + (j : Int) - (n1 : Int)) = (j : Int) := by rw [IntWalk.i64_in _ (by omega)]; omega
      go_quiet (fail)
      go_wp2
      go_ret
      exact ⟨ret_bool H.out.symm, below_drewN ((Below.refl _ _).alloc (Nat.le_refl _) _) _⟩

theorem l1Has_on (s : ByteArray) (a1 a2 : Option Addr) (n1 c1 n2 c2 k : Nat) (w : World) (h : IsRead w s a1 n1 a2 n2) (hk : k ≤ 9223372036854775807) :
    Calls Try.prog 51 #[.agg #[.slice a1 n1 c1, .slice a2 n2 c2], .int .i64 k] w fun e w' =>
      e = .returned (.bool (hasI (setT s) (setR s) k)) ∧ Below w.heap.size w w' := by
  rw [hasI_nat]
  exact l1Has_any a1 a2 n1 c1 n2 c2 _ _ k w h.tail h.ring (by have := h.tailLe; omega) (by have := h.ringLe; omega) h.ringPos hk

end Go.Proofs.Ytojjfkabepkhdaa
