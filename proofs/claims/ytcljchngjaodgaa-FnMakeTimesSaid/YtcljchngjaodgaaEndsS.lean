/-
  A ring without numbers, and the walk of spec.l1Ends.
-/
import Derived.Test.YtcljchngjaodgaaSetDef
namespace Go.Proofs.Ytcljchngjaodgaa
open Go.RowKit

/-- No truth in a ring. -/
def endsB (r : List Bool) : Bool := r.all (!·)

theorem ends_all (r : List Bool) (h : ∀ i, i < r.length → r.getD i false = false) : endsB r = true := by
  unfold endsB
  rw [List.all_eq_true]
  intro x hx
  obtain ⟨i, hi, rfl⟩ := List.getElem_of_mem hx
  have := h i hi
  rw [List.getD_eq_getElem?_getD, List.getElem?_eq_getElem hi, Option.getD_some] at this
  rw [this]; rfl

theorem ends_hit (r : List Bool) (i : Nat) (hi : i < r.length) (h : r.getD i false = true) : endsB r = false := by
  rw [List.getD_eq_getElem?_getD, List.getElem?_eq_getElem hi, Option.getD_some] at h
  rw [Bool.eq_false_iff]
  intro ha
  have := List.all_eq_true.1 ha (r[i]) (List.getElem_mem hi)
  rw [h] at this; cases this

set_option maxHeartbeats 400000 in
theorem l1Ends_any (a1 a2 : Option Addr) (n1 c1 n2 c2 : Nat) (r : List Bool) (w : World) (h2 : Reads w a2 n2 r) (hn2 : n2 ≤ 1048576) (hn0 : 0 < n2) :
    Calls Try.prog 69 #[.agg #[.slice a1 n1 c1, .slice a2 n2 c2]] w fun e w' => e = .returned (.bool (endsB r)) ∧ Below w.heap.size w w' := by
  rcases h2.cells with h | ⟨g, o, rfl, hg, hc⟩
  · omega
  · have hc' : ∀ ob i, i < n2 → (w.alloc ob).cell? ⟨g, o + i, none⟩ = some (.bool (r.getD i false)) := fun ob i hi => by rw [World.cell?_alloc_past _ _ _ hg]; exact hc i hi
    have HC := Lib.hid hc'
    have HL := Lib.hid h2.len
    clear hc hc' h2
    go_enter Try.func69, Try.ntmps69
    go_wp2
    go_loop [3] (fun i => ∃ k : Nat, k ≤ n2 ∧ i = .int .i64 k ∧ ∀ j, j < k → r.getD j false = false) (fun i => n2 - (intOf i).toNat)
    case atStart => exact ⟨0, Nat.zero_le _, rfl, fun j hj => absurd hj (Nat.not_lt_zero _)⟩
    case round =>
      obtain ⟨k, hk, rfl, hall⟩ := hrel
      have HA := Lib.hid hall
      clear hall
      by_cases hlt : k < n2
      · cases hb : r.getD k false
        · have hcell := HC.out (.cells #[.slice a1 n1 c1, .slice (some ⟨g, o, none⟩) n2 c2] 61) k hlt
          rw [hb] at hcell
          go_wp2
          go_round
          case rel => exact ⟨k + 1, by omega, by go_num, fun j hj => by
            by_cases e : j = k
            · rw [e]; exact hb
            · exact HA.out j (by omega)⟩
          case measure => simp [intOf]; omega
        · have H := Lib.hid (ends_hit r k (by rw [HL.out]; exact hlt) hb)
          have hcell := HC.out (.cells #[.slice a1 n1 c1, .slice (some ⟨g, o, none⟩) n2 c2] 61) k hlt
          rw [hb] at hcell
          go_wp2
          go_ret
          exact ⟨ret_bool H.out.symm, (Below.refl _ _).alloc (Nat.le_refl _) _⟩
      · have H := Lib.hid (ends_all r (fun i hi => HA.out i (by rw [HL.out] at hi; omega)))
        go_wp2
        go_ret
        exact ⟨ret_bool H.out.symm, (Below.refl _ _).alloc (Nat.le_refl _) _⟩

end Go.Proofs.Ytcljchngjaodgaa
