/-
  A slice of slices of integers that came in, as a walk is told of it.
-/
import Derived.Test.YtdcedkjoligekabLawRows
import Derived.Deep.Matrix
namespace Go.Proofs.Ytdcedkjoligekab
open Go.RowKit
set_option linter.unusedVariables false

theorem getD_rows (L : Nat → Nat) (Z : Nat → List Int) (n i : Nat) (h : i < n) : (((List.range n).map fun r => (Z r).take (L r)).getD i []) = (Z i).take (L i) := by
  rw [List.getD_eq_getElem?_getD, List.getElem?_map, List.getElem?_range h]; rfl

/-- What came in reads as a list of lists; each is short enough to be. -/
theorem reads_open {w : World} {x : Addr} {len cap : Nat} {A : Nat → Option Addr} {L C : Nat → Nat} {Z : Nat → List Int} (hl : len ≤ cap) (hm : cap ≤ maxLen)
    (h : ∀ r, r < cap → w.cell? (x.add r) = some (.slice (A r) (L r) (C r)) ∧ L r ≤ C r ∧ C r ≤ maxLen ∧ (Z r).length = C r ∧ (∀ n ∈ Z r, (Lit.int .i64 n).wf = true) ∧ (A r = none → C r = 0) ∧
      ∀ a', A r = some a' → 0 ≤ a'.block ∧ ∀ c, c < C r → w.cell? (a'.add c) = some (.int .i64 ((Z r).getD c 0))) :
    ∃ rs, ReadsR w (some x) len rs ∧ len ≤ maxLen ∧ ∀ i, i < len → (rs.getD i []).length ≤ maxLen := by
  refine ⟨(List.range len).map fun r => (Z r).take (L r), ⟨by simp, ?_⟩, Nat.le_trans hl hm, fun i hi => ?_⟩
  · rcases Nat.eq_zero_or_pos len with h0 | h0
    · exact .inl h0
    · right
      obtain ⟨b, off, spot⟩ := x
      have h1 := (h 0 (by omega)).1
      have hspot : spot = none := by simpa [Addr.add] using World.cell?_spot h1
      subst hspot
      have hadd : ∀ j, (⟨b, off, none⟩ : Addr).add j = ⟨b, off + j, none⟩ := fun j => by unfold Addr.add; split <;> simp_all
      refine ⟨b, off, rfl, lt_of_cell1 (by rw [hadd] at h1; exact h1), fun i hi => ?_⟩
      obtain ⟨c1, c2, c3, c4, c5, c6, c7⟩ := h i (by omega)
      rw [hadd] at c1
      rw [getD_rows L Z len i hi]
      have e : ((Z i).take (L i)).length = L i := by rw [List.length_take]; omega
      rw [e]
      refine ⟨A i, C i, c1, ?_⟩
      refine IsRow.reads (cap := C i) ?_
      cases ha : A i with
      | none =>
        have h0 := c6 ha
        refine .inl ⟨rfl, by omega, h0, List.eq_nil_of_length_eq_zero (by omega)⟩
      | some a' => exact .inr ⟨a', rfl, c2, c3, c4, fun j hj => (c7 a' ha).2 j (by omega), c5⟩
  · obtain ⟨c1, c2, c3, c4, c5, c6, c7⟩ := h i (by omega)
    rw [getD_rows L Z len i hi, List.length_take]
    omega
theorem reads_none (w : World) : ∃ rs, ReadsR w none 0 rs ∧ 0 ≤ maxLen ∧ ∀ i, i < 0 → (rs.getD i []).length ≤ maxLen :=
  ⟨[], ⟨rfl, .inl rfl⟩, Nat.zero_le _, fun i hi => absurd hi (Nat.not_lt_zero _)⟩
end Go.Proofs.Ytdcedkjoligekab
