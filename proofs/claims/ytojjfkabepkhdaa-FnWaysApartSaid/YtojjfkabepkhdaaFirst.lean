/-
  The walk of impl.first: a set is told by its first 180 numbers.
-/
import Derived.Test.YtojjfkabepkhdaaHasI
import Derived.Test.YtojjfkabepkhdaaRing
namespace Go.Proofs.Ytojjfkabepkhdaa
open Go.RowKit

/-- The world of first's loop. -/
structure FirstLoop (f : Nat → Bool) (T R : ByteArray) (S k : Nat) (w wr : World) : Prop where
  q0 : wr.cell? ⟨S, 0, none⟩ = some (.string T)
  q1 : wr.cell? ⟨S, 1, none⟩ = some (.string R)
  out : Row180 wr (S + 1) Try.zeroCells92
  row : ∃ cur, Row180 wr (S + 1 + 1) cur ∧ cur.size = 180 ∧ ∀ i, i < k → cur[i]? = some (.bool (f i))
  size : S + 3 ≤ wr.heap.size
  below : Below S w wr

theorem FirstLoop.step {f : Nat → Bool} {T R : ByteArray} {S k : Nat} {w wr w1 : World} (h : FirstLoop f T R S k w wr) (hb : Below wr.heap.size wr w1) : FirstLoop f T R S k w w1 := by
  have hs := h.size
  obtain ⟨cur, h1, h2, h3⟩ := h.row
  exact ⟨(hb.cell (p := ⟨S, 0, none⟩) (by show S < _; omega)).trans h.q0, (hb.cell (p := ⟨S, 1, none⟩) (by show S < _; omega)).trans h.q1, h.out.below hb (by omega), ⟨cur, h1.below hb (by omega), h2, h3⟩,
    by have := hb.size; omega, h.below.trans (hb.mono (by omega))⟩

theorem FirstLoop.store {f : Nat → Bool} {T R : ByteArray} {S k : Nat} {w wr : World} (h : FirstLoop f T R S k w wr) (hk : k < 180) : FirstLoop f T R S (k + 1) w (wr.setCell ⟨S + 1 + 1, k, none⟩ (.bool (f k))) := by
  obtain ⟨cur, h1, h2, h3⟩ := h.row
  have hs := h.size
  refine ⟨(World.cell?_setCell_other _ _ _ _ (by simp)).trans h.q0, (World.cell?_setCell_other _ _ _ _ (by simp)).trans h.q1,
    (heap_setCell_other wr _ _ _ (by show S + 1 ≠ S + 1 + 1; omega)).trans h.out, ⟨_, heap_setCell_same wr _ _ _ _ _ h1, by simpa using h2, ?_⟩, by simpa [World.setCell] using hs, h.below.setCell (by show S ≤ S + 1 + 1; omega) _⟩
  intro i hi
  rw [Array.getElem?_setIfInBounds]
  by_cases e : k = i
  · subst e; rw [if_pos rfl, if_pos (by omega)]
  · rw [if_neg e]; exact h3 i (by omega)

theorem FirstLoop.cell {f : Nat → Bool} {T R : ByteArray} {S k : Nat} {w wr : World} (h : FirstLoop f T R S k w wr) (hk : k < 180) :
    (∃ u, wr.cell? ⟨S + 1 + 1, k, none⟩ = some u) ∧ wr.frozen? ⟨S + 1 + 1, k, none⟩ = false := by
  obtain ⟨cur, h1, h2, h3⟩ := h.row
  refine ⟨⟨cur[k]'(by omega), ?_⟩, frozen_of_row wr _ _ _ _ h1⟩
  rw [cell_of_row wr _ _ _ _ _ h1]
  exact Array.getElem?_eq_getElem (by omega)

theorem FirstLoop.done {f : Nat → Bool} {T R : ByteArray} {S : Nat} {w wr : World} (h : FirstLoop f T R S 180 w wr) : Row180 wr (S + 1 + 1) (firstV f) := by
  obtain ⟨cur, h1, h2, h3⟩ := h.row
  rw [← firstV_of f cur h2 h3]; exact h1

theorem firstLoop_start (f : Nat → Bool) (T R : ByteArray) (w : World) :
    FirstLoop f T R w.heap.size 0 w (((w.alloc (.cells #[.string T, .string R] 41)).alloc (.cells Try.zeroCells92 92)).alloc (.cells Try.zeroCells92 92)) := by
  refine ⟨?_, ?_, ?_, ⟨_, ?_, zeroFirst_size, fun i hi => absurd hi (Nat.not_lt_zero _)⟩, by simp, ?_⟩
  · rw [World.cell?_alloc_past _ _ _ (by simp; omega), World.cell?_alloc_past _ _ _ (by simp), World.cell?_alloc_at _ _ _ _ rfl]; rfl
  · rw [World.cell?_alloc_past _ _ _ (by simp; omega), World.cell?_alloc_past _ _ _ (by simp), World.cell?_alloc_at _ _ _ _ rfl]; rfl
  · have := heap_alloc2_old (w.alloc (.cells #[.string T, .string R] 41)) (.cells Try.zeroCells92 92) (.cells Try.zeroCells92 92)
    simpa [Row180] using this
  · have := heap_alloc2_new (w.alloc (.cells #[.string T, .string R] 41)) (.cells Try.zeroCells92 92) (.cells Try.zeroCells92 92)
    simpa [Row180] using this
  · exact (((Below.refl _ _).alloc (Nat.le_refl _) _).alloc (by simp) _).alloc (by simp; omega) _

set_option maxRecDepth 100000 in
set_option maxHeartbeats 1000000 in
theorem first_any (s T R : ByteArray) (w : World) (h : IsSplit s T R) :
    Calls Try.prog 82 #[.agg #[.string T, .string R]] w fun e w' => e = .returned (.agg (firstV (fS s))) ∧ Below w.heap.size w w' := by
  have H := Lib.hid h
  clear h
  go_enter Try.func82, Try.ntmps82
  go_wp2
  go_loopw [5] (fun i wr => ∃ k : Nat, k ≤ 180 ∧ i = .int .i64 k ∧ FirstLoop (fS s) T R w.heap.size k w wr) (fun i _ => 180 - (intOf i).toNat)
  case atStart => exact ⟨0, Nat.zero_le _, rfl, firstLoop_start _ _ _ _⟩
  case round =>
    obtain ⟨k, hk, rfl, hl⟩ := hrel
    by_cases hlt : k < 180
    · have q0 := hl.q0; have q1 := hl.q1
      have HL := Lib.hid hl
      clear hl
      go_wp2_with fail
      refine (has_on s T R k _ H.out (by omega)).mono ?_
      rw [hasI_nat]
      rintro e w3 ⟨rfl, hb3⟩
      have HL3 := Lib.hid (HL.out.step hb3)
      obtain ⟨⟨u, hu⟩, hf⟩ := HL3.out.cell hlt
      have HL4 := Lib.hid (HL3.out.store hlt)
      clear hb3 q0 q1
      go_wp2
      go_roundw
      case rel => exact ⟨k + 1, by omega, by go_num, HL4.out⟩
      case measure => simp [intOf]; omega
    · obtain rfl : k = 180 := by omega
      have HL := Lib.hid hl
      clear hl
      go_wp2_with (first
        | (refine wpList_load_row rfl 92 _ rfl (w.heap.size + 1 + 1) rfl 92 (firstV (fS s)) (0, 0) _ HL.out.done Try.underlying92 rfl (by rw [firstV_size]; exact Try.infoFirst) ?_)
        | (refine wpList_store_row rfl 92 _ _ rfl (w.heap.size + 1) (firstV (fS s)) rfl rfl 92 Try.zeroCells92 HL.out.out (by rw [firstV_size]; exact Try.infoFirst) (by rw [firstV_size]; exact zeroFirst_size) (firstV_one _) ?_))
      exact bodyPost_ret (v := .agg (firstV (fS s))) (results_cell_row rfl _ _ (w.heap.size + 1) 92 (firstV (fS s)) (0, 0) _ rfl (setRow_heap _ _ _ _ _ _ HL.out.out) Try.underlying92 rfl (by rw [firstV_size]; exact Try.infoFirst)) rfl
        ⟨rfl, below_setRow HL.out.below (by omega) _⟩

end Go.Proofs.Ytojjfkabepkhdaa
