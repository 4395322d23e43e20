/-
  The walk of impl.made.text: the tidy text of what is made, or none if it would be too long; the set is told by a function value.
-/
import Derived.Test.YtojjfkabepkhdaaLoose
import Derived.Test.YtojjfkabepkhdaaHasI
import Derived.Lib.MinMax
import Derived.Shelf.Abstract
import Derived.Laws.EntriesVeiled
namespace Go.Proofs.Ytojjfkabepkhdaa
open Go.RowKit

/-- The function value K with what it holds answers g, of each number less than N, in every world that w has grown to. -/
structure Gives (K : Nat) (lb : Array Value) (g : Nat → Bool) (N : Nat) (w : World) : Prop where
  enters : ∀ args w, (callFunc K args).run Try.prog w = .ok (.enter K args) w
  gives : ∀ (W : World) (n : Nat), Below w.heap.size w W → n < N → Calls Try.prog K (#[.int .i64 n] ++ lb) W fun e w' => e = .returned (.bool (g n)) ∧ Below W.heap.size W w'

/-- The world of the first loop: the box of what is made, and the first numbers. -/
structure MadeLoop (g : Nat → Bool) (fv : Value) (t r : Nat) (k : Nat) (w wr : World) : Prop where
  q0 : wr.cell? ⟨w.heap.size, 0, none⟩ = some fv
  q1 : wr.cell? ⟨w.heap.size, 1, none⟩ = some (.int .i64 t)
  q2 : wr.cell? ⟨w.heap.size, 2, none⟩ = some (.int .i64 r)
  row : ∃ cur, Row180 wr (w.heap.size + 1) cur ∧ cur.size = 180 ∧ ∀ i, i < k → cur[i]? = some (.bool (g i))
  size : w.heap.size + 2 ≤ wr.heap.size
  below : Below w.heap.size w wr

theorem MadeLoop.step {g : Nat → Bool} {fv : Value} {t r k : Nat} {w wr w1 : World} (h : MadeLoop g fv t r k w wr) (hb : Below wr.heap.size wr w1) : MadeLoop g fv t r k w w1 := by
  have hs := h.size
  have hs1 := hb.size
  obtain ⟨cur, h1, h2, h3⟩ := h.row
  exact ⟨(hb.cell (p := ⟨w.heap.size, 0, none⟩) (by show w.heap.size < _; omega)).trans h.q0, (hb.cell (p := ⟨w.heap.size, 1, none⟩) (by show w.heap.size < _; omega)).trans h.q1,
    (hb.cell (p := ⟨w.heap.size, 2, none⟩) (by show w.heap.size < _; omega)).trans h.q2, ⟨cur, h1.below hb (by omega), h2, h3⟩, by omega, h.below.trans (hb.mono (by omega))⟩

theorem MadeLoop.store {g : Nat → Bool} {fv : Value} {t r k : Nat} {w wr : World} (h : MadeLoop g fv t r k w wr) (hk : k < 180) : MadeLoop g fv t r (k + 1) w (wr.setCell ⟨w.heap.size + 1, k, none⟩ (.bool (g k))) := by
  obtain ⟨cur, h1, h2, h3⟩ := h.row
  have hs := h.size
  refine ⟨(World.cell?_setCell_other _ _ _ _ (by simp)).trans h.q0, (World.cell?_setCell_other _ _ _ _ (by simp)).trans h.q1, (World.cell?_setCell_other _ _ _ _ (by simp)).trans h.q2,
    ⟨_, heap_setCell_same wr _ _ _ _ _ h1, by simpa using h2, ?_⟩, by simpa [World.setCell] using hs, h.below.setCell (by show w.heap.size ≤ w.heap.size + 1; omega) _⟩
  intro i hi
  rw [Array.getElem?_setIfInBounds]
  by_cases e : k = i
  · subst e; rw [if_pos rfl, if_pos (by omega)]
  · rw [if_neg e]; exact h3 i (by omega)

theorem MadeLoop.cell {g : Nat → Bool} {fv : Value} {t r k : Nat} {w wr : World} (h : MadeLoop g fv t r k w wr) (hk : k < 180) :
    (∃ u, wr.cell? ⟨w.heap.size + 1, k, none⟩ = some u) ∧ wr.frozen? ⟨w.heap.size + 1, k, none⟩ = false := by
  obtain ⟨cur, h1, h2, h3⟩ := h.row
  refine ⟨⟨cur[k]'(by omega), ?_⟩, frozen_of_row wr _ _ _ _ h1⟩
  rw [cell_of_row wr _ _ _ _ _ h1]
  exact Array.getElem?_eq_getElem (by omega)

theorem MadeLoop.done {g : Nat → Bool} {fv : Value} {t r : Nat} {w wr : World} (h : MadeLoop g fv t r 180 w wr) : Row180 wr (w.heap.size + 1) (firstV g) := by
  obtain ⟨cur, h1, h2, h3⟩ := h.row
  rw [← firstV_of g cur h2 h3]; exact h1

/-- The world of the second loop: the box of what is made, and that of the text's parts. -/
structure HeldLoop (fv : Value) (t r : Nat) (T R : ByteArray) (D : Nat) (w wr : World) : Prop where
  q0 : wr.cell? ⟨w.heap.size, 0, none⟩ = some fv
  q1 : wr.cell? ⟨w.heap.size, 1, none⟩ = some (.int .i64 t)
  q2 : wr.cell? ⟨w.heap.size, 2, none⟩ = some (.int .i64 r)
  d0 : wr.cell? ⟨D, 0, none⟩ = some (.string T)
  d1 : wr.cell? ⟨D, 1, none⟩ = some (.string R)
  lt : D < wr.heap.size
  l0 : w.heap.size < wr.heap.size
  below : Below w.heap.size w wr

theorem HeldLoop.step {fv : Value} {t r : Nat} {T R : ByteArray} {D : Nat} {w wr w1 : World} (h : HeldLoop fv t r T R D w wr) (hb : Below wr.heap.size wr w1) : HeldLoop fv t r T R D w w1 := by
  have hs := hb.size
  have h0 := h.l0
  exact ⟨(hb.cell (p := ⟨w.heap.size, 0, none⟩) (by show w.heap.size < _; omega)).trans h.q0, (hb.cell (p := ⟨w.heap.size, 1, none⟩) (by show w.heap.size < _; omega)).trans h.q1,
    (hb.cell (p := ⟨w.heap.size, 2, none⟩) (by show w.heap.size < _; omega)).trans h.q2, (hb.cell (p := ⟨D, 0, none⟩) h.lt).trans h.d0, (hb.cell (p := ⟨D, 1, none⟩) h.lt).trans h.d1,
    Nat.lt_of_lt_of_le h.lt hs, by omega, h.below.trans (hb.mono (by omega))⟩

theorem HeldLoop.drew {fv : Value} {t r : Nat} {T R : ByteArray} {D : Nat} {w wr : World} (h : HeldLoop fv t r T R D w wr) : HeldLoop fv t r T R D w wr.drew := h.step (Below.refl _ _).drew

theorem heldLoop_start {g : Nat → Bool} {fv : Value} {t r : Nat} {w w1 : World} (T R : ByteArray) (h : MadeLoop g fv t r 180 w w1) :
    HeldLoop fv t r T R w1.heap.size w (w1.alloc (.cells #[.string T, .string R] 41)) := by
  have h0 := h.size
  have hb : Below w1.heap.size w1 (w1.alloc (.cells #[.string T, .string R] 41)) := (Below.refl _ _).alloc (Nat.le_refl _) _
  refine ⟨(hb.cell (p := ⟨w.heap.size, 0, none⟩) (by show w.heap.size < _; omega)).trans h.q0, (hb.cell (p := ⟨w.heap.size, 1, none⟩) (by show w.heap.size < _; omega)).trans h.q1,
    (hb.cell (p := ⟨w.heap.size, 2, none⟩) (by show w.heap.size < _; omega)).trans h.q2, ?_, ?_, by simp, by simp; omega, h.below.trans (hb.mono (by omega))⟩
  · rw [World.cell?_alloc_at _ _ _ _ rfl]; rfl
  · rw [World.cell?_alloc_at _ _ _ _ rfl]; rfl

theorem leaves_size {g : Nat → Bool} {T : ByteArray} (h : Leaves g T) : T.size ≤ 1048576 := by
  rw [set_size h.1]
  have h1 := setT_le h.1
  have h2 := setR_le h.1
  omega

end Go.Proofs.Ytojjfkabepkhdaa
