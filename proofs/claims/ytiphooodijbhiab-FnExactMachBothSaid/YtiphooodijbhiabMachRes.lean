/-
  A machine that is handed back: its cell, its sets.
-/
import Derived.Test.YtiphooodijbhiabMachBox
import Derived.Laws.Rows
import Derived.Laws.MakeOwn
namespace Go.Proofs.Ytiphooodijbhiab
open Go.RowKit
set_option linter.unusedVariables false

/-- A machine that is handed back. -/
def MachEnd (ok : Bool) (L : List Nat) (s t : Nat) (w : World) (e : Ending) (w' : World) : Prop :=
  ∃ a n c, e = .returned (.tuple #[.agg #[.slice a n c, .int .i64 s, .int .i64 t], .bool ok]) ∧ w'.ownsRow w.heap.size 3 1 (.slice a n c) n (ints (castM L)) ∧ L.length = n ∧ Below w.heap.size w w'

/-- The cell of a machine that is to be handed back. -/
def ResM (v0 v1 v2 : Value) (R : Nat) (w : World) : Prop := w.heap[R]? = some (.cells #[v0, v1, v2] 50 (0, 0))
theorem ResM.step {v0 v1 v2 : Value} {R : Nat} {w w1 : World} (h : ResM v0 v1 v2 R w) (hb : Below w.heap.size w w1) : ResM v0 v1 v2 R w1 := (hb.block _ (lt_of_block h)).trans h
theorem ResM.cells {v0 v1 v2 : Value} {R : Nat} {w : World} (h : ResM v0 v1 v2 R w) : w.cell? ⟨R, 0, none⟩ = some v0 ∧ w.cell? ⟨R, 1, none⟩ = some v1 ∧ w.cell? ⟨R, 2, none⟩ = some v2 ∧ w.frozen? ⟨R, 0, none⟩ = false ∧ w.frozen? ⟨R, 1, none⟩ = false ∧ w.frozen? ⟨R, 2, none⟩ = false := by
  unfold ResM at h
  refine ⟨?_, ?_, ?_, frozen_of_row _ _ _ _ _ h, frozen_of_row _ _ _ _ _ h, frozen_of_row _ _ _ _ _ h⟩
  · rw [cell_of_row _ _ _ _ _ _ h]; rfl
  · rw [cell_of_row _ _ _ _ _ _ h]; rfl
  · rw [cell_of_row _ _ _ _ _ _ h]; rfl
theorem ResM.stored {v0 v1 v2 : Value} {R : Nat} {w : World} (h : ResM v0 v1 v2 R w) (x y z : Value) : ResM x y z R (((w.setCell ⟨R, 0, none⟩ x).setCell ⟨R, 1, none⟩ y).setCell ⟨R, 2, none⟩ z) :=
  heap_setCell_same _ R 2 _ _ z (heap_setCell_same _ R 1 _ _ y (heap_setCell_same _ R 0 _ _ x h))
theorem ResM.other {v0 v1 v2 : Value} {R : Nat} {w : World} (h : ResM v0 v1 v2 R w) {p : Addr} (hp : R ≠ p.block) (v : Value) : ResM v0 v1 v2 R (w.setCell p v) := (heap_setCell_other w _ _ _ hp).trans h
theorem resM_start (w : World) : ResM (.slice none 0 0) (.int .i64 0) (.int .i64 0) w.heap.size (w.alloc (.cells #[.slice none 0 0, .int .i64 0, .int .i64 0] 50)) := heap_alloc_new w _
theorem below_three {S R : Nat} {w w1 : World} (h : Below S w w1) (hR : S ≤ R) (x y z : Value) : Below S w (((w1.setCell ⟨R, 0, none⟩ x).setCell ⟨R, 1, none⟩ y).setCell ⟨R, 2, none⟩ z) := ((h.setCell hR _).setCell hR _).setCell hR _
theorem own_nil (w : World) : w.ownsRow w.heap.size 3 1 (.slice none 0 0) 0 (ints (castM [])) := ⟨rfl, .inl ⟨rfl, rfl⟩⟩
theorem own_three {W : World} {R base size n : Nat} {e : TypeId} {r : Value} {xs : List Value} (h : W.ownsRow base e size r n xs) (hS : R < base) (x y z : Value) : (((W.setCell ⟨R, 0, none⟩ x).setCell ⟨R, 1, none⟩ y).setCell ⟨R, 2, none⟩ z).ownsRow base e size r n xs :=
  ownsRow_setCell_below (ownsRow_setCell_below (ownsRow_setCell_below h (by exact hS) x) (by exact hS) y) (by exact hS) z
theorem made_zero (l : List Nat) (n : Nat) : (madeCells #[.int .i64 0] n).toList = ints (castM (turnX l n 0 0)) := by
  apply List.ext_getElem?
  intro j
  unfold madeCells ints castM turnX
  simp only [Array.toList_map, Array.toList_range, List.getElem?_map]
  rcases Nat.lt_or_ge j n with h | h
  · rw [List.getElem?_range h]
    simp only [Option.map_some, if_neg (Nat.not_lt_zero _)]
    show some (#[Value.int .i64 0][j % 1]!) = some (.int .i64 0)
    rw [Nat.mod_one]; rfl
  · rw [List.getElem?_eq_none (by simpa using h)]; rfl
theorem own_other {W : World} {base size n G c : Nat} {e : TypeId} {xs : List Value} (h : W.ownsRow base e size (.slice (some ⟨G, 0, none⟩) n c) n xs) {p : Addr} (hp : G ≠ p.block) (u : Value) : (W.setCell p u).ownsRow base e size (.slice (some ⟨G, 0, none⟩) n c) n xs := by
  obtain ⟨h1, h2⟩ := h
  refine ⟨h1, ?_⟩
  rcases h2 with ⟨hv, h0⟩ | ⟨g, cap, cur, hv, hg, hh, hr⟩
  · cases hv
  · refine .inr ⟨g, cap, cur, hv, hg, ?_, hr⟩
    have : g = G := by injection hv with ha; injection ha with ha; injection ha with ha; exact ha.symm
    subst this
    exact (heap_setCell_other W _ _ _ hp).trans hh

end Go.Proofs.Ytiphooodijbhiab
