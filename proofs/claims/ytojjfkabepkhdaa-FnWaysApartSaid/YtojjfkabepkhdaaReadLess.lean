/-
  What spec.l1Read lays, as spec.l1Less wants it.
-/
import Derived.Test.YtojjfkabepkhdaaReadS
import Derived.Test.YtojjfkabepkhdaaLess
import Derived.Laws.Rows
set_option linter.unusedVariables false
set_option linter.unusedSimpArgs false
namespace Go.Proofs.Ytojjfkabepkhdaa
open Go.RowKit

theorem read_less (s : ByteArray) (w : World) (hs : s.size ≤ 1048576) (hok : okS s = true) :
    Calls Try.prog 80 #[.string s] w fun e w' =>
      ∃ a1 n1 c1 a2 n2 c2, e = .returned (.tuple #[.agg #[.slice a1 n1 c1, .slice a2 n2 c2], .bool true]) ∧ Below w.heap.size w w' ∧ LessIn w' (setT s) (setR s) a1 n1 c1 a2 n2 c2 := by
  have hok' : setOk s.data.toList = true := hok
  refine (read_yes s w hs hok').mono ?_
  rintro e w' ⟨a1, c1, a2, c2, rfl, hb, h1, h2⟩
  exact ⟨_, _, _, _, _, _, rfl, hb, reads_own h1 rfl, reads_own h2 rfl, (own_cap h1).1, (own_cap h2).1, (own_cap h1).2, (own_cap h2).2, Nat.le_trans (tail_le hok') (by decide), Nat.le_trans (ring_le hok') (by decide), ring_pos hok'⟩

/-- l1Less on a set text. -/
theorem less_on (s : ByteArray) (a1 : Option Addr) (n1 c1 : Nat) (a2 : Option Addr) (n2 c2 : Nat) (w : World) (h : LessIn w (setT s) (setR s) a1 n1 c1 a2 n2 c2) :
    Calls Try.prog 81 #[.agg #[.slice a1 n1 c1, .slice a2 n2 c2]] w (LessPost (fS s) w) := less_any _ (setT s) (setR s) a1 n1 c1 a2 n2 c2 w rfl h

theorem set_cells {w : World} {g : Nat} {u v x y : Value} (h0 : w.cell? ⟨g, 0, none⟩ = some u) (h1 : w.cell? ⟨g, 1, none⟩ = some v) :
    ((w.setCell ⟨g, 0, none⟩ x).setCell ⟨g, 1, none⟩ y).cell? ⟨g, 0, none⟩ = some x ∧ ((w.setCell ⟨g, 0, none⟩ x).setCell ⟨g, 1, none⟩ y).cell? ⟨g, 1, none⟩ = some y := by
  have e1 : (w.setCell ⟨g, 0, none⟩ x).cell? ⟨g, 1, none⟩ = some v := (World.cell?_setCell_other _ _ _ _ (by simp)).trans h1
  exact ⟨(World.cell?_setCell_other _ _ _ _ (by simp)).trans (World.cell?_setCell_same' _ _ _ (by rw [h0]; rfl)), World.cell?_setCell_same' _ _ _ (by rw [e1]; rfl)⟩
theorem other_cell {w : World} {g h i : Nat} {u x y : Value} (hn : g ≠ h) (hu : w.cell? ⟨h, i, none⟩ = some u) : ((w.setCell ⟨g, 0, none⟩ x).setCell ⟨g, 1, none⟩ y).cell? ⟨h, i, none⟩ = some u :=
  (World.cell?_setCell_other _ _ _ _ (by simp [hn])).trans ((World.cell?_setCell_other _ _ _ _ (by simp [hn])).trans hu)
theorem Reads.set {w : World} {a : Option Addr} {n g : Nat} {bs : List Bool} {p p' : Option Addr} {m m' c c' : Nat} {x y : Value} (h : Reads w a n bs) (h0 : w.cell? ⟨g, 0, none⟩ = some (.slice p m c)) (h1 : w.cell? ⟨g, 1, none⟩ = some (.slice p' m' c')) :
    Reads ((w.setCell ⟨g, 0, none⟩ x).setCell ⟨g, 1, none⟩ y) a n bs := by
  refine ⟨h.len, ?_⟩
  rcases h.cells with h2 | ⟨b, o, ha, hg, hc⟩
  · exact .inl h2
  · refine .inr ⟨b, o, ha, by simpa [World.setCell] using hg, fun i hi => ?_⟩
    have e := hc i hi
    have n0 : (⟨g, 0, none⟩ : Addr) ≠ ⟨b, o + i, none⟩ := fun k => by rw [← k, h0] at e; cases e
    have n1 : (⟨g, 1, none⟩ : Addr) ≠ ⟨b, o + i, none⟩ := fun k => by rw [← k, h1] at e; cases e
    exact (World.cell?_setCell_other _ _ _ _ n1).trans ((World.cell?_setCell_other _ _ _ _ n0).trans e)

end Go.Proofs.Ytojjfkabepkhdaa
