/-
  The walk of the program's MachTurn.
-/
import Derived.Test.YtiphooodijbhiabMachAtI
import Derived.Test.YtiphooodijbhiabMachRes
namespace Go.Proofs.Ytiphooodijbhiab
open Go.RowKit
set_option linter.unusedVariables false

/-- The world of MachTurn's loops. -/
structure TurnAt (a : Option Addr) (n c : Nat) (b e : Int) (X : List Nat) (G : Nat) (w wr : World) : Prop where
  box : BoxM a n c b e w.heap.size w wr
  res : ResM (.slice none 0 0) (.int .i64 0) (.int .i64 0) (w.heap.size + 1) wr
  own : wr.ownsRow (w.heap.size + 1 + 1) 3 1 (.slice (some ⟨G, 0, none⟩) n n) n (ints (castM X))
  ge : w.heap.size + 1 + 1 ≤ G
theorem TurnAt.store {a : Option Addr} {n c : Nat} {b e : Int} {X : List Nat} {G k v : Nat} {w wr : World} (h : TurnAt a n c b e X G w wr) : TurnAt a n c b e (X.set k v) G w (wr.setCell ⟨G, k, none⟩ (.int .i64 v)) := by
  have hg := h.ge
  refine ⟨h.box.store (by show w.heap.size < G; omega) _, h.res.other (by show w.heap.size + 1 ≠ G; omega) _, ?_, hg⟩
  have := (h.own.stored k (.int .i64 v)).1
  unfold ints at this ⊢
  rw [← castM_set, List.map_set]
  exact this
theorem TurnAt.drew {a : Option Addr} {n c : Nat} {b e : Int} {X : List Nat} {G : Nat} {w wr : World} (h : TurnAt a n c b e X G w wr) : TurnAt a n c b e X G w wr.drew :=
  ⟨h.box.step (Below.refl _ _).drew, h.res, own_below h.own (Below.refl wr.heap.size wr).drew (Nat.le_refl _), h.ge⟩
theorem turn_start {l : List Nat} {a : Option Addr} {n c : Nat} {b e : Int} {w w1 w2 : World} (hB : BoxM a n c b e w.heap.size w w1) (hR : ResM (.slice none 0 0) (.int .i64 0) (.int .i64 0) (w.heap.size + 1) w1)
    (hown : w2.ownsRow (w.heap.size + 1 + 1) 3 1 (.slice (some ⟨w1.heap.size, 0, none⟩) n n) n (madeCells #[.int .i64 0] n).toList) (hg : w1.grownBy w2 none) : TurnAt a n c b e (turnX l n 0 0) w1.heap.size w w2 := by
  have hb : Below w1.heap.size w1 w2 := (Below.refl _ _).grown hg (Nat.le_refl _) (fun k hk => by cases hk)
  exact ⟨hB.step hb, hR.step hb, by rw [← made_zero l n]; exact hown, lt_of_block hR⟩

end Go.Proofs.Ytiphooodijbhiab
