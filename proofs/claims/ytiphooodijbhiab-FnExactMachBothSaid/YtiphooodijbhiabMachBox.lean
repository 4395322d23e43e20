/-
  A machine's box.
-/
import Derived.Test.YtiphooodijbhiabMachMath
import Derived.Test.YtiphooodijbhiabInts
import Derived.Test.YtiphooodijbhiabHasMath
namespace Go.Proofs.Ytiphooodijbhiab
open Go.RowKit
set_option linter.unusedVariables false

/-- The world of a loop over a machine's sets: its box, and nothing else of before has turned. -/
structure BoxM (a : Option Addr) (n c : Nat) (b e : Int) (S : Nat) (w wr : World) : Prop where
  q0 : wr.cell? ⟨S, 0, none⟩ = some (.slice a n c)
  q1 : wr.cell? ⟨S, 1, none⟩ = some (.int .i64 b)
  q2 : wr.cell? ⟨S, 2, none⟩ = some (.int .i64 e)
  lt : S < wr.heap.size
  below : Below S w wr
theorem boxM_start (a : Option Addr) (n c : Nat) (b e : Int) (w : World) (t : TypeId) : BoxM a n c b e w.heap.size w (w.alloc (.cells #[.slice a n c, .int .i64 b, .int .i64 e] t)) := by
  refine ⟨?_, ?_, ?_, by simp, (Below.refl _ _).alloc (Nat.le_refl _) _⟩
  · rw [World.cell?_alloc_at _ _ _ _ rfl]; rfl
  · rw [World.cell?_alloc_at _ _ _ _ rfl]; rfl
  · rw [World.cell?_alloc_at _ _ _ _ rfl]; rfl
theorem BoxM.step {a : Option Addr} {n c S : Nat} {b e : Int} {w wr w1 : World} (h : BoxM a n c b e S w wr) (hb : Below wr.heap.size wr w1) : BoxM a n c b e S w w1 :=
  ⟨(hb.cell (p := ⟨S, 0, none⟩) h.lt).trans h.q0, (hb.cell (p := ⟨S, 1, none⟩) h.lt).trans h.q1, (hb.cell (p := ⟨S, 2, none⟩) h.lt).trans h.q2, Nat.lt_of_lt_of_le h.lt hb.size, h.below.trans (hb.mono (Nat.le_of_lt h.lt))⟩

theorem pow_all {n : Nat} (h : n ≤ 5) : (2 : Int) ^ n ≤ 32 ∧ 1 ≤ (2 : Int) ^ n := by
  rw [pow_cast]
  have h1 : 2 ^ n ≤ 2 ^ 5 := Nat.pow_le_pow_right (by decide) h
  have h2 := Nat.two_pow_pos n
  omega
theorem BoxM.store {a : Option Addr} {n c S : Nat} {b e : Int} {w wr : World} (h : BoxM a n c b e S w wr) {p : Addr} (hp : S < p.block) (v : Value) : BoxM a n c b e S w (wr.setCell p v) := by
  have key : ∀ o, (wr.setCell p v).cell? ⟨S, o, none⟩ = wr.cell? ⟨S, o, none⟩ := fun o => World.cell?_setCell_other _ _ _ _ (fun e => by rw [e] at hp; exact absurd hp (Nat.lt_irrefl _))
  exact ⟨(key 0).trans h.q0, (key 1).trans h.q1, (key 2).trans h.q2, by simpa [World.setCell] using h.lt, h.below.setCell (Nat.le_of_lt hp) _⟩
theorem boxed {w w1 : World} {o : Obj} (hb : Below (w.alloc o).heap.size (w.alloc o) w1) : Below w.heap.size w w1 := ((Below.refl _ _).alloc (Nat.le_refl _) o).trans (hb.mono (by simp))
theorem ReadsI.alloc {w : World} {a : Option Addr} {n : Nat} {zs : List Int} (h : ReadsI w a n zs) (o : Obj) : ReadsI (w.alloc o) a n zs := h.below ((Below.refl w.heap.size w).alloc (Nat.le_refl _) o) (Nat.le_refl _)
theorem stepN_succ (l : List Nat) (s k : Nat) : stepN l s (k + 1) = if s.testBit k then stepN l s k ||| l.getD k 0 else stepN l s k := rfl
theorem lt_of_block {w : World} {b : Nat} {o : Obj} (h : w.heap[b]? = some o) : b < w.heap.size := by
  rcases Nat.lt_or_ge b w.heap.size with k | k
  · exact k
  · rw [Array.getElem?_eq_none k] at h; cases h

end Go.Proofs.Ytiphooodijbhiab
