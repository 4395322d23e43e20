/-
  The walks over the linked states: stateChain.tail, ring, after.
-/
import Derived.Test.YtiphooodijbhiabChainI
namespace Go.Proofs.Ytiphooodijbhiab
open Go.RowKit
set_option linter.unusedVariables false

/-- The chain's box, and what it links. -/
structure HeldC (g : Nat → Nat) (p q : Nat) (A : Nat → Nat) (S : Nat) (w wr : World) : Prop where
  q0 : wr.cell? ⟨S, 0, none⟩ = some (.pointer (some ⟨A 0, 0, none⟩))
  q1 : wr.cell? ⟨S, 1, none⟩ = some (.pointer (some ⟨A (p + q - 1), 0, none⟩))
  lt : S < wr.heap.size
  chain : ChainIn g p q A wr
  below : Below S w wr
theorem HeldC.step {g A : Nat → Nat} {p q S : Nat} {w wr w1 : World} (h : HeldC g p q A S w wr) (hb : Below wr.heap.size wr w1) : HeldC g p q A S w w1 :=
  ⟨(hb.cell (p := ⟨S, 0, none⟩) h.lt).trans h.q0, (hb.cell (p := ⟨S, 1, none⟩) h.lt).trans h.q1, Nat.lt_of_lt_of_le h.lt hb.size, h.chain.step hb, h.below.trans (hb.mono (Nat.le_of_lt h.lt))⟩
/-- The last state's cells, and those of the one that follows it. -/
theorem ChainIn.ends {g A : Nat → Nat} {p q : Nat} {w : World} (h : ChainIn g p q A w) (hq : 0 < q) :
    w.cell? ⟨A (p + q - 1), 1, none⟩ = some (.int .i64 (p + q - 1 : Nat)) ∧ w.cell? ⟨A (p + q - 1), 2, none⟩ = some (.pointer (some ⟨A p, 0, none⟩)) ∧ w.cell? ⟨A p, 1, none⟩ = some (.int .i64 p) := by
  refine ⟨h.steps _ (by omega), ?_, h.steps _ (by omega)⟩
  have := h.next (p + q - 1) (by omega)
  rw [if_pos (by omega)] at this
  exact this

theorem chain_next {g A : Nat → Nat} {p q : Nat} {w : World} (h : ChainIn g p q A w) (hq : 0 < q) (k : Nat) :
    w.cell? ⟨A (placeM p q k), 2, none⟩ = some (.pointer (some ⟨A (placeM p q (k + 1)), 0, none⟩)) := by
  rw [placeM_succ hq]; exact h.next _ (placeM_lt hq k)
theorem placeM_zero {p q : Nat} (hq : 0 < q) : placeM p q 0 = 0 := placeM_self (by omega)

end Go.Proofs.Ytiphooodijbhiab
