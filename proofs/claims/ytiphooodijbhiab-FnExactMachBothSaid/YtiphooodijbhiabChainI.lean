/-
  The walk of Machine.chain: the states of the single machine, linked by pointers.
-/
import Derived.Test.YtiphooodijbhiabMachI
import Derived.Laws.Rows
import Derived.Deep.RegionHeld3
import Derived.Deep.LoopGhost
namespace Go.Proofs.Ytiphooodijbhiab
open Go.RowKit
set_option linter.unusedVariables false

/-- A state's cells. -/
def stV (x i : Nat) (v : Option Addr) : Array Value := #[.int .i64 x, .int .i64 i, .pointer v]

/-- The linked states. -/
structure ChainIn (g : Nat → Nat) (p q : Nat) (A : Nat → Nat) (w : World) : Prop where
  set : ∀ i, i < p + q → w.cell? ⟨A i, 0, none⟩ = some (.int .i64 (g i))
  steps : ∀ i, i < p + q → w.cell? ⟨A i, 1, none⟩ = some (.int .i64 i)
  next : ∀ i, i < p + q → w.cell? ⟨A i, 2, none⟩ = some (.pointer (some ⟨A (if i + 1 = p + q then p else i + 1), 0, none⟩))
  lt : ∀ i, i < p + q → A i < w.heap.size
theorem ChainIn.step {g A : Nat → Nat} {p q : Nat} {w w' : World} (h : ChainIn g p q A w) (hb : Below w.heap.size w w') : ChainIn g p q A w' :=
  ⟨fun i hi => (hb.cell (p := ⟨A i, 0, none⟩) (h.lt i hi)).trans (h.set i hi), fun i hi => (hb.cell (p := ⟨A i, 1, none⟩) (h.lt i hi)).trans (h.steps i hi),
   fun i hi => (hb.cell (p := ⟨A i, 2, none⟩) (h.lt i hi)).trans (h.next i hi), fun i hi => Nat.lt_of_lt_of_le (h.lt i hi) hb.size⟩

/-- No state is known. -/
def noneKnown : Array Value := #[.pointer none, .pointer none, .pointer none, .pointer none, .pointer none, .pointer none, .pointer none, .pointer none, .pointer none, .pointer none, .pointer none, .pointer none, .pointer none, .pointer none, .pointer none, .pointer none, .pointer none, .pointer none, .pointer none, .pointer none, .pointer none, .pointer none, .pointer none, .pointer none, .pointer none, .pointer none, .pointer none, .pointer none, .pointer none, .pointer none, .pointer none, .pointer none]
theorem zeroKnown (i : Nat) (h : i < 32) : noneKnown[i]? = some (.pointer none) := by
  have e : noneKnown = (List.replicate 32 (Value.pointer none)).toArray := rfl
  rw [e, List.getElem?_toArray, List.getElem?_replicate, if_pos h]
def ChainPost (g : Nat → Nat) (p q : Nat) (w : World) (e : Ending) (w' : World) : Prop :=
  ∃ A : Nat → Nat, e = .returned (.agg #[.pointer (some ⟨A 0, 0, none⟩), .pointer (some ⟨A (p + q - 1), 0, none⟩)]) ∧ ChainIn g p q A w' ∧ Below w.heap.size w w'

end Go.Proofs.Ytiphooodijbhiab
