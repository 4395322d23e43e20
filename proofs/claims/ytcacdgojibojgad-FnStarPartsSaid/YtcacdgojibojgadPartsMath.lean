/-
  What StarParts answers: plain facts.
-/
import Derived.Test.YtcacdgojibojgadStarRound
import Derived.Test.YtcacdgojibojgadInts
set_option linter.unusedVariables false
set_option linter.unusedSimpArgs false
namespace Go.Proofs.Ytcacdgojibojgad
open Go.RowKit

/-- Is no part greater than 59? -/
noncomputable def partsOk (s : ByteArray) : Bool := smallS s && (parts (fS s) 2001).all (fun p => decide (p ≤ 59))
/-- What StarParts lists. -/
noncomputable def partsV (s : ByteArray) : List Int := if partsOk s = true then (parts (fS s) 2001).map (fun (n : Nat) => (n : Int)) else []
theorem partsOk_off {s : ByteArray} (h : smallS s = false) : partsOk s = false := by unfold partsOk; rw [h]; rfl
theorem partsV_off {s : ByteArray} (h : partsOk s = false) : partsV s = [] := by unfold partsV; rw [h]; rfl
theorem partsV_on {s : ByteArray} (h : partsOk s = true) : partsV s = (parts (fS s) 2001).map (fun (n : Nat) => (n : Int)) := by unfold partsV; rw [if_pos h]
theorem partsOk_great {s : ByteArray} {p : Nat} (h : Gen (fS s) p) (h2 : p < 2001) (h3 : 59 < p) : partsOk s = false := by
  cases e : partsOk s
  · rfl
  · unfold partsOk at e
    rw [Bool.and_eq_true, List.all_eq_true] at e
    have := e.2 p (mem_parts.2 ⟨h2, h⟩)
    rw [decide_eq_true_iff] at this
    omega
theorem partsOk_all {s : ByteArray} (h1 : smallS s = true) (h : ∀ p, p ∈ parts (fS s) 2001 → p ≤ 59) : partsOk s = true := by
  unfold partsOk
  rw [h1, Bool.true_and, List.all_eq_true]
  exact fun p hp => decide_eq_true (h p hp)
/-- A list of the call's own, and whether it counts. -/
def PartsEnd (s : ByteArray) (w : World) (e : Ending) (w' : World) : Prop :=
  ∃ a c, e = .returned (.tuple #[.slice a (partsV s).length c, .bool (partsOk s)]) ∧ Below w.heap.size w w' ∧ w'.ownsRow w.heap.size 3 1 (.slice a (partsV s).length c) (partsV s).length (ints (partsV s))
theorem partsEnd_off {s : ByteArray} {w w1 : World} {S : Nat} (h : partsOk s = false) (hb : Below w.heap.size w w1) (hS : S = w1.heap.size) :
    PartsEnd s w (.returned (.tuple #[.slice (some ⟨S, 0, none⟩) 0 0, .bool false])) (w1.alloc (.cells #[] 3)) := by
  subst hS
  have hs := hb.size
  refine ⟨some ⟨w1.heap.size, 0, none⟩, 0, by rw [h, partsV_off h]; rfl, hb.alloc hs _, ?_⟩
  rw [partsV_off h]
  exact World.ownsRow_made (base := w.heap.size) (e := 3) (size := 1) w1 #[] 0 hs (by decide) rfl

end Go.Proofs.Ytcacdgojibojgad
