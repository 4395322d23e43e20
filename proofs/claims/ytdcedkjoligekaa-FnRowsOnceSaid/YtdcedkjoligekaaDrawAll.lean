/-
  What the drawing of rows hands a law.
-/
import Derived.Test.YtdcedkjoligekaaDrawRowsL
namespace Go.Proofs.Ytdcedkjoligekaa
open Go.RowKit
set_option linter.unusedVariables false

/-- Rows that a law is handed: few, and short. -/
def RowsAsked (w : World) (e : Ending) (w' : World) : Prop :=
  ∃ a m c rs, e = .returned (.slice a m c) ∧ ReadsR w' a m rs ∧ m ≤ 6 ∧ Short rs ∧ Small rs ∧ Below w.heap.size w w'
theorem small_short {rs : List (List Int)} (h : Small rs) : Short rs := fun i hi => by
  have := (h (rs.getD i []) (by rw [List.getD_eq_getElem?_getD, List.getElem?_eq_getElem hi]; exact List.getElem_mem hi)).1
  omega
theorem rows_asked {w w' : World} {B m c : Nat} {a : Option Addr} {rs : List (List Int)} (ho : OwnRows w' B (.slice a m c) rs) (hs : Small rs) (hl : rs.length ≤ 6) (hap : Apart w.heap.size w w') :
    RowsAsked w (.returned (.slice a m c)) w' := by
  obtain ⟨e, hr⟩ := ho.reads
  exact ⟨a, m, c, rs, rfl, hr, by omega, small_short hs, hs, hap.below⟩
end Go.Proofs.Ytdcedkjoligekaa
