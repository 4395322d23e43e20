/-
  What the machine of a set is: plain facts.
-/
import Derived.Test.YtiphooodijbhiaaTurnSays
import Derived.Test.YtiphooodijbhiaaTidyText
import Derived.Test.YtiphooodijbhiaaSetDef
namespace Go.Proofs.Ytiphooodijbhiaa
open Go.RowKit

theorem of_says {f : Nat → Bool} {k : Bool} {L : List Nat} {t : Nat} (h : OfIs k f true L t) :
    ∃ m q, Tidy f m q ∧ m + q ≤ 5 ∧ L.length = m + q ∧ k = true ∧ okM (castM L) 1 t = true ∧ fM (castM L) 1 t = f ∧ singleM (castM L) 1 t = true := by
  obtain ⟨hk, m, q, ht, h5, rfl, rfl⟩ := h.1 rfl
  have hq := ht.pos
  have hg : GoodM (ofL m q) (m + q) 1 (ofE f (m + q)) := ⟨ofL_good hq, by omega, h5, Nat.one_lt_two_pow (by omega), ofE_lt f _ _ (Nat.le_refl _)⟩
  have ho : okM (castM (ofL m q)) 1 (ofE f (m + q) : Nat) = true := okM_of hg
  refine ⟨m, q, ht, h5, ofL_length m q, hk, ho, ?_, ?_⟩
  · funext j
    unfold fM
    rw [natsM_cast]
    exact of_takes hq ht.per j
  · unfold singleM
    rw [ho, natsM_cast]
    have h1 : oneS ((1 : Int).toNat) = true := by decide
    rw [h1]
    simp only [Bool.true_and, List.all_eq_true]
    intro x hx
    obtain ⟨i, hi, rfl⟩ := List.mem_iff_getElem.1 hx
    have := of_single hq h5 i (by rw [ofL_length] at hi; exact hi)
    rw [List.getD_eq_getElem?_getD, List.getElem?_eq_getElem hi] at this
    exact this

end Go.Proofs.Ytiphooodijbhiaa
