/-
  What SetHas answers of two texts of one set: a plain fact. What SetTidy answers of any text, told by a relation that just one text keeps; the walk of the program.
-/
import Derived.Test.YtcljchngjaodgaaToldMath
import Derived.Test.YtcljchngjaodgaaSetHasI
import Derived.Test.YtcljchngjaodgaaSetTidyI
namespace Go.Proofs.Ytcljchngjaodgaa
open Go.RowKit

theorem setHas_eq {s T : ByteArray} (hs : okS s = true) (hT : okS T = true) (h : fS T = fS s) (n : Int) : setHas T n = setHas s n := by
  unfold setHas
  rw [hs, hT, Bool.true_and, Bool.true_and]
  unfold hasI
  cases hn : decide (0 ≤ n)
  · rfl
  · rw [Bool.true_and, Bool.true_and]; exact congrFun h n.toNat

/-- T is what SetTidy tells of s. -/
def TidyOf (s T : ByteArray) : Prop := (okS s = true ∧ TidyText (fS s) T) ∨ (okS s = false ∧ T = ⟨#[]⟩)

theorem tidyOf_there (s : ByteArray) : ∃ T, TidyOf s T := by
  cases h : okS s
  · exact ⟨_, .inr ⟨h, rfl⟩⟩
  · obtain ⟨m, q, ht, hm, hq⟩ := tidy_there h
    exact ⟨_, .inl ⟨h, m, q, ht, hm, hq, rfl⟩⟩

theorem TidyOf.on {s T : ByteArray} (h : TidyOf s T) (hs : okS s = true) : TidyText (fS s) T := by
  rcases h with ⟨_, h⟩ | ⟨h, _⟩
  · exact h
  · rw [hs] at h; cases h

theorem TidyOf.self {s T : ByteArray} (h : TidyOf s T) (hs : okS s = true) : TidyOf T T := by
  have h2 := h.on hs
  have h3 := h2.told
  exact .inl ⟨h3.ok, by rw [h3.set]; exact h2⟩

theorem implTidy (s T : ByteArray) (m : Int) (w : World) (hs : s.size ≤ 1048576) (hL : LibAt m w) (h : TidyOf s T) :
    Calls Try.prog 19 #[.string s] w fun e w' => e = .returned (.tuple #[.string T, .bool (okS s)]) ∧ Below w.heap.size w w' := by
  rcases h with ⟨h1, h2⟩ | ⟨h1, rfl⟩
  · rw [h1]; exact implTidy_on s T m w hs hL h1 h2
  · rw [h1]; exact implTidy_off s m w hs hL h1

end Go.Proofs.Ytcljchngjaodgaa
