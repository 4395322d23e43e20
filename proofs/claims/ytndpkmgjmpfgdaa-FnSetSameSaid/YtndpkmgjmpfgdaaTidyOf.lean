/-
  What SetTidy answers of any text, told by a relation that just one text keeps; SetSizes likewise.
-/
import Derived.Test.YtndpkmgjmpfgdaaTidyMath
import Derived.Test.YtndpkmgjmpfgdaaSetSizes
namespace Go.Proofs.Ytndpkmgjmpfgdaa
open Go.RowKit

theorem tidy_there {s : ByteArray} (hs : okS s = true) : ∃ m q, Tidy (fS s) m q ∧ m ≤ 60 ∧ q ≤ 60 := by
  have hper : ∀ n, (setT s).length ≤ n → fS s (n + (setR s).length) = fS s n := fun n hn => hasB_round _ _ n hn
  obtain ⟨q, hq, hl⟩ := least_per _ (show Per (fS s) (setR s).length from ⟨setR_pos hs, _, hper⟩)
  obtain ⟨_, h2⟩ := least_divides (setR_pos hs) hper hq hl
  have key : ∀ k, (∀ n, k ≤ n → fS s (n + q) = fS s n) → ∃ m, m ≤ k ∧ Tidy (fS s) m q := by
    intro k
    induction k with
    | zero => intro h; exact ⟨0, Nat.le_refl _, hq.1, h, hl, .inl rfl⟩
    | succ k ih =>
      intro h
      by_cases hk : fS s k = fS s (k + q)
      · obtain ⟨m, hm, ht⟩ := ih (fun n hn => by
          rcases Nat.eq_or_lt_of_le hn with e | e
          · rw [← e]; exact hk.symm
          · exact h n e)
        exact ⟨m, by omega, ht⟩
      · exact ⟨k + 1, Nat.le_refl _, hq.1, h, hl, .inr hk⟩
  obtain ⟨m, hm, ht⟩ := key _ h2
  have h60 := setT_le hs
  have r60 := setR_le hs
  have := tidy_short hs ht
  exact ⟨m, q, ht, by omega, by omega⟩

theorem below_step {w w1 w2 : World} (h : Below w.heap.size w w1) (k : Below w1.heap.size w1 w2) : Below w.heap.size w w2 := h.trans (k.mono h.size)

/-- T is what SetTidy tells of s. -/
def TidyOf (s T : ByteArray) : Prop := (okS s = true ∧ TidyText (fS s) T) ∨ (okS s = false ∧ T = ⟨#[]⟩)
theorem tidyOf_there (s : ByteArray) : ∃ T, TidyOf s T := by
  cases h : okS s
  · exact ⟨_, .inr ⟨h, rfl⟩⟩
  · obtain ⟨m, q, ht, hm, hq⟩ := tidy_there h
    exact ⟨_, .inl ⟨h, m, q, ht, hm, hq, rfl⟩⟩
theorem TidyOf.on {s T : ByteArray} (h : TidyOf s T) (hs : okS s = true) : TidyText (fS s) T := by
  rcases h with ⟨_, h⟩ | ⟨h, _⟩
  · exact h
  · rw [hs] at h; cases h
theorem TidyOf.self {s T : ByteArray} (h : TidyOf s T) (hs : okS s = true) : TidyOf T T := by
  have h2 := h.on hs
  have h3 := h2.told
  exact .inl ⟨h3.ok, by rw [h3.set]; exact h2⟩
theorem specTidy (s T : ByteArray) (w : World) (hs : s.size ≤ 1048576) (h : TidyOf s T) :
    Calls Try.prog 23 #[.string s] w fun e w' => e = .returned (.tuple #[.string T, .bool (okS s)]) ∧ Below w.heap.size w w' := by
  rcases h with ⟨h1, h2⟩ | ⟨h1, rfl⟩
  · rw [h1]
    refine (specTidy_on s w hs h1).mono ?_
    rintro e w' ⟨U, rfl, hU, hb⟩
    rw [tidyText_same hU h2]
    exact ⟨rfl, hb⟩
  · rw [h1]; exact specTidy_off s w hs h1
theorem implTidy (s T : ByteArray) (m : Int) (w : World) (hs : s.size ≤ 1048576) (hL : LibAt m w) (h : TidyOf s T) :
    Calls Try.prog 18 #[.string s] w fun e w' => e = .returned (.tuple #[.string T, .bool (okS s)]) ∧ Below w.heap.size w w' := by
  rcases h with ⟨h1, h2⟩ | ⟨h1, rfl⟩
  · rw [h1]; exact implTidy_on s T m w hs hL h1 h2
  · rw [h1]; exact implTidy_off s m w hs hL h1
end Go.Proofs.Ytndpkmgjmpfgdaa
