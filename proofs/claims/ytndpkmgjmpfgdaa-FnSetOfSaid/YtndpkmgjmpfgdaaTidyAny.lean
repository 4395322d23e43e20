/-
  Every set of a tail and a ring has a tidy form, of no more signs: plain facts.
-/
import Derived.Test.YtndpkmgjmpfgdaaTidyMath
namespace Go.Proofs.Ytndpkmgjmpfgdaa

theorem tidy_any {t r : List Bool} (hr : 0 < r.length) : ∃ m q, Tidy (hasB t r) m q ∧ m ≤ t.length ∧ q ≤ r.length := by
  have hper : ∀ n, t.length ≤ n → hasB t r (n + r.length) = hasB t r n := fun n hn => hasB_round _ _ n hn
  obtain ⟨q, hq, hl⟩ := least_per _ (show Per (hasB t r) r.length from ⟨hr, _, hper⟩)
  obtain ⟨_, h2⟩ := least_divides hr hper hq hl
  have key : ∀ k, (∀ n, k ≤ n → hasB t r (n + q) = hasB t r n) → ∃ m, m ≤ k ∧ Tidy (hasB t r) m q := by
    intro k
    induction k with
    | zero => intro h; exact ⟨0, Nat.le_refl _, hq.1, h, hl, .inl rfl⟩
    | succ k ih =>
      intro h
      by_cases hk : hasB t r k = hasB t r (k + q)
      · obtain ⟨m, hm, ht⟩ := ih (fun n hn => by
          rcases Nat.eq_or_lt_of_le hn with e | e
          · rw [← e]; exact hk.symm
          · exact h n e)
        exact ⟨m, by omega, ht⟩
      · exact ⟨k + 1, Nat.le_refl _, hq.1, h, hl, .inr hk⟩
  obtain ⟨m, hm, ht⟩ := key _ h2
  exact ⟨m, q, ht, hm, hl _ ⟨hr, _, hper⟩⟩
theorem tidyText_any {t r : List Bool} (ht : t.length ≤ 60) (hr : r.length ≤ 60) (h0 : 0 < r.length) : ∃ T, TidyText (hasB t r) T := by
  obtain ⟨m, q, h, hm, hq⟩ := tidy_any (t := t) h0
  exact ⟨_, m, q, h, by omega, by omega, rfl⟩
theorem tidyText_size {f : Nat → Bool} {T : ByteArray} (h : TidyText f T) : T.size ≤ 122 := by
  obtain ⟨_, _, m, q, ht, hz⟩ := h.told
  obtain ⟨m', q', ht', hm, hq, _⟩ := h
  obtain ⟨rfl, rfl⟩ := tidy_unique ht ht'
  omega
end Go.Proofs.Ytndpkmgjmpfgdaa
