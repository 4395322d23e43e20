/-
  Two sets that come round and agree for long enough agree everywhere; what is made is so told by a text that agrees: plain facts.
-/
import Derived.Test.YtcljchngjaodgabToldMath
namespace Go.Proofs.Ytcljchngjaodgab

theorem agree_all {f g : Nat → Bool} {M p r : Nat} (hp : 0 < p) (hr : 0 < r) (hf : ∀ n, M ≤ n → f (n + p) = f n) (hg : ∀ n, M ≤ n → g (n + r) = g n) (h : ∀ n, n < M + p + r → f n = g n) : f = g := by
  funext n
  induction n using Nat.strongRecOn with
  | ind n ih =>
    rcases Nat.lt_or_ge n (M + p + r) with k | k
    · exact h n k
    · have a1 := hf (n - p) (by omega)
      have a2 := hg (n - p - r) (by omega)
      have a3 := hf (n - r - p) (by omega)
      have a4 := hg (n - r) (by omega)
      rw [show n - p + p = n from by omega] at a1
      rw [show n - p - r + r = n - p from by omega] at a2
      rw [show n - r - p + p = n - r from by omega] at a3
      rw [show n - r + r = n from by omega] at a4
      rw [a1, ih (n - p) (by omega), a2, show n - p - r = n - r - p from by omega, ← ih (n - r - p) (by omega), ← a3, ih (n - r) (by omega), a4]

/-- A set that comes round has a tidy tail and ring. -/
theorem tidy_any {g : Nat → Bool} {t r : Nat} (hr : 0 < r) (hper : ∀ n, t ≤ n → g (n + r) = g n) : ∃ m q, Tidy g m q := by
  obtain ⟨q, hq, hl⟩ := least_per _ (show Per g r from ⟨hr, _, hper⟩)
  obtain ⟨_, h2⟩ := least_divides hr hper hq hl
  have key : ∀ k, (∀ n, k ≤ n → g (n + q) = g n) → ∃ m, Tidy g m q := by
    intro k
    induction k with
    | zero => intro h; exact ⟨0, hq.1, h, hl, .inl rfl⟩
    | succ k ih =>
      intro h
      by_cases hk : g k = g (k + q)
      · exact ih (fun n hn => by
          rcases Nat.eq_or_lt_of_le hn with e | e
          · rw [← e]; exact hk.symm
          · exact h n e)
      · exact ⟨k + 1, hq.1, h, hl, .inr hk⟩
  obtain ⟨m, hm⟩ := key _ h2
  exact ⟨m, q, hm⟩

/-- The text that the first numbers leave: a set text, and the tidy one if there is one. -/
def Leaves (g : Nat → Bool) (T : ByteArray) : Prop := okS T = true ∧ ∀ m q, Tidy g m q → m ≤ 60 → q ≤ 60 → TidyText g T

theorem leaves_fails {g : Nat → Bool} {t r n : Nat} {T : ByteArray} (hr : 0 < r) (hper : ∀ n, t ≤ n → g (n + r) = g n) (hT : Leaves g T) (h : fS T n ≠ g n) : Made g ⟨#[]⟩ false := by
  obtain ⟨m, q, ht⟩ := tidy_any hr hper
  refine .inr ⟨rfl, rfl, m, q, ht, fun ⟨hm, hq⟩ => h ?_⟩
  rw [(hT.2 m q ht hm hq).told.set]

theorem leaves_holds {g : Nat → Bool} {t r : Nat} {T : ByteArray} (hr : 0 < r) (hper : ∀ n, t ≤ n → g (n + r) = g n) (hT : Leaves g T) (h : ∀ n, n < max 60 t + 60 + r → fS T n = g n) : Made g T true := by
  have hl := setT_le hT.1
  have hl2 := setR_le hT.1
  have hl3 := setR_pos hT.1
  have e : fS T = g := agree_all (M := max 60 t) hl3 hr (fun n hn => hasB_round _ _ n (by omega)) (fun n hn => hper n (by omega)) (fun n hn => h n (by omega))
  obtain ⟨m, q, ht, hm, hq⟩ := tidy_there hT.1
  rw [e] at ht
  exact .inl ⟨rfl, hT.2 m q ht hm hq⟩

end Go.Proofs.Ytcljchngjaodgab
