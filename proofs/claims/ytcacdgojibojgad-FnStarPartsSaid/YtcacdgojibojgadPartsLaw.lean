/-
  What the promise on StarParts says of the parts: plain facts.
-/
import Derived.Test.YtcacdgojibojgadPartsMath
import Derived.Test.YtcacdgojibojgadSetOfI
set_option linter.unusedVariables false
set_option linter.unusedSimpArgs false
namespace Go.Proofs.Ytcacdgojibojgad
open Go.RowKit

theorem tidy_per {f : Nat → Bool} {M p : Nat} (hp : 0 < p) (hper : ∀ n, M ≤ n → f (n + p) = f n) : ∃ m q, Tidy f m q ∧ m ≤ M ∧ q ≤ p := by
  obtain ⟨q, hq, hl⟩ := least_per _ (show Per f p from ⟨hp, M, hper⟩)
  obtain ⟨_, h2⟩ := least_divides hp hper hq hl
  have key : ∀ k, (∀ n, k ≤ n → f (n + q) = f n) → ∃ m, m ≤ k ∧ Tidy f m q := by
    intro k
    induction k with
    | zero => intro h; exact ⟨0, Nat.le_refl _, hq.1, h, hl, .inl rfl⟩
    | succ k ih =>
      intro h
      by_cases hk : f k = f (k + q)
      · obtain ⟨m, hm, ht⟩ := ih (fun n hn => by
          rcases Nat.eq_or_lt_of_le hn with e | e
          · rw [← e]; exact hk.symm
          · exact h n e)
        exact ⟨m, by omega, ht⟩
      · exact ⟨k + 1, Nat.le_refl _, hq.1, h, hl, .inr hk⟩
  obtain ⟨m, hm, ht⟩ := key _ h2
  exact ⟨m, q, ht, hm, hl _ ⟨hp, M, hper⟩⟩
theorem tidyText_list (l : List Int) : ∃ T, TidyText (fL l) T := by
  obtain ⟨m, q, h, hm, hq⟩ := tidy_per (f := fL l) (M := 60) (p := 1) (by decide) (fun n hn => by rw [fL_high _ _ (by omega), fL_high _ _ hn])
  exact ⟨_, m, q, h, by omega, by omega, rfl⟩

theorem partsOk_on {s : ByteArray} (h : partsOk s = true) : smallS s = true ∧ ∀ p, p ∈ parts (fS s) 2001 → p ≤ 59 := by
  unfold partsOk at h
  rw [Bool.and_eq_true, List.all_eq_true] at h
  exact ⟨h.1, fun p hp => by have := h.2 p hp; rwa [decide_eq_true_iff] at this⟩
theorem partsV_at {s : ByteArray} (h : partsOk s = true) {i : Nat} (hi : i < (partsV s).length) : ∃ p : Nat, (partsV s).getD i 0 = (p : Int) ∧ fS s p = true ∧ 1 ≤ p ∧ p ≤ 59 := by
  rw [partsV_on h] at hi ⊢
  rw [List.length_map] at hi
  have hm := List.getElem_mem hi
  have hg := (mem_parts.1 hm).2
  refine ⟨(parts (fS s) 2001)[i], ?_, hg.1, hg.2.1, (partsOk_on h).2 _ hm⟩
  rw [List.getD_eq_getElem?_getD, List.getElem?_map, List.getElem?_eq_getElem hi]; rfl
theorem sorted_up {l : List Nat} (h : l.Pairwise (· < ·)) {i : Nat} (hi : i + 1 < l.length) : (l.map fun (n : Nat) => (n : Int)).getD i 0 < (l.map fun (n : Nat) => (n : Int)).getD (i + 1) 0 := by
  have hs := List.pairwise_iff_getElem.1 h i (i + 1) (by omega) hi (by omega)
  rw [List.getD_eq_getElem?_getD, List.getD_eq_getElem?_getD, List.getElem?_map, List.getElem?_map, List.getElem?_eq_getElem (show i < l.length by omega), List.getElem?_eq_getElem hi]
  show ((l[i] : Nat) : Int) < ((l[i + 1] : Nat) : Int)
  omega
theorem partsV_up {s : ByteArray} (h : partsOk s = true) {i : Nat} (hi : i + 1 < (partsV s).length) : (partsV s).getD i 0 < (partsV s).getD (i + 1) 0 := by
  rw [partsV_on h] at hi ⊢
  rw [List.length_map] at hi
  exact sorted_up (parts_sorted _ _) hi
theorem partsV_good {s : ByteArray} (h : partsOk s = true) : goodAll (partsV s) = true := good_of fun i hi => by
  obtain ⟨p, hp, _, h1, h2⟩ := partsV_at h hi
  rw [hp]; omega
theorem partsV_len (s : ByteArray) : (partsV s).length ≤ 2001 := by
  unfold partsV
  split
  · rw [List.length_map]; unfold parts; exact Nat.le_trans (List.length_filter_le _ _) (by simp)
  · exact Nat.zero_le _
theorem fL_parts {s : ByteArray} (h : partsOk s = true) (n : Nat) : fL (partsV s) n = true ↔ n ∈ parts (fS s) 2001 := by
  have hall := (partsOk_on h).2
  rcases Nat.lt_or_ge n 60 with k | k
  · rw [fL_low _ _ k, partsV_on h]
    unfold marked
    rw [List.any_map, List.any_eq_true]
    constructor
    · rintro ⟨p, h1, h2⟩
      have e : ((p : Nat) : Int) = (n : Int) := by simpa using h2
      have : p = n := by omega
      rw [← this]; exact h1
    · intro h1
      exact ⟨n, h1, by simp⟩
  · rw [fL_high _ _ k]
    constructor
    · intro x; cases x
    · intro x; have := hall n x; omega
/-- The parts make the star. -/
theorem star_parts {f g : Nat → Bool} (hs : Small f) (h : ∀ n, g n = true ↔ n ∈ parts f 2001) : starB g = starB f := by
  have key : ∀ n, Star f n → Star g n := by
    intro n
    induction n using Nat.strongRecOn with
    | ind n ih =>
      intro hn
      rcases Nat.eq_zero_or_pos n with rfl | h0
      · exact star_zero g
      · obtain ⟨p, h1, h2, h3⟩ := star_gen hn h0
        have := gen_small hs h1
        have h4 := ih (n - p) (by have := h1.2.1; omega) h3
        have h5 := star_add h4 (star_one ((h p).2 (mem_parts.2 ⟨by omega, h1⟩)))
        rw [show n - p + p = n from by omega] at h5
        exact h5
  funext n
  apply bool_iff
  rw [starB_iff, starB_iff]
  exact ⟨star_mono fun x hx => (mem_parts.1 ((h x).1 hx)).2.1, key n⟩

end Go.Proofs.Ytcacdgojibojgad
