/-
  The star of a set: what it has, its parts, and when it comes round: plain facts.
-/
import Derived.Test.YtonphojjlilcnaaSumMath
set_option linter.unusedVariables false
set_option linter.unusedSimpArgs false
namespace Go.Proofs.Ytonphojjlilcnaa

/-- n is a sum of numbers of f. -/
def Star (f : Nat → Bool) (n : Nat) : Prop := ∃ l : List Nat, (∀ x, x ∈ l → f x = true) ∧ l.sum = n
theorem star_zero (f : Nat → Bool) : Star f 0 := ⟨[], (fun x h => by cases h), rfl⟩
theorem star_one {f : Nat → Bool} {x : Nat} (h : f x = true) : Star f x := ⟨[x], fun y hy => by rw [List.mem_singleton.1 hy]; exact h, by simp⟩
theorem star_add {f : Nat → Bool} {a b : Nat} (h : Star f a) (k : Star f b) : Star f (a + b) := by
  obtain ⟨l, h1, rfl⟩ := h
  obtain ⟨r, h2, rfl⟩ := k
  refine ⟨l ++ r, fun x hx => ?_, by simp⟩
  rcases List.mem_append.1 hx with e | e
  · exact h1 x e
  · exact h2 x e
theorem star_mono {f g : Nat → Bool} (h : ∀ x, f x = true → g x = true) {n : Nat} (k : Star f n) : Star g n := by
  obtain ⟨l, h1, rfl⟩ := k
  exact ⟨l, fun x hx => h x (h1 x hx), rfl⟩
theorem star_mul {f : Nat → Bool} {x : Nat} (h : f x = true) (k : Nat) : Star f (k * x) := by
  induction k with
  | zero => rw [Nat.zero_mul]; exact star_zero f
  | succ k ih => rw [Nat.succ_mul]; exact star_add ih (star_one h)
/-- All sums of a star's numbers are in it. -/
theorem star_star {f g : Nat → Bool} (h : ∀ x, f x = true → Star g x) {n : Nat} (k : Star f n) : Star g n := by
  obtain ⟨l, h1, rfl⟩ := k
  induction l with
  | nil => exact star_zero g
  | cons x l ih =>
    rw [List.sum_cons]
    exact star_add (h x (h1 x (List.mem_cons_self ..))) (ih fun y hy => h1 y (List.mem_cons_of_mem _ hy))
theorem mem_le_sum {l : List Nat} {x : Nat} (h : x ∈ l) : x ≤ l.sum := by
  induction l with
  | nil => cases h
  | cons y l ih =>
    rw [List.sum_cons]
    rcases List.mem_cons.1 h with rfl | h
    · omega
    · have := ih h; omega
/-- The numbers of f that are less than k. -/
def lessF (f : Nat → Bool) (k x : Nat) : Bool := f x && decide (x < k)
theorem lessF_iff {f : Nat → Bool} {k x : Nat} : lessF f k x = true ↔ f x = true ∧ x < k := by
  unfold lessF; rw [Bool.and_eq_true, decide_eq_true_iff]
theorem star_less {f : Nat → Bool} {n k : Nat} (h : n < k) : Star (lessF f k) n ↔ Star f n := by
  constructor
  · exact star_mono fun x hx => (lessF_iff.1 hx).1
  · rintro ⟨l, h1, rfl⟩
    exact ⟨l, fun x hx => lessF_iff.2 ⟨h1 x hx, by have := mem_le_sum hx; omega⟩, rfl⟩
theorem sum_pos_mem {l : List Nat} (h : 0 < l.sum) : ∃ x, x ∈ l ∧ 0 < x := by
  induction l with
  | nil => cases h
  | cons y l ih =>
    rw [List.sum_cons] at h
    rcases Nat.eq_zero_or_pos y with rfl | hy
    · obtain ⟨x, h1, h2⟩ := ih (by omega)
      exact ⟨x, List.mem_cons_of_mem _ h1, h2⟩
    · exact ⟨y, List.mem_cons_self .., hy⟩
theorem sum_erase {l : List Nat} {x : Nat} (h : x ∈ l) : (l.erase x).sum + x = l.sum := by
  induction l with
  | nil => cases h
  | cons y l ih =>
    rcases List.mem_cons.1 h with rfl | h
    · rw [List.erase_cons_head, List.sum_cons]; omega
    · by_cases e : y = x
      · subst e; rw [List.erase_cons_head, List.sum_cons]; omega
      · rw [List.erase_cons_tail (by simpa using e), List.sum_cons, List.sum_cons]
        have := ih h
        omega
theorem star_erase {f : Nat → Bool} {l : List Nat} (h : ∀ x, x ∈ l → f x = true) {x : Nat} (hx : x ∈ l) : Star f (l.sum - x) :=
  ⟨l.erase x, fun y hy => h y (List.mem_of_mem_erase hy), by have := sum_erase hx; omega⟩
/-- A number of a star, greater than 0, has a number of the set. -/
theorem star_split {f : Nat → Bool} {n : Nat} (h : Star f n) (hn : 0 < n) : ∃ x, f x = true ∧ 0 < x ∧ x ≤ n ∧ Star f (n - x) := by
  obtain ⟨l, h1, rfl⟩ := h
  obtain ⟨x, hx, h0⟩ := sum_pos_mem hn
  exact ⟨x, h1 x hx, h0, mem_le_sum hx, star_erase h1 hx⟩

/-- p is a part: a number of the set, greater than 0, that is no sum of less ones. -/
def Gen (f : Nat → Bool) (p : Nat) : Prop := f p = true ∧ 0 < p ∧ ¬ Star (lessF f p) p
theorem gen_iff {f : Nat → Bool} {p : Nat} : Gen f p ↔ f p = true ∧ 0 < p ∧ ¬ ∃ y, 0 < y ∧ y < p ∧ Star f y ∧ Star f (p - y) := by
  unfold Gen
  refine and_congr_right fun hf => and_congr_right fun hp => not_congr ?_
  constructor
  · intro h
    obtain ⟨x, h1, h2, h3, h4⟩ := star_split h hp
    obtain ⟨h5, h6⟩ := lessF_iff.1 h1
    exact ⟨x, h2, h6, star_one h5, star_mono (fun y hy => (lessF_iff.1 hy).1) h4⟩
  · rintro ⟨y, h1, h2, h3, h4⟩
    have e : p = y + (p - y) := by omega
    rw [e]
    refine star_add ?_ ?_
    · rw [← e]; exact (star_less h2).2 h3
    · rw [← e]; exact (star_less (by omega)).2 h4
theorem star_gen {f : Nat → Bool} {n : Nat} (h : Star f n) (hn : 0 < n) : ∃ p, Gen f p ∧ p ≤ n ∧ Star f (n - p) := by
  obtain ⟨x, h1, h2, h3, h4⟩ := star_split h hn
  revert h1 h2 h3 h4
  induction x using Nat.strongRecOn with
  | ind x ih =>
    intro h1 h2 h3 h4
    by_cases hg : Star (lessF f x) x
    · obtain ⟨y, k1, k2, k3, k4⟩ := star_split hg h2
      obtain ⟨k5, k6⟩ := lessF_iff.1 k1
      refine ih y k6 k5 k2 (by omega) ?_
      rw [show n - y = (n - x) + (x - y) from by omega]
      exact star_add h4 (star_mono (fun z hz => (lessF_iff.1 hz).1) k4)
    · exact ⟨x, ⟨h1, h2, hg⟩, h3, h4⟩

noncomputable def starB (f : Nat → Bool) (n : Nat) : Bool := @decide (Star f n) (Classical.propDecidable _)
theorem starB_iff {f : Nat → Bool} {n : Nat} : starB f n = true ↔ Star f n := @decide_eq_true_iff _ (Classical.propDecidable _)
theorem starB_zero (f : Nat → Bool) : starB f 0 = true := starB_iff.2 (star_zero f)
theorem starB_off {f : Nat → Bool} {n : Nat} (h : ¬ Star f n) : starB f n = false := by
  cases e : starB f n
  · rfl
  · exact absurd (starB_iff.1 e) h
noncomputable def genB (f : Nat → Bool) (n : Nat) : Bool := @decide (Gen f n) (Classical.propDecidable _)
theorem genB_iff {f : Nat → Bool} {n : Nat} : genB f n = true ↔ Gen f n := @decide_eq_true_iff _ (Classical.propDecidable _)
/-- The parts less than k, ascending. -/
noncomputable def parts (f : Nat → Bool) (k : Nat) : List Nat := (List.range k).filter (genB f)
theorem parts_zero (f : Nat → Bool) : parts f 0 = [] := rfl
theorem parts_succ (f : Nat → Bool) (k : Nat) : parts f (k + 1) = parts f k ++ (if genB f k = true then [k] else []) := by
  unfold parts
  rw [List.range_succ, List.filter_append]
  congr 1
  cases h : genB f k <;> simp [h]
theorem mem_parts {f : Nat → Bool} {k p : Nat} : p ∈ parts f k ↔ p < k ∧ Gen f p := by
  unfold parts
  rw [List.mem_filter, List.mem_range, genB_iff]
theorem parts_sorted (f : Nat → Bool) (k : Nat) : (parts f k).Pairwise (· < ·) := List.Pairwise.filter _ List.pairwise_lt_range

/-- One number more, behind all others. -/
theorem star_step {f : Nat → Bool} {n i : Nat} (hf : f n = true) : Star (lessF f (n + 1)) i ↔ Star (lessF f n) i ∨ (n ≤ i ∧ Star (lessF f (n + 1)) (i - n)) := by
  constructor
  · rintro ⟨l, h1, rfl⟩
    by_cases h : n ∈ l
    · exact .inr ⟨mem_le_sum h, star_erase h1 h⟩
    · refine .inl ⟨l, fun x hx => ?_, rfl⟩
      obtain ⟨h2, h3⟩ := lessF_iff.1 (h1 x hx)
      refine lessF_iff.2 ⟨h2, ?_⟩
      have : x ≠ n := fun e => h (e ▸ hx)
      omega
  · rintro (h | ⟨h1, h2⟩)
    · exact star_mono (fun x hx => lessF_iff.2 ⟨(lessF_iff.1 hx).1, by have := (lessF_iff.1 hx).2; omega⟩) h
    · have := star_add h2 (star_one (f := lessF f (n + 1)) (x := n) (lessF_iff.2 ⟨hf, by omega⟩))
      rw [show i - n + n = i from by omega] at this
      exact this
theorem star_same {f : Nat → Bool} {n : Nat} (h : f n = true → Star (lessF f n) n) : starB (lessF f (n + 1)) = starB (lessF f n) := by
  funext i
  apply bool_iff
  rw [starB_iff, starB_iff]
  constructor
  · refine star_star fun x hx => ?_
    obtain ⟨h1, h2⟩ := lessF_iff.1 hx
    by_cases e : x = n
    · subst e; exact h h1
    · exact star_one (lessF_iff.2 ⟨h1, by omega⟩)
  · exact star_mono fun x hx => lessF_iff.2 ⟨(lessF_iff.1 hx).1, by have := (lessF_iff.1 hx).2; omega⟩
theorem starB_step {f : Nat → Bool} {n : Nat} (hf : f n = true) (i : Nat) : starB (lessF f (n + 1)) i = (starB (lessF f n) i || (decide (n ≤ i) && starB (lessF f (n + 1)) (i - n))) := by
  apply bool_iff
  rw [Bool.or_eq_true, Bool.and_eq_true, decide_eq_true_iff, starB_iff, starB_iff, starB_iff]
  exact star_step hf
theorem starB_less {f : Nat → Bool} {n k : Nat} (h : n < k) : starB (lessF f k) n = starB f n := bool_iff (by rw [starB_iff, starB_iff]; exact star_less h)
theorem starB_start (f : Nat → Bool) (n : Nat) : starB (lessF f 0) n = zeroOnly n := by
  apply bool_iff
  rw [starB_iff]
  unfold zeroOnly
  rw [decide_eq_true_iff]
  constructor
  · intro h
    rcases Nat.eq_zero_or_pos n with e | e
    · exact e
    · obtain ⟨x, h1, _⟩ := star_split h e
      exact absurd (lessF_iff.1 h1).2 (by omega)
  · rintro rfl; exact star_zero _
/-- A number of the star by its parts. -/
theorem starB_parts {f : Nat → Bool} {n : Nat} (hn : 0 < n) : starB f n = ((parts f n).any (fun p => starB f (n - p)) || f n) := by
  apply bool_iff
  rw [Bool.or_eq_true, List.any_eq_true, starB_iff]
  constructor
  · intro h
    obtain ⟨p, h1, h2, h3⟩ := star_gen h hn
    rcases Nat.lt_or_ge p n with k | k
    · exact .inl ⟨p, mem_parts.2 ⟨k, h1⟩, starB_iff.2 h3⟩
    · obtain rfl : p = n := by omega
      exact .inr h1.1
  · rintro (⟨p, h1, h2⟩ | h)
    · obtain ⟨h3, h4⟩ := mem_parts.1 h1
      have := star_add (starB_iff.1 h2) (star_one h4.1)
      rw [show n - p + p = n from by omega] at this
      exact this
    · exact star_one h
theorem genB_parts {f : Nat → Bool} {n : Nat} (hn : 0 < n) : genB f n = (!(parts f n).any (fun p => starB f (n - p)) && f n) := by
  apply bool_iff
  rw [Bool.and_eq_true, Bool.not_eq_true', genB_iff]
  constructor
  · intro h
    refine ⟨?_, h.1⟩
    cases e : (parts f n).any (fun p => starB f (n - p))
    · rfl
    · obtain ⟨p, h1, h2⟩ := List.any_eq_true.1 e
      obtain ⟨h3, h4⟩ := mem_parts.1 h1
      exact absurd ⟨p, h4.2.1, h3, star_one h4.1, starB_iff.1 h2⟩ (gen_iff.1 h).2.2
  · rintro ⟨h1, h2⟩
    refine gen_iff.2 ⟨h2, hn, ?_⟩
    rintro ⟨y, k1, k2, k3, k4⟩
    obtain ⟨p, g1, g2, g3⟩ := star_gen k3 k1
    have hm : p ∈ parts f n := mem_parts.2 ⟨by omega, g1⟩
    have : (parts f n).any (fun p => starB f (n - p)) = true := List.any_eq_true.2 ⟨p, hm, starB_iff.2 (by
      rw [show n - p = (n - y) + (y - p) from by omega]; exact star_add k4 g3)⟩
    rw [this] at h1; cases h1

end Go.Proofs.Ytonphojjlilcnaa
