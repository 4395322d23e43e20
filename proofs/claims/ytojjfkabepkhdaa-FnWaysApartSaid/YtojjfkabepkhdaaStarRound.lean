/-
  The star of a set: what it has, its parts, and when it comes round: plain facts. When a star comes round, how great its parts are, and its greatest gap: plain facts.
-/
import Derived.Test.YtojjfkabepkhdaaTimesMath
set_option linter.unusedSimpArgs false
set_option linter.unusedVariables false
namespace Go.Proofs.Ytojjfkabepkhdaa
open Go.RowKit

/-- n is a sum of numbers of f. -/
def Star (f : Nat → Bool) (n : Nat) : Prop := ∃ l : List Nat, (∀ x, x ∈ l → f x = true) ∧ l.sum = n
theorem star_zero (f : Nat → Bool) : Star f 0 := ⟨[], (fun x h => by cases h), rfl⟩
theorem star_one {f : Nat → Bool} {x : Nat} (h : f x = true) : Star f x := ⟨[x], fun y hy => by rw [List.mem_singleton.1 hy]; exact h, by simp⟩
theorem star_add {f : Nat → Bool} {a b : Nat} (h : Star f a) (k : Star f b) : Star f (a + b) := by
  obtain ⟨l, h1, rfl⟩ := h
  obtain ⟨r, h2, rfl⟩ := k
  refine ⟨l ++ r, fun x hx => ?_, by simp⟩
  rcases List.mem_append.1 hx with e | e
  · exact h1 x e
  · exact h2 x e
theorem star_mono {f g : Nat → Bool} (h : ∀ x, f x = true → g x = true) {n : Nat} (k : Star f n) : Star g n := by
  obtain ⟨l, h1, rfl⟩ := k
  exact ⟨l, fun x hx => h x (h1 x hx), rfl⟩
theorem star_mul {f : Nat → Bool} {x : Nat} (h : f x = true) (k : Nat) : Star f (k * x) := by
  induction k with
  | zero => rw [Nat.zero_mul]; exact star_zero f
  | succ k ih => rw [Nat.succ_mul]; exact star_add ih (star_one h)
/-- All sums of a star's numbers are in it. -/
theorem star_star {f g : Nat → Bool} (h : ∀ x, f x = true → Star g x) {n : Nat} (k : Star f n) : Star g n := by
  obtain ⟨l, h1, rfl⟩ := k
  induction l with
  | nil => exact star_zero g
  | cons x l ih =>
    rw [List.sum_cons]
    exact star_add (h x (h1 x (List.mem_cons_self ..))) (ih fun y hy => h1 y (List.mem_cons_of_mem _ hy))
theorem mem_le_sum {l : List Nat} {x : Nat} (h : x ∈ l) : x ≤ l.sum := by
  induction l with
  | nil => cases h
  | cons y l ih =>
    rw [List.sum_cons]
    rcases List.mem_cons.1 h with rfl | h
    · omega
    · have := ih h; omega
/-- The numbers of f that are less than k. -/
def lessF (f : Nat → Bool) (k x : Nat) : Bool := f x && decide (x < k)
theorem lessF_iff {f : Nat → Bool} {k x : Nat} : lessF f k x = true ↔ f x = true ∧ x < k := by
  unfold lessF; rw [Bool.and_eq_true, decide_eq_true_iff]
theorem star_less {f : Nat → Bool} {n k : Nat} (h : n < k) : Star (lessF f k) n ↔ Star f n := by
  constructor
  · exact star_mono fun x hx => (lessF_iff.1 hx).1
  · rintro ⟨l, h1, rfl⟩
    exact ⟨l, fun x hx => lessF_iff.2 ⟨h1 x hx, by have := mem_le_sum hx; omega⟩, rfl⟩
theorem sum_pos_mem {l : List Nat} (h : 0 < l.sum) : ∃ x, x ∈ l ∧ 0 < x := by
  induction l with
  | nil => cases h
  | cons y l ih =>
    rw [List.sum_cons] at h
    rcases Nat.eq_zero_or_pos y with rfl | hy
    · obtain ⟨x, h1, h2⟩ := ih (by omega)
      exact ⟨x, List.mem_cons_of_mem _ h1, h2⟩
    · exact ⟨y, List.mem_cons_self .., hy⟩
theorem sum_erase {l : List Nat} {x : Nat} (h : x ∈ l) : (l.erase x).sum + x = l.sum := by
  induction l with
  | nil => cases h
  | cons y l ih =>
    rcases List.mem_cons.1 h with rfl | h
    · rw [List.erase_cons_head, List.sum_cons]; omega
    · by_cases e : y = x
      · subst e; rw [List.erase_cons_head, List.sum_cons]; omega
      · rw [List.erase_cons_tail (by simpa using e), List.sum_cons, List.sum_cons]
        have := ih h
        omega
theorem star_erase {f : Nat → Bool} {l : List Nat} (h : ∀ x, x ∈ l → f x = true) {x : Nat} (hx : x ∈ l) : Star f (l.sum - x) :=
  ⟨l.erase x, fun y hy => h y (List.mem_of_mem_erase hy), by have := sum_erase hx; omega⟩
/-- A number of a star, greater than 0, has a number of the set. -/
theorem star_split {f : Nat → Bool} {n : Nat} (h : Star f n) (hn : 0 < n) : ∃ x, f x = true ∧ 0 < x ∧ x ≤ n ∧ Star f (n - x) := by
  obtain ⟨l, h1, rfl⟩ := h
  obtain ⟨x, hx, h0⟩ := sum_pos_mem hn
  exact ⟨x, h1 x hx, h0, mem_le_sum hx, star_erase h1 hx⟩

/-- p is a part: a number of the set, greater than 0, that is no sum of less ones. -/
def Gen (f : Nat → Bool) (p : Nat) : Prop := f p = true ∧ 0 < p ∧ ¬ Star (lessF f p) p
theorem gen_iff {f : Nat → Bool} {p : Nat} : Gen f p ↔ f p = true ∧ 0 < p ∧ ¬ ∃ y, 0 < y ∧ y < p ∧ Star f y ∧ Star f (p - y) := by
  unfold Gen
  refine and_congr_right fun hf => and_congr_right fun hp => not_congr ?_
  constructor
  · intro h
    obtain ⟨x, h1, h2, h3, h4⟩ := star_split h hp
    obtain ⟨h5, h6⟩ := lessF_iff.1 h1
    exact ⟨x, h2, h6, star_one h5, star_mono (fun y hy => (lessF_iff.1 hy).1) h4⟩
  · rintro ⟨y, h1, h2, h3, h4⟩
    have e : p = y + (p - y) := by omega
    rw [e]
    refine star_add ?_ ?_
    · rw [← e]; exact (star_less h2).2 h3
    · rw [← e]; exact (star_less (by omega)).2 h4
theorem star_gen {f : Nat → Bool} {n : Nat} (h : Star f n) (hn : 0 < n) : ∃ p, Gen f p ∧ p ≤ n ∧ Star f (n - p) := by
  obtain ⟨x, h1, h2, h3, h4⟩ := star_split h hn
  revert h1 h2 h3 h4
  induction x using Nat.strongRecOn with
  | ind x ih =>
    intro h1 h2 h3 h4
    by_cases hg : Star (lessF f x) x
    · obtain ⟨y, k1, k2, k3, k4⟩ := star_split hg h2
      obtain ⟨k5, k6⟩ := lessF_iff.1 k1
      refine ih y k6 k5 k2 (by omega) ?_
      rw [show n - y = (n - x) + (x - y) from by omega]
      exact star_add h4 (star_mono (fun z hz => (lessF_iff.1 hz).1) k4)
    · exact ⟨x, ⟨h1, h2, hg⟩, h3, h4⟩

noncomputable def starB (f : Nat → Bool) (n : Nat) : Bool := @decide (Star f n) (Classical.propDecidable _)
theorem starB_iff {f : Nat → Bool} {n : Nat} : starB f n = true ↔ Star f n := @decide_eq_true_iff _ (Classical.propDecidable _)
theorem starB_zero (f : Nat → Bool) : starB f 0 = true := starB_iff.2 (star_zero f)
theorem starB_off {f : Nat → Bool} {n : Nat} (h : ¬ Star f n) : starB f n = false := by
  cases e : starB f n
  · rfl
  · exact absurd (starB_iff.1 e) h
noncomputable def genB (f : Nat → Bool) (n : Nat) : Bool := @decide (Gen f n) (Classical.propDecidable _)
theorem genB_iff {f : Nat → Bool} {n : Nat} : genB f n = true ↔ Gen f n := @decide_eq_true_iff _ (Classical.propDecidable _)
/-- The parts less than k, ascending. -/
noncomputable def parts (f : Nat → Bool) (k : Nat) : List Nat := (List.range k).filter (genB f)
theorem parts_zero (f : Nat → Bool) : parts f 0 = [] := rfl
theorem parts_succ (f : Nat → Bool) (k : Nat) : parts f (k + 1) = parts f k ++ (if genB f k = true then [k] else []) := by
  unfold parts
  rw [List.range_succ, List.filter_append]
  congr 1
  cases h : genB f k <;> simp [h]
theorem mem_parts {f : Nat → Bool} {k p : Nat} : p ∈ parts f k ↔ p < k ∧ Gen f p := by
  unfold parts
  rw [List.mem_filter, List.mem_range, genB_iff]
theorem parts_sorted (f : Nat → Bool) (k : Nat) : (parts f k).Pairwise (· < ·) := List.Pairwise.filter _ List.pairwise_lt_range

/-- One number more, behind all others. -/
theorem star_step {f : Nat → Bool} {n i : Nat} (hf : f n = true) : Star (lessF f (n + 1)) i ↔ Star (lessF f n) i ∨ (n ≤ i ∧ Star (lessF f (n + 1)) (i - n)) := by
  constructor
  · rintro ⟨l, h1, rfl⟩
    by_cases h : n ∈ l
    · exact .inr ⟨mem_le_sum h, star_erase h1 h⟩
    · refine .inl ⟨l, fun x hx => ?_, rfl⟩
      obtain ⟨h2, h3⟩ := lessF_iff.1 (h1 x hx)
      refine lessF_iff.2 ⟨h2, ?_⟩
      have : x ≠ n := fun e => h (e ▸ hx)
      omega
  · rintro (h | ⟨h1, h2⟩)
    · exact star_mono (fun x hx => lessF_iff.2 ⟨(lessF_iff.1 hx).1, by have := (lessF_iff.1 hx).2; omega⟩) h
    · have := star_add h2 (star_one (f := lessF f (n + 1)) (x := n) (lessF_iff.2 ⟨hf, by omega⟩))
      rw [show i - n + n = i from by omega] at this
      exact this
theorem star_same {f : Nat → Bool} {n : Nat} (h : f n = true → Star (lessF f n) n) : starB (lessF f (n + 1)) = starB (lessF f n) := by
  funext i
  apply bool_iff
  rw [starB_iff, starB_iff]
  constructor
  · refine star_star fun x hx => ?_
    obtain ⟨h1, h2⟩ := lessF_iff.1 hx
    by_cases e : x = n
    · subst e; exact h h1
    · exact star_one (lessF_iff.2 ⟨h1, by omega⟩)
  · exact star_mono fun x hx => lessF_iff.2 ⟨(lessF_iff.1 hx).1, by have := (lessF_iff.1 hx).2; omega⟩
theorem starB_step {f : Nat → Bool} {n : Nat} (hf : f n = true) (i : Nat) : starB (lessF f (n + 1)) i = (starB (lessF f n) i || (decide (n ≤ i) && starB (lessF f (n + 1)) (i - n))) := by
  apply bool_iff
  rw [Bool.or_eq_true, Bool.and_eq_true, decide_eq_true_iff, starB_iff, starB_iff, starB_iff]
  exact star_step hf
theorem starB_less {f : Nat → Bool} {n k : Nat} (h : n < k) : starB (lessF f k) n = starB f n := bool_iff (by rw [starB_iff, starB_iff]; exact star_less h)
theorem starB_start (f : Nat → Bool) (n : Nat) : starB (lessF f 0) n = zeroOnly n := by
  apply bool_iff
  rw [starB_iff]
  unfold zeroOnly
  rw [decide_eq_true_iff]
  constructor
  · intro h
    rcases Nat.eq_zero_or_pos n with e | e
    · exact e
    · obtain ⟨x, h1, _⟩ := star_split h e
      exact absurd (lessF_iff.1 h1).2 (by omega)
  · rintro rfl; exact star_zero _
/-- A number of the star by its parts. -/
theorem starB_parts {f : Nat → Bool} {n : Nat} (hn : 0 < n) : starB f n = ((parts f n).any (fun p => starB f (n - p)) || f n) := by
  apply bool_iff
  rw [Bool.or_eq_true, List.any_eq_true, starB_iff]
  constructor
  · intro h
    obtain ⟨p, h1, h2, h3⟩ := star_gen h hn
    rcases Nat.lt_or_ge p n with k | k
    · exact .inl ⟨p, mem_parts.2 ⟨k, h1⟩, starB_iff.2 h3⟩
    · obtain rfl : p = n := by omega
      exact .inr h1.1
  · rintro (⟨p, h1, h2⟩ | h)
    · obtain ⟨h3, h4⟩ := mem_parts.1 h1
      have := star_add (starB_iff.1 h2) (star_one h4.1)
      rw [show n - p + p = n from by omega] at this
      exact this
    · exact star_one h
theorem genB_parts {f : Nat → Bool} {n : Nat} (hn : 0 < n) : genB f n = (!(parts f n).any (fun p => starB f (n - p)) && f n) := by
  apply bool_iff
  rw [Bool.and_eq_true, Bool.not_eq_true', genB_iff]
  constructor
  · intro h
    refine ⟨?_, h.1⟩
    cases e : (parts f n).any (fun p => starB f (n - p))
    · rfl
    · obtain ⟨p, h1, h2⟩ := List.any_eq_true.1 e
      obtain ⟨h3, h4⟩ := mem_parts.1 h1
      exact absurd ⟨p, h4.2.1, h3, star_one h4.1, starB_iff.1 h2⟩ (gen_iff.1 h).2.2
  · rintro ⟨h1, h2⟩
    refine gen_iff.2 ⟨h2, hn, ?_⟩
    rintro ⟨y, k1, k2, k3, k4⟩
    obtain ⟨p, g1, g2, g3⟩ := star_gen k3 k1
    have hm : p ∈ parts f n := mem_parts.2 ⟨by omega, g1⟩
    have : (parts f n).any (fun p => starB f (n - p)) = true := List.any_eq_true.2 ⟨p, hm, starB_iff.2 (by
      rw [show n - p = (n - y) + (y - p) from by omega]; exact star_add k4 g3)⟩
    rw [this] at h1; cases h1

/-- More numbers than values: two of them have the same one. -/
theorem two_same (m : Nat) : ∀ f : Nat → Nat, (∀ i, i ≤ m → f i < m) → ∃ i j, i < j ∧ j ≤ m ∧ f i = f j := by
  induction m with
  | zero => intro f h; exact absurd (h 0 (Nat.le_refl _)) (Nat.not_lt_zero _)
  | succ m ih =>
    intro f h
    by_cases hx : ∃ i, i ≤ m ∧ f i = f (m + 1)
    · obtain ⟨i, h1, h2⟩ := hx
      exact ⟨i, m + 1, by omega, Nat.le_refl _, h2⟩
    · have hne : ∀ i, i ≤ m → f i ≠ f (m + 1) := fun i hi e => hx ⟨i, hi, e⟩
      have hv := h (m + 1) (Nat.le_refl _)
      obtain ⟨i, j, h1, h2, h3⟩ := ih (fun i => if f i = m then f (m + 1) else f i) (fun i hi => by
        have h4 := h i (by omega)
        have h5 := hne i hi
        show (if f i = m then f (m + 1) else f i) < m
        split <;> omega)
      have h4 := hne i (by omega)
      have h5 := hne j h2
      refine ⟨i, j, h1, by omega, ?_⟩
      split at h3 <;> split at h3 <;> omega

theorem take_sum (l : List Nat) (i : Nat) : (l.take i).sum + (l.drop i).sum = l.sum := by
  rw [← List.sum_append, List.take_append_drop]
theorem take_mono (l : List Nat) {i j : Nat} (h : i ≤ j) : (l.take i).sum ≤ (l.take j).sum := by
  have e : l.take j = l.take i ++ (l.take j).drop i := by
    have := List.take_append_drop i (l.take j)
    rw [List.take_take, Nat.min_eq_left h] at this
    exact this.symm
  rw [e, List.sum_append]; omega

/-- Fewer than m numbers, none of them great, leave the same rest by m, and are no more. -/
theorem few_numbers {f : Nat → Bool} {t p m : Nat} (hp : 0 < p) (hm : 0 < m) (hf : ∀ n, t ≤ n → f (n + p) = f n) : ∀ k (l : List Nat), l.length + l.sum ≤ k → (∀ x, x ∈ l → f x = true) →
    ∃ r : List Nat, (∀ x, x ∈ r → f x = true ∧ x < t + m * p) ∧ r.length < m ∧ r.sum ≤ l.sum ∧ ∃ q, r.sum + m * q = l.sum := by
  have hmp : 0 < m * p := Nat.mul_pos hm hp
  have hback : ∀ x, t + m * p ≤ x → f x = true → f (x - m * p) = true := fun x hx h => by
    have := per_rounds hf m (x - m * p) (by omega)
    rw [show x - m * p + m * p = x from by omega] at this
    rw [← this]; exact h
  intro k
  induction k with
  | zero =>
    intro l hl h
    have : l = [] := List.eq_nil_of_length_eq_zero (by omega)
    subst this
    exact ⟨[], (fun x hx => by cases hx), hm, Nat.le_refl _, 0, by simp⟩
  | succ k ih =>
    intro l hl h
    by_cases hx : ∃ x, x ∈ l ∧ t + m * p ≤ x
    · obtain ⟨x, h1, h2⟩ := hx
      have h3 := sum_erase h1
      have h4 : (l.erase x).length + 1 = l.length := by
        have := List.length_erase_of_mem h1
        have := List.length_pos_of_mem h1
        omega
      obtain ⟨r, r1, r2, r3, q, r4⟩ := ih ((x - m * p) :: l.erase x) (by rw [List.sum_cons, List.length_cons]; omega) (fun y hy => by
        rcases List.mem_cons.1 hy with rfl | hy
        · exact hback x h2 (h x h1)
        · exact h y (List.mem_of_mem_erase hy))
      rw [List.sum_cons] at r3 r4
      exact ⟨r, r1, r2, by omega, q + p, by rw [Nat.mul_add]; omega⟩
    · have hsm : ∀ x, x ∈ l → x < t + m * p := fun x h1 => by
        rcases Nat.lt_or_ge x (t + m * p) with e | e
        · exact e
        · exact absurd ⟨x, h1, e⟩ hx
      rcases Nat.lt_or_ge l.length m with hl2 | hl2
      · exact ⟨l, fun x h1 => ⟨h x h1, hsm x h1⟩, hl2, Nat.le_refl _, 0, by simp⟩
      · obtain ⟨i, j, h1, h2, h3⟩ := two_same m (fun i => (l.take i).sum % m) (fun i _ => Nat.mod_lt _ hm)
        have t1 := take_sum l j
        have t2 := take_mono l (Nat.le_of_lt h1)
        obtain ⟨q1, hq1⟩ : ∃ q1, (l.take j).sum = (l.take i).sum + m * q1 := by
          refine ⟨((l.take j).sum) / m - ((l.take i).sum) / m, ?_⟩
          have d1 := Nat.div_add_mod (l.take j).sum m
          have d2 := Nat.div_add_mod (l.take i).sum m
          have d3 : (l.take i).sum / m ≤ (l.take j).sum / m := Nat.div_le_div_right t2
          rw [Nat.mul_sub]
          have d4 : m * ((l.take i).sum / m) ≤ m * ((l.take j).sum / m) := Nat.mul_le_mul_left m d3
          omega
        obtain ⟨r, r1, r2, r3, q, r4⟩ := ih (l.take i ++ l.drop j) (by
            rw [List.length_append, List.length_take, List.length_drop, List.sum_append]; omega) (fun y hy => by
          rcases List.mem_append.1 hy with e | e
          · exact h y (List.mem_of_mem_take e)
          · exact h y (List.mem_of_mem_drop e))
        rw [List.sum_append] at r3 r4
        exact ⟨r, r1, r2, by omega, q + q1, by rw [Nat.mul_add]; omega⟩
theorem sum_bound {l : List Nat} {b : Nat} (h : ∀ x, x ∈ l → x ≤ b) : l.sum ≤ l.length * b := by
  induction l with
  | nil => simp
  | cons x l ih =>
    rw [List.sum_cons, List.length_cons, Nat.succ_mul]
    have h1 := h x (List.mem_cons_self ..)
    have h2 := ih fun y hy => h y (List.mem_cons_of_mem _ hy)
    omega
/-- From there on a star comes round by a number of the set. -/
theorem star_round {f : Nat → Bool} {t p m : Nat} (hp : 0 < p) (hm : 0 < m) (hf : ∀ n, t ≤ n → f (n + p) = f n) (hfm : f m = true) (n : Nat) (hn : (m - 1) * (t + m * p) ≤ n) : starB f (n + m) = starB f n := by
  apply bool_iff
  rw [starB_iff, starB_iff]
  constructor
  · rintro ⟨l, h1, h2⟩
    obtain ⟨r, r1, r2, r3, q, r4⟩ := few_numbers hp hm hf _ l (Nat.le_refl _) h1
    have h3 := sum_bound (l := r) (b := t + m * p) (fun x hx => by have := (r1 x hx).2; omega)
    have h4 : r.length * (t + m * p) ≤ (m - 1) * (t + m * p) := Nat.mul_le_mul_right _ (by omega)
    have h5 : 0 < q := by
      rcases Nat.eq_zero_or_pos q with rfl | h
      · rw [Nat.mul_zero] at r4; omega
      · exact h
    obtain ⟨q', rfl⟩ : ∃ q', q = q' + 1 := ⟨q - 1, by omega⟩
    rw [Nat.mul_add, Nat.mul_one] at r4
    have h6 := star_add (show Star f r.sum from ⟨r, fun x hx => (r1 x hx).1, rfl⟩) (star_mul hfm q')
    rw [show r.sum + q' * m = n from by rw [Nat.mul_comm q' m]; omega] at h6
    exact h6
  · intro h
    exact star_add h (star_one hfm)

/-- m is the least number of f greater than 0. -/
structure LeastIs (f : Nat → Bool) (m : Nat) : Prop where
  pos : 0 < m
  is : f m = true
  least : ∀ x, 0 < x → f x = true → m ≤ x
theorem LeastIs.gen {f : Nat → Bool} {m : Nat} (h : LeastIs f m) : Gen f m :=
  gen_iff.2 ⟨h.is, h.pos, by
    rintro ⟨y, h1, h2, h3, _⟩
    obtain ⟨x, k1, k2, k3, _⟩ := star_split h3 h1
    have := h.least x k2 k1
    omega⟩
theorem least_or (f : Nat → Bool) : (∃ m, LeastIs f m) ∨ ∀ x, 0 < x → f x = false := by
  by_cases h : ∃ x, 0 < x ∧ f x = true
  · left
    obtain ⟨x, h1, h2⟩ := h
    revert h1 h2
    induction x using Nat.strongRecOn with
    | ind x ih =>
      intro h1 h2
      by_cases h : ∃ y, y < x ∧ 0 < y ∧ f y = true
      · obtain ⟨y, k1, k2, k3⟩ := h; exact ih y k1 k2 k3
      · exact ⟨x, h1, h2, fun y k1 k2 => by
          rcases Nat.lt_or_ge y x with k | k
          · exact absurd ⟨y, k, k1, k2⟩ h
          · exact k⟩
  · right
    intro x hx
    cases e : f x
    · rfl
    · exact absurd ⟨x, hx, e⟩ h
theorem LeastIs.unique {f : Nat → Bool} {m k : Nat} (h : LeastIs f m) (h2 : LeastIs f k) : m = k := Nat.le_antisymm (h.least k h2.pos h2.is) (h2.least m h.pos h.is)
theorem LeastIs.small {f : Nat → Bool} {m : Nat} (h : LeastIs f m) (hs : Small f) : m ≤ 15 := by
  obtain ⟨t, p, ht, h1, h2⟩ := hs
  have h0 := ht.pos
  rcases Nat.lt_or_ge 15 m with k | k
  · have e := ht.per (m - p) (by omega)
    rw [show m - p + p = m from by omega, h.is] at e
    have := h.least (m - p) (by omega) e.symm
    omega
  · exact k
theorem star_none {f : Nat → Bool} (h : ∀ x, 0 < x → f x = false) : starB f = zeroOnly := by
  funext n
  rw [← starB_start f n]
  apply bool_iff
  rw [starB_iff, starB_iff]
  constructor
  · refine star_star fun x hx => ?_
    rcases Nat.eq_zero_or_pos x with rfl | k
    · exact star_zero _
    · rw [h x k] at hx; cases hx
  · exact star_mono fun x hx => (lessF_iff.1 hx).1
theorem parts_none {f : Nat → Bool} (h : ∀ x, 0 < x → f x = false) (k : Nat) : parts f k = [] := by
  rcases List.eq_nil_or_concat (parts f k) with e | ⟨l, p, e⟩
  · exact e
  · have : p ∈ parts f k := by rw [e]; simp
    have h1 := (mem_parts.1 this).2
    have h2 := h1.1
    rw [h p h1.2.1] at h2
    cases h2
theorem LeastIs.star {f : Nat → Bool} {m : Nat} (h : LeastIs f m) (hs : Small f) (n : Nat) (hn : 1792 ≤ n) : starB f (n + m) = starB f n := by
  have hm := h.small hs
  obtain ⟨t, p, ht, h1, h2⟩ := hs
  refine star_round ht.pos h.pos ht.per h.is n (Nat.le_trans ?_ hn)
  have e1 : m * p ≤ 15 * 8 := Nat.mul_le_mul hm h2
  exact Nat.le_trans (Nat.mul_le_mul (show m - 1 ≤ 14 by omega) (show t + m * p ≤ 128 by omega)) (by decide)
/-- No part is great. -/
theorem gen_small {f : Nat → Bool} (hs : Small f) {x : Nat} (h : Gen f x) : x ≤ 128 := by
  rcases least_or f with ⟨m, hm⟩ | hno
  · have h15 := hm.small hs
    obtain ⟨t, p, ht, h1, h2⟩ := hs
    have e1 : m * p ≤ 15 * 8 := Nat.mul_le_mul h15 h2
    have e2 : 0 < m * p := Nat.mul_pos hm.pos ht.pos
    rcases Nat.lt_or_ge 128 x with k | k
    · exfalso
      have := per_rounds ht.per m (x - m * p) (by omega)
      rw [show x - m * p + m * p = x from by omega, h.1] at this
      refine (gen_iff.1 h).2.2 ⟨m * p, e2, by omega, ?_, star_one this.symm⟩
      rw [Nat.mul_comm]; exact star_mul hm.is p
    · exact k
  · have := h.1
    rw [hno x h.2.1] at this; cases this
theorem parts_all {f : Nat → Bool} (hs : Small f) {k j : Nat} (hk : 129 ≤ k) (hj : 129 ≤ j) : parts f k = parts f j := by
  have one : ∀ k, 129 ≤ k → parts f k = parts f 129 := fun k hk => by
    induction k with
    | zero => omega
    | succ k ih =>
      by_cases e : k = 128
      · subst e; rfl
      · rw [parts_succ, ih (by omega)]
        have : genB f k = false := by
          cases h : genB f k
          · rfl
          · have := gen_small hs (genB_iff.1 h); omega
        rw [this]; simp
  rw [one k hk, one j hj]
/-- The first part is the least number greater than 0. -/
theorem parts_head {f : Nat → Bool} (hs : Small f) {k p : Nat} {l : List Nat} (hk : 129 ≤ k) (h : parts f k = p :: l) : LeastIs f p := by
  have hm : p ∈ parts f k := by rw [h]; exact List.mem_cons_self ..
  have hg := (mem_parts.1 hm).2
  refine ⟨hg.2.1, hg.1, fun x h1 h2 => ?_⟩
  rcases least_or f with ⟨m, hl⟩ | hno
  · have h3 : m ∈ parts f k := mem_parts.2 ⟨by have := hl.small hs; omega, hl.gen⟩
    rw [h] at h3
    have h4 := parts_sorted f k
    rw [h] at h4
    have h5 := hl.least x h1 h2
    rcases List.mem_cons.1 h3 with e | e
    · omega
    · have := (List.pairwise_cons.1 h4).1 m e; omega
  · rw [hno x h1] at h2; cases h2
theorem parts_some {f : Nat → Bool} (hs : Small f) {m k : Nat} (h : LeastIs f m) (hk : 129 ≤ k) : ∃ l, parts f k = m :: l := by
  cases e : parts f k with
  | nil =>
    have : m ∈ parts f k := mem_parts.2 ⟨by have := h.small hs; omega, h.gen⟩
    rw [e] at this; cases this
  | cons p l =>
    obtain rfl := (parts_head hs hk e).unique h
    exact ⟨l, rfl⟩
/-- By what a star comes round. -/
theorem star_turns {f : Nat → Bool} (hs : Small f) : ∃ m, 0 < m ∧ m ≤ 15 ∧ ∀ n, 1792 ≤ n → starB f (n + m) = starB f n := by
  rcases least_or f with ⟨m, hm⟩ | hno
  · exact ⟨m, hm.pos, hm.small hs, hm.star hs⟩
  · refine ⟨1, by decide, by decide, fun n hn => ?_⟩
    rw [star_none hno]
    unfold zeroOnly
    rw [decide_eq_false (by omega), decide_eq_false (by omega)]
/-- n is the greatest number that is not there. -/
def GapIs (f : Nat → Bool) (n : Nat) : Prop := 1 ≤ n ∧ starB f n = false ∧ ∀ k, n < k → starB f k = true
theorem GapIs.unique {f : Nat → Bool} {n k : Nat} (h : GapIs f n) (h2 : GapIs f k) : n = k := by
  rcases Nat.lt_trichotomy n k with e | e | e
  · have a := h.2.2 k e; rw [h2.2.1] at a; cases a
  · exact e
  · have a := h2.2.2 n e; rw [h.2.1] at a; cases a
theorem star_all {f : Nat → Bool} (hs : Small f) {a : Nat} (ha : 1792 ≤ a) (h : ∀ k, a ≤ k → k < a + 15 → starB f k = true) (k : Nat) (hk : a ≤ k) : starB f k = true := by
  obtain ⟨m, h1, h2, h3⟩ := star_turns hs
  induction k using Nat.strongRecOn with
  | ind k ih =>
    rcases Nat.lt_or_ge k (a + 15) with e | e
    · exact h k hk e
    · have h4 := h3 (k - m) (by omega)
      rw [show k - m + m = k from by omega] at h4
      rw [h4]; exact ih (k - m) (by omega) (by omega)
theorem star_gaps {f : Nat → Bool} (hs : Small f) {n : Nat} (hn : 1792 ≤ n) (h : starB f n = false) : ¬ ∃ g, GapIs f g := by
  obtain ⟨m, h1, h2, h3⟩ := star_turns hs
  rintro ⟨g, hg⟩
  have h4 := per_rounds h3 (g + 1) n hn
  have h5 : g < n + (g + 1) * m := by
    have : g + 1 ≤ (g + 1) * m := Nat.le_mul_of_pos_right _ h1
    omega
  rw [hg.2.2 _ h5, h] at h4
  cases h4
/-- All sums of one number at least. -/
noncomputable def plusF (f : Nat → Bool) (n : Nat) : Bool := if n = 0 then f 0 else starB f n
theorem plusF_zero (f : Nat → Bool) : plusF f 0 = f 0 := rfl
theorem plusF_pos {f : Nat → Bool} {n : Nat} (h : 0 < n) : plusF f n = starB f n := by unfold plusF; rw [if_neg (by omega)]

end Go.Proofs.Ytojjfkabepkhdaa
