/-
  When a star comes round, how great its parts are, and its greatest gap: plain facts.
-/
import Derived.Test.YtonphojjlilcnaaStarMath
set_option linter.unusedVariables false
set_option linter.unusedSimpArgs false
namespace Go.Proofs.Ytonphojjlilcnaa

/-- More numbers than values: two of them have the same one. -/
theorem two_same (m : Nat) : ∀ f : Nat → Nat, (∀ i, i ≤ m → f i < m) → ∃ i j, i < j ∧ j ≤ m ∧ f i = f j := by
  induction m with
  | zero => intro f h; exact absurd (h 0 (Nat.le_refl _)) (Nat.not_lt_zero _)
  | succ m ih =>
    intro f h
    by_cases hx : ∃ i, i ≤ m ∧ f i = f (m + 1)
    · obtain ⟨i, h1, h2⟩ := hx
      exact ⟨i, m + 1, by omega, Nat.le_refl _, h2⟩
    · have hne : ∀ i, i ≤ m → f i ≠ f (m + 1) := fun i hi e => hx ⟨i, hi, e⟩
      have hv := h (m + 1) (Nat.le_refl _)
      obtain ⟨i, j, h1, h2, h3⟩ := ih (fun i => if f i = m then f (m + 1) else f i) (fun i hi => by
        have h4 := h i (by omega)
        have h5 := hne i hi
        show (if f i = m then f (m + 1) else f i) < m
        split <;> omega)
      have h4 := hne i (by omega)
      have h5 := hne j h2
      refine ⟨i, j, h1, by omega, ?_⟩
      split at h3 <;> split at h3 <;> omega

theorem take_sum (l : List Nat) (i : Nat) : (l.take i).sum + (l.drop i).sum = l.sum := by
  rw [← List.sum_append, List.take_append_drop]
theorem take_mono (l : List Nat) {i j : Nat} (h : i ≤ j) : (l.take i).sum ≤ (l.take j).sum := by
  have e : l.take j = l.take i ++ (l.take j).drop i := by
    have := List.take_append_drop i (l.take j)
    rw [List.take_take, Nat.min_eq_left h] at this
    exact this.symm
  rw [e, List.sum_append]; omega

/-- Fewer than m numbers, none of them great, leave the same rest by m, and are no more. -/
theorem few_numbers {f : Nat → Bool} {t p m : Nat} (hp : 0 < p) (hm : 0 < m) (hf : ∀ n, t ≤ n → f (n + p) = f n) : ∀ k (l : List Nat), l.length + l.sum ≤ k → (∀ x, x ∈ l → f x = true) →
    ∃ r : List Nat, (∀ x, x ∈ r → f x = true ∧ x < t + m * p) ∧ r.length < m ∧ r.sum ≤ l.sum ∧ ∃ q, r.sum + m * q = l.sum := by
  have hmp : 0 < m * p := Nat.mul_pos hm hp
  have hback : ∀ x, t + m * p ≤ x → f x = true → f (x - m * p) = true := fun x hx h => by
    have := per_rounds hf m (x - m * p) (by omega)
    rw [show x - m * p + m * p = x from by omega] at this
    rw [← this]; exact h
  intro k
  induction k with
  | zero =>
    intro l hl h
    have : l = [] := List.eq_nil_of_length_eq_zero (by omega)
    subst this
    exact ⟨[], (fun x hx => by cases hx), hm, Nat.le_refl _, 0, by simp⟩
  | succ k ih =>
    intro l hl h
    by_cases hx : ∃ x, x ∈ l ∧ t + m * p ≤ x
    · obtain ⟨x, h1, h2⟩ := hx
      have h3 := sum_erase h1
      have h4 : (l.erase x).length + 1 = l.length := by
        have := List.length_erase_of_mem h1
        have := List.length_pos_of_mem h1
        omega
      obtain ⟨r, r1, r2, r3, q, r4⟩ := ih ((x - m * p) :: l.erase x) (by rw [List.sum_cons, List.length_cons]; omega) (fun y hy => by
        rcases List.mem_cons.1 hy with rfl | hy
        · exact hback x h2 (h x h1)
        · exact h y (List.mem_of_mem_erase hy))
      rw [List.sum_cons] at r3 r4
      exact ⟨r, r1, r2, by omega, q + p, by rw [Nat.mul_add]; omega⟩
    · have hsm : ∀ x, x ∈ l → x < t + m * p := fun x h1 => by
        rcases Nat.lt_or_ge x (t + m * p) with e | e
        · exact e
        · exact absurd ⟨x, h1, e⟩ hx
      rcases Nat.lt_or_ge l.length m with hl2 | hl2
      · exact ⟨l, fun x h1 => ⟨h x h1, hsm x h1⟩, hl2, Nat.le_refl _, 0, by simp⟩
      · obtain ⟨i, j, h1, h2, h3⟩ := two_same m (fun i => (l.take i).sum % m) (fun i _ => Nat.mod_lt _ hm)
        have t1 := take_sum l j
        have t2 := take_mono l (Nat.le_of_lt h1)
        obtain ⟨q1, hq1⟩ : ∃ q1, (l.take j).sum = (l.take i).sum + m * q1 := by
          refine ⟨((l.take j).sum) / m - ((l.take i).sum) / m, ?_⟩
          have d1 := Nat.div_add_mod (l.take j).sum m
          have d2 := Nat.div_add_mod (l.take i).sum m
          have d3 : (l.take i).sum / m ≤ (l.take j).sum / m := Nat.div_le_div_right t2
          rw [Nat.mul_sub]
          have d4 : m * ((l.take i).sum / m) ≤ m * ((l.take j).sum / m) := Nat.mul_le_mul_left m d3
          omega
        obtain ⟨r, r1, r2, r3, q, r4⟩ := ih (l.take i ++ l.drop j) (by
            rw [List.length_append, List.length_take, List.length_drop, List.sum_append]; omega) (fun y hy => by
          rcases List.mem_append.1 hy with e | e
          · exact h y (List.mem_of_mem_take e)
          · exact h y (List.mem_of_mem_drop e))
        rw [List.sum_append] at r3 r4
        exact ⟨r, r1, r2, by omega, q + q1, by rw [Nat.mul_add]; omega⟩
theorem sum_bound {l : List Nat} {b : Nat} (h : ∀ x, x ∈ l → x ≤ b) : l.sum ≤ l.length * b := by
  induction l with
  | nil => simp
  | cons x l ih =>
    rw [List.sum_cons, List.length_cons, Nat.succ_mul]
    have h1 := h x (List.mem_cons_self ..)
    have h2 := ih fun y hy => h y (List.mem_cons_of_mem _ hy)
    omega
/-- From there on a star comes round by a number of the set. -/
theorem star_round {f : Nat → Bool} {t p m : Nat} (hp : 0 < p) (hm : 0 < m) (hf : ∀ n, t ≤ n → f (n + p) = f n) (hfm : f m = true) (n : Nat) (hn : (m - 1) * (t + m * p) ≤ n) : starB f (n + m) = starB f n := by
  apply bool_iff
  rw [starB_iff, starB_iff]
  constructor
  · rintro ⟨l, h1, h2⟩
    obtain ⟨r, r1, r2, r3, q, r4⟩ := few_numbers hp hm hf _ l (Nat.le_refl _) h1
    have h3 := sum_bound (l := r) (b := t + m * p) (fun x hx => by have := (r1 x hx).2; omega)
    have h4 : r.length * (t + m * p) ≤ (m - 1) * (t + m * p) := Nat.mul_le_mul_right _ (by omega)
    have h5 : 0 < q := by
      rcases Nat.eq_zero_or_pos q with rfl | h
      · rw [Nat.mul_zero] at r4; omega
      · exact h
    obtain ⟨q', rfl⟩ : ∃ q', q = q' + 1 := ⟨q - 1, by omega⟩
    rw [Nat.mul_add, Nat.mul_one] at r4
    have h6 := star_add (show Star f r.sum from ⟨r, fun x hx => (r1 x hx).1, rfl⟩) (star_mul hfm q')
    rw [show r.sum + q' * m = n from by rw [Nat.mul_comm q' m]; omega] at h6
    exact h6
  · intro h
    exact star_add h (star_one hfm)

/-- m is the least number of f greater than 0. -/
structure LeastIs (f : Nat → Bool) (m : Nat) : Prop where
  pos : 0 < m
  is : f m = true
  least : ∀ x, 0 < x → f x = true → m ≤ x
theorem LeastIs.gen {f : Nat → Bool} {m : Nat} (h : LeastIs f m) : Gen f m :=
  gen_iff.2 ⟨h.is, h.pos, by
    rintro ⟨y, h1, h2, h3, _⟩
    obtain ⟨x, k1, k2, k3, _⟩ := star_split h3 h1
    have := h.least x k2 k1
    omega⟩
theorem least_or (f : Nat → Bool) : (∃ m, LeastIs f m) ∨ ∀ x, 0 < x → f x = false := by
  by_cases h : ∃ x, 0 < x ∧ f x = true
  · left
    obtain ⟨x, h1, h2⟩ := h
    revert h1 h2
    induction x using Nat.strongRecOn with
    | ind x ih =>
      intro h1 h2
      by_cases h : ∃ y, y < x ∧ 0 < y ∧ f y = true
      · obtain ⟨y, k1, k2, k3⟩ := h; exact ih y k1 k2 k3
      · exact ⟨x, h1, h2, fun y k1 k2 => by
          rcases Nat.lt_or_ge y x with k | k
          · exact absurd ⟨y, k, k1, k2⟩ h
          · exact k⟩
  · right
    intro x hx
    cases e : f x
    · rfl
    · exact absurd ⟨x, hx, e⟩ h
theorem LeastIs.unique {f : Nat → Bool} {m k : Nat} (h : LeastIs f m) (h2 : LeastIs f k) : m = k := Nat.le_antisymm (h.least k h2.pos h2.is) (h2.least m h.pos h.is)
theorem LeastIs.small {f : Nat → Bool} {m : Nat} (h : LeastIs f m) (hs : Small f) : m ≤ 15 := by
  obtain ⟨t, p, ht, h1, h2⟩ := hs
  have h0 := ht.pos
  rcases Nat.lt_or_ge 15 m with k | k
  · have e := ht.per (m - p) (by omega)
    rw [show m - p + p = m from by omega, h.is] at e
    have := h.least (m - p) (by omega) e.symm
    omega
  · exact k
theorem star_none {f : Nat → Bool} (h : ∀ x, 0 < x → f x = false) : starB f = zeroOnly := by
  funext n
  rw [← starB_start f n]
  apply bool_iff
  rw [starB_iff, starB_iff]
  constructor
  · refine star_star fun x hx => ?_
    rcases Nat.eq_zero_or_pos x with rfl | k
    · exact star_zero _
    · rw [h x k] at hx; cases hx
  · exact star_mono fun x hx => (lessF_iff.1 hx).1
theorem parts_none {f : Nat → Bool} (h : ∀ x, 0 < x → f x = false) (k : Nat) : parts f k = [] := by
  rcases List.eq_nil_or_concat (parts f k) with e | ⟨l, p, e⟩
  · exact e
  · have : p ∈ parts f k := by rw [e]; simp
    have h1 := (mem_parts.1 this).2
    have h2 := h1.1
    rw [h p h1.2.1] at h2
    cases h2
theorem LeastIs.star {f : Nat → Bool} {m : Nat} (h : LeastIs f m) (hs : Small f) (n : Nat) (hn : 1792 ≤ n) : starB f (n + m) = starB f n := by
  have hm := h.small hs
  obtain ⟨t, p, ht, h1, h2⟩ := hs
  refine star_round ht.pos h.pos ht.per h.is n (Nat.le_trans ?_ hn)
  have e1 : m * p ≤ 15 * 8 := Nat.mul_le_mul hm h2
  exact Nat.le_trans (Nat.mul_le_mul (show m - 1 ≤ 14 by omega) (show t + m * p ≤ 128 by omega)) (by decide)
/-- No part is great. -/
theorem gen_small {f : Nat → Bool} (hs : Small f) {x : Nat} (h : Gen f x) : x ≤ 128 := by
  rcases least_or f with ⟨m, hm⟩ | hno
  · have h15 := hm.small hs
    obtain ⟨t, p, ht, h1, h2⟩ := hs
    have e1 : m * p ≤ 15 * 8 := Nat.mul_le_mul h15 h2
    have e2 : 0 < m * p := Nat.mul_pos hm.pos ht.pos
    rcases Nat.lt_or_ge 128 x with k | k
    · exfalso
      have := per_rounds ht.per m (x - m * p) (by omega)
      rw [show x - m * p + m * p = x from by omega, h.1] at this
      refine (gen_iff.1 h).2.2 ⟨m * p, e2, by omega, ?_, star_one this.symm⟩
      rw [Nat.mul_comm]; exact star_mul hm.is p
    · exact k
  · have := h.1
    rw [hno x h.2.1] at this; cases this
theorem parts_all {f : Nat → Bool} (hs : Small f) {k j : Nat} (hk : 129 ≤ k) (hj : 129 ≤ j) : parts f k = parts f j := by
  have one : ∀ k, 129 ≤ k → parts f k = parts f 129 := fun k hk => by
    induction k with
    | zero => omega
    | succ k ih =>
      by_cases e : k = 128
      · subst e; rfl
      · rw [parts_succ, ih (by omega)]
        have : genB f k = false := by
          cases h : genB f k
          · rfl
          · have := gen_small hs (genB_iff.1 h); omega
        rw [this]; simp
  rw [one k hk, one j hj]
/-- The first part is the least number greater than 0. -/
theorem parts_head {f : Nat → Bool} (hs : Small f) {k p : Nat} {l : List Nat} (hk : 129 ≤ k) (h : parts f k = p :: l) : LeastIs f p := by
  have hm : p ∈ parts f k := by rw [h]; exact List.mem_cons_self ..
  have hg := (mem_parts.1 hm).2
  refine ⟨hg.2.1, hg.1, fun x h1 h2 => ?_⟩
  rcases least_or f with ⟨m, hl⟩ | hno
  · have h3 : m ∈ parts f k := mem_parts.2 ⟨by have := hl.small hs; omega, hl.gen⟩
    rw [h] at h3
    have h4 := parts_sorted f k
    rw [h] at h4
    have h5 := hl.least x h1 h2
    rcases List.mem_cons.1 h3 with e | e
    · omega
    · have := (List.pairwise_cons.1 h4).1 m e; omega
  · rw [hno x h1] at h2; cases h2
theorem parts_some {f : Nat → Bool} (hs : Small f) {m k : Nat} (h : LeastIs f m) (hk : 129 ≤ k) : ∃ l, parts f k = m :: l := by
  cases e : parts f k with
  | nil =>
    have : m ∈ parts f k := mem_parts.2 ⟨by have := h.small hs; omega, h.gen⟩
    rw [e] at this; cases this
  | cons p l =>
    obtain rfl := (parts_head hs hk e).unique h
    exact ⟨l, rfl⟩
/-- By what a star comes round. -/
theorem star_turns {f : Nat → Bool} (hs : Small f) : ∃ m, 0 < m ∧ m ≤ 15 ∧ ∀ n, 1792 ≤ n → starB f (n + m) = starB f n := by
  rcases least_or f with ⟨m, hm⟩ | hno
  · exact ⟨m, hm.pos, hm.small hs, hm.star hs⟩
  · refine ⟨1, by decide, by decide, fun n hn => ?_⟩
    rw [star_none hno]
    unfold zeroOnly
    rw [decide_eq_false (by omega), decide_eq_false (by omega)]
/-- n is the greatest number that is not there. -/
def GapIs (f : Nat → Bool) (n : Nat) : Prop := 1 ≤ n ∧ starB f n = false ∧ ∀ k, n < k → starB f k = true
theorem GapIs.unique {f : Nat → Bool} {n k : Nat} (h : GapIs f n) (h2 : GapIs f k) : n = k := by
  rcases Nat.lt_trichotomy n k with e | e | e
  · have a := h.2.2 k e; rw [h2.2.1] at a; cases a
  · exact e
  · have a := h2.2.2 n e; rw [h.2.1] at a; cases a
theorem star_all {f : Nat → Bool} (hs : Small f) {a : Nat} (ha : 1792 ≤ a) (h : ∀ k, a ≤ k → k < a + 15 → starB f k = true) (k : Nat) (hk : a ≤ k) : starB f k = true := by
  obtain ⟨m, h1, h2, h3⟩ := star_turns hs
  induction k using Nat.strongRecOn with
  | ind k ih =>
    rcases Nat.lt_or_ge k (a + 15) with e | e
    · exact h k hk e
    · have h4 := h3 (k - m) (by omega)
      rw [show k - m + m = k from by omega] at h4
      rw [h4]; exact ih (k - m) (by omega) (by omega)
theorem star_gaps {f : Nat → Bool} (hs : Small f) {n : Nat} (hn : 1792 ≤ n) (h : starB f n = false) : ¬ ∃ g, GapIs f g := by
  obtain ⟨m, h1, h2, h3⟩ := star_turns hs
  rintro ⟨g, hg⟩
  have h4 := per_rounds h3 (g + 1) n hn
  have h5 : g < n + (g + 1) * m := by
    have : g + 1 ≤ (g + 1) * m := Nat.le_mul_of_pos_right _ h1
    omega
  rw [hg.2.2 _ h5, h] at h4
  cases h4
/-- All sums of one number at least. -/
noncomputable def plusF (f : Nat → Bool) (n : Nat) : Bool := if n = 0 then f 0 else starB f n
theorem plusF_zero (f : Nat → Bool) : plusF f 0 = f 0 := rfl
theorem plusF_pos {f : Nat → Bool} {n : Nat} (h : 0 < n) : plusF f n = starB f n := by unfold plusF; rw [if_neg (by omega)]

end Go.Proofs.Ytonphojjlilcnaa
