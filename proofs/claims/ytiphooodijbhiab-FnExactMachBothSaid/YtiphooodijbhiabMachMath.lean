/-
  Machines: what one step does to a set of states, where one is after so many steps, when that comes again; machines that are turned, of sets, of pairs: plain facts.
-/
import Derived.Test.YtiphooodijbhiabTidyText
import Derived.Laws.BitsLemmas
namespace Go.Proofs.Ytiphooodijbhiab
open Go

/-- All states to which one may step from those of a set, by the first k states. -/
def stepN (l : List Nat) (s : Nat) : Nat → Nat
  | 0 => 0
  | k + 1 => if s.testBit k then stepN l s k ||| l.getD k 0 else stepN l s k
def step1 (l : List Nat) (s : Nat) : Nat := stepN l s l.length
/-- The set after so many steps. -/
def afterN (l : List Nat) (s : Nat) : Nat → Nat
  | 0 => s
  | k + 1 => step1 l (afterN l s k)
/-- Is a number taken? -/
def takesF (l : List Nat) (b e k : Nat) : Bool := afterN l b k &&& e != 0

structure GoodL (l : List Nat) (n : Nat) : Prop where
  len : l.length = n
  lt : ∀ i, l.getD i 0 < 2 ^ n

theorem stepN_lt {l : List Nat} {n : Nat} (h : GoodL l n) (s k : Nat) : stepN l s k < 2 ^ n := by
  induction k with
  | zero => exact Nat.two_pow_pos n
  | succ k ih =>
    unfold stepN
    split
    · exact Nat.or_lt_two_pow ih (h.lt k)
    · exact ih
theorem step1_lt {l : List Nat} {n : Nat} (h : GoodL l n) (s : Nat) : step1 l s < 2 ^ n := stepN_lt h s _
theorem after_lt {l : List Nat} {n : Nat} (h : GoodL l n) {s : Nat} (hs : s < 2 ^ n) (k : Nat) : afterN l s k < 2 ^ n := by
  cases k with
  | zero => exact hs
  | succ k => exact step1_lt h _
theorem after_step (l : List Nat) (s k : Nat) : afterN l s (k + 1) = step1 l (afterN l s k) := rfl
theorem after_front (l : List Nat) (s k : Nat) : afterN l s (k + 1) = afterN l (step1 l s) k := by
  induction k with
  | zero => rfl
  | succ k ih => rw [after_step, ih]; rfl

/-- From p on all comes again behind q more, and nothing does ahead of it. -/
structure Comes (g : Nat → Nat) (p q : Nat) : Prop where
  pos : 0 < q
  back : g (p + q) = g p
  dist : ∀ i j, i < j → j < p + q → g i ≠ g j

theorem comes_unique {g : Nat → Nat} {p q p' q' : Nat} (h : Comes g p q) (h' : Comes g p' q') : p = p' ∧ q = q' := by
  have a1 := h.pos
  have a2 := h'.pos
  have e : p + q = p' + q' := by
    rcases Nat.lt_trichotomy (p + q) (p' + q') with k | k | k
    · exact absurd h.back.symm (h'.dist p (p + q) (by omega) k)
    · exact k
    · exact absurd h'.back.symm (h.dist p' (p' + q') (by omega) k)
  have e2 : g p = g p' := by rw [← h.back, ← h'.back, e]
  have e3 : p = p' := by
    rcases Nat.lt_trichotomy p p' with k | k | k
    · exact absurd e2 (h.dist p p' k (by omega))
    · exact k
    · exact absurd e2.symm (h.dist p' p k (by omega))
  omega

/-- More numbers than values: two of them have the same one. -/
theorem two_alike (m : Nat) : ∀ f : Nat → Nat, (∀ i, i ≤ m → f i < m) → ∃ i j, i < j ∧ j ≤ m ∧ f i = f j := by
  induction m with
  | zero => intro f h; exact absurd (h 0 (Nat.le_refl _)) (Nat.not_lt_zero _)
  | succ m ih =>
    intro f h
    by_cases hx : ∃ i, i ≤ m ∧ f i = f (m + 1)
    · obtain ⟨i, h1, h2⟩ := hx
      exact ⟨i, m + 1, by omega, Nat.le_refl _, h2⟩
    · have hne : ∀ i, i ≤ m → f i ≠ f (m + 1) := fun i hi e => hx ⟨i, hi, e⟩
      have hv := h (m + 1) (Nat.le_refl _)
      obtain ⟨i, j, h1, h2, h3⟩ := ih (fun i => if f i = m then f (m + 1) else f i) (fun i hi => by
        have h4 := h i (by omega)
        have h5 := hne i hi
        show (if f i = m then f (m + 1) else f i) < m
        split <;> omega)
      have h4 := hne i (by omega)
      have h5 := hne j h2
      refine ⟨i, j, h1, by omega, ?_⟩
      split at h3 <;> split at h3 <;> omega

theorem comes_there (g : Nat → Nat) (m : Nat) (h : ∀ i, g i < m) : ∃ p q, Comes g p q ∧ p + q ≤ m := by
  obtain ⟨i, j, h1, h2, h3⟩ := two_alike m g (fun i _ => h i)
  have key : ∀ j, j ≤ m → (∃ i, i < j ∧ g i = g j) → ∃ p q, Comes g p q ∧ p + q ≤ m := by
    intro j
    induction j using Nat.strongRecOn with
    | ind j ih =>
      intro hj ⟨i, hi, e⟩
      by_cases hx : ∃ j', j' < j ∧ ∃ i', i' < j' ∧ g i' = g j'
      · obtain ⟨j', hj', i', hi', e'⟩ := hx
        exact ih j' hj' (by omega) ⟨i', hi', e'⟩
      · refine ⟨i, j - i, ⟨by omega, by rw [show i + (j - i) = j from by omega]; exact e.symm, fun x y hxy hy e' => hx ⟨y, by omega, x, hxy, e'⟩⟩, by omega⟩
  exact key j h2 ⟨i, h1, h3⟩

theorem comes_again {l : List Nat} {s p q : Nat} (h : Comes (afterN l s) p q) : ∀ n, p ≤ n → afterN l s (n + q) = afterN l s n := by
  intro n hn
  induction n with
  | zero =>
    have := h.back
    rw [show p = 0 from by omega] at this
    exact this
  | succ n ih =>
    rcases Nat.lt_or_ge n p with k | k
    · have e : p = n + 1 := by omega
      rw [← e]; exact h.back
    · rw [show n + 1 + q = (n + q) + 1 from by omega, after_step, after_step, ih k]

/-- Is the bit of a state there? By a part of the states. -/
theorem stepN_bit (l : List Nat) (s k j : Nat) : (stepN l s k).testBit j = true ↔ ∃ i, i < k ∧ s.testBit i = true ∧ (l.getD i 0).testBit j = true := by
  induction k with
  | zero => simp [stepN]
  | succ k ih =>
    unfold stepN
    split
    · rename_i hb
      rw [Nat.testBit_or, Bool.or_eq_true, ih]
      constructor
      · rintro (⟨i, h1, h2⟩ | h)
        · exact ⟨i, by omega, h2⟩
        · exact ⟨k, by omega, hb, h⟩
      · rintro ⟨i, h1, h2, h3⟩
        by_cases e : i = k
        · right; rw [← e]; exact h3
        · exact .inl ⟨i, by omega, h2, h3⟩
    · rename_i hb
      rw [ih]
      constructor
      · rintro ⟨i, h1, h2⟩; exact ⟨i, by omega, h2⟩
      · rintro ⟨i, h1, h2, h3⟩
        by_cases e : i = k
        · rw [e] at h2; exact absurd h2 hb
        · exact ⟨i, by omega, h2, h3⟩
theorem step1_bit (l : List Nat) (s j : Nat) : (step1 l s).testBit j = true ↔ ∃ i, s.testBit i = true ∧ (l.getD i 0).testBit j = true := by
  unfold step1
  rw [stepN_bit]
  constructor
  · rintro ⟨i, _, h⟩; exact ⟨i, h⟩
  · rintro ⟨i, h1, h2⟩
    rcases Nat.lt_or_ge i l.length with k | k
    · exact ⟨i, k, h1, h2⟩
    · rw [List.getD_eq_getElem?_getD, List.getElem?_eq_none k] at h2
      simp at h2

theorem and_bit (a b : Nat) : (a &&& b != 0) = true ↔ ∃ j, a.testBit j = true ∧ b.testBit j = true := by
  rw [bne_iff_ne]
  constructor
  · intro h
    obtain ⟨j, hj⟩ := Nat.exists_testBit_of_ne_zero h
    rw [Nat.testBit_and, Bool.and_eq_true] at hj
    exact ⟨j, hj⟩
  · rintro ⟨j, h1, h2⟩ e
    have : (a &&& b).testBit j = true := by rw [Nat.testBit_and, h1, h2]; rfl
    rw [e] at this; simp at this

/-! Turned machines. -/
/-- The k-th set of the turned machine, by the first i states. -/
def turnK (l : List Nat) (k : Nat) : Nat → Nat
  | 0 => 0
  | i + 1 => if (l.getD i 0).testBit k then turnK l k i ||| 2 ^ i else turnK l k i
def turnL (l : List Nat) : List Nat := (List.range l.length).map fun k => turnK l k l.length

theorem turnL_length (l : List Nat) : (turnL l).length = l.length := by simp [turnL]
theorem turnL_getD (l : List Nat) (k : Nat) (h : k < l.length) : (turnL l).getD k 0 = turnK l k l.length := by
  simp [turnL, List.getD_eq_getElem?_getD, h]
theorem turnK_bit (l : List Nat) (k i j : Nat) : (turnK l k i).testBit j = (decide (j < i) && (l.getD j 0).testBit k) := by
  induction i with
  | zero => simp [turnK]
  | succ i ih =>
    unfold turnK
    split
    · rename_i hb
      rw [Nat.testBit_or, ih, Nat.testBit_two_pow]
      by_cases e : i = j
      · subst e; simp at hb ⊢; exact hb
      · have : (decide (j < i + 1)) = decide (j < i) := decide_eq_decide.2 (by omega)
        rw [this, decide_eq_false e, Bool.or_false]
    · rename_i hb
      rw [ih]
      by_cases e : i = j
      · subst e; simp at hb ⊢; exact hb
      · have : (decide (j < i + 1)) = decide (j < i) := decide_eq_decide.2 (by omega)
        rw [this]
theorem turnK_lt (l : List Nat) (k i n : Nat) (h : i ≤ n) : turnK l k i < 2 ^ n := by
  induction i with
  | zero => exact Nat.two_pow_pos n
  | succ i ih =>
    unfold turnK
    split
    · exact Nat.or_lt_two_pow (ih (by omega)) (Nat.pow_lt_pow_right (by decide) (by omega))
    · exact ih (by omega)
theorem getD_none {l : List Nat} {i : Nat} (h : l.length ≤ i) : l.getD i 0 = 0 := by
  rw [List.getD_eq_getElem?_getD, List.getElem?_eq_none h]; rfl
theorem turnL_good (l : List Nat) : GoodL (turnL l) l.length := by
  refine ⟨turnL_length l, fun i => ?_⟩
  rcases Nat.lt_or_ge i l.length with k | k
  · rw [turnL_getD l i k]; exact turnK_lt l i _ _ (Nat.le_refl _)
  · rw [getD_none (by rw [turnL_length]; exact k)]; exact Nat.two_pow_pos _
theorem turnL_bit {l : List Nat} {n : Nat} (h : GoodL l n) (k j : Nat) : ((turnL l).getD k 0).testBit j = (l.getD j 0).testBit k := by
  rcases Nat.lt_or_ge k l.length with hk | hk
  · rw [turnL_getD l k hk, turnK_bit]
    rcases Nat.lt_or_ge j l.length with hj | hj
    · rw [decide_eq_true hj]; rfl
    · rw [decide_eq_false (by omega), getD_none hj]; simp
  · rw [getD_none (by rw [turnL_length]; exact hk)]
    rw [h.len] at hk
    rw [Nat.testBit_lt_two_pow (Nat.lt_of_lt_of_le (h.lt j) (Nat.pow_le_pow_right (by decide) hk))]
    simp
theorem turn_step {l : List Nat} {n : Nat} (h : GoodL l n) (s t : Nat) : (step1 l s &&& t != 0) = (step1 (turnL l) t &&& s != 0) := by
  rw [Bool.eq_iff_iff, and_bit, and_bit]
  constructor
  · rintro ⟨j, h1, h2⟩
    obtain ⟨i, h3, h4⟩ := (step1_bit l s j).1 h1
    exact ⟨i, (step1_bit _ t i).2 ⟨j, h2, by rw [turnL_bit h]; exact h4⟩, h3⟩
  · rintro ⟨i, h1, h2⟩
    obtain ⟨j, h3, h4⟩ := (step1_bit _ t i).1 h1
    rw [turnL_bit h] at h4
    exact ⟨j, (step1_bit l s j).2 ⟨i, h2, h4⟩, h3⟩
theorem turn_takes {l : List Nat} {n : Nat} (h : GoodL l n) (k : Nat) : ∀ b e, takesF (turnL l) e b k = takesF l b e k := by
  unfold takesF
  induction k with
  | zero => intro b e; show (e &&& b != 0) = (b &&& e != 0); rw [Nat.and_comm]
  | succ k ih =>
    intro b e
    rw [after_front, after_step]
    rw [ih b (step1 (turnL l) e), turn_step h, Nat.and_comm]
theorem turn_twice {l : List Nat} {n : Nat} (h : GoodL l n) : turnL (turnL l) = l := by
  apply List.ext_getElem?
  intro i
  rcases Nat.lt_or_ge i l.length with hi | hi
  · have e : (turnL (turnL l)).getD i 0 = l.getD i 0 := by
      apply Nat.eq_of_testBit_eq
      intro j
      rw [turnL_bit (turnL_good l), turnL_bit h]
    rw [List.getD_eq_getElem?_getD, List.getD_eq_getElem?_getD, List.getElem?_eq_getElem (by simp [turnL_length]; exact hi), List.getElem?_eq_getElem hi] at e
    rw [List.getElem?_eq_getElem (by simp [turnL_length]; exact hi), List.getElem?_eq_getElem hi]
    simpa using e
  · rw [List.getElem?_eq_none (by simp [turnL_length]; exact hi), List.getElem?_eq_none hi]

/-! Single machines. -/
def oneS (x : Nat) : Bool := x == 1 || x == 2 || x == 4 || x == 8 || x == 16
theorem one_pow {x : Nat} (h : oneS x = true) : ∃ i, i < 5 ∧ x = 2 ^ i := by
  unfold oneS at h
  simp only [Bool.or_eq_true, beq_iff_eq] at h
  rcases h with (((h | h) | h) | h) | h
  · exact ⟨0, by decide, h⟩
  · exact ⟨1, by decide, h⟩
  · exact ⟨2, by decide, h⟩
  · exact ⟨3, by decide, h⟩
  · exact ⟨4, by decide, h⟩
theorem step_pow {l : List Nat} {i : Nat} : step1 l (2 ^ i) = l.getD i 0 := by
  apply Nat.eq_of_testBit_eq
  intro j
  rw [Bool.eq_iff_iff, step1_bit]
  constructor
  · rintro ⟨k, h1, h2⟩
    rw [Nat.testBit_two_pow] at h1
    rw [of_decide_eq_true h1]; exact h2
  · intro h
    exact ⟨i, by rw [Nat.testBit_two_pow, decide_eq_true rfl], h⟩
theorem single_after {l : List Nat} {s n : Nat} (h : GoodL l n) (hl : ∀ i, i < n → oneS (l.getD i 0) = true) (hs : oneS s = true) (hlt : s < 2 ^ n) (k : Nat) : oneS (afterN l s k) = true := by
  induction k with
  | zero => exact hs
  | succ k ih =>
    obtain ⟨i, _, hi⟩ := one_pow ih
    have h1 := after_lt h hlt k
    rw [after_step, hi, step_pow]
    rw [hi] at h1
    exact hl i ((Nat.pow_lt_pow_iff_right (by decide)).1 h1)
theorem one_and : ∀ x : Fin 32, oneS x.val = (decide (x.val ≠ 0) && (x.val &&& (x.val - 1) == 0)) := by decide +kernel

/-- The place of a state in the ring. -/
def placeM (m q k : Nat) : Nat := if k < m then k else m + (k - m) % q
theorem placeM_lt {m q : Nat} (hq : 0 < q) (k : Nat) : placeM m q k < m + q := by
  unfold placeM
  have := Nat.mod_lt (k - m) hq
  split <;> omega
theorem placeM_self {m q k : Nat} (h : k < m + q) : placeM m q k = k := by
  unfold placeM
  split
  · rfl
  · rw [Nat.mod_eq_of_lt (by omega)]; omega
/-! Machines of sets. -/
def ofL (m q : Nat) : List Nat := (List.range (m + q)).map fun i => if i + 1 = m + q then 2 ^ m else 2 ^ (i + 1)
/-- The set of states of signs 1, by the first k. -/
def ofE (f : Nat → Bool) : Nat → Nat
  | 0 => 0
  | k + 1 => if f k then ofE f k ||| 2 ^ k else ofE f k
theorem ofL_length (m q : Nat) : (ofL m q).length = m + q := by simp [ofL]
theorem ofL_getD {m q i : Nat} (h : i < m + q) : (ofL m q).getD i 0 = if i + 1 = m + q then 2 ^ m else 2 ^ (i + 1) := by
  simp [ofL, List.getD_eq_getElem?_getD, h]
theorem ofL_good {m q : Nat} (hq : 0 < q) : GoodL (ofL m q) (m + q) := by
  refine ⟨ofL_length m q, fun i => ?_⟩
  rcases Nat.lt_or_ge i (m + q) with k | k
  · rw [ofL_getD k]
    split
    · exact Nat.pow_lt_pow_right (by decide) (by omega)
    · exact Nat.pow_lt_pow_right (by decide) (by omega)
  · rw [getD_none (by rw [ofL_length]; exact k)]; exact Nat.two_pow_pos _
theorem ofE_lt (f : Nat → Bool) (k n : Nat) (h : k ≤ n) : ofE f k < 2 ^ n := by
  induction k with
  | zero => exact Nat.two_pow_pos n
  | succ k ih =>
    unfold ofE
    split
    · exact Nat.or_lt_two_pow (ih (by omega)) (Nat.pow_lt_pow_right (by decide) (by omega))
    · exact ih (by omega)
theorem ofE_bit (f : Nat → Bool) (k j : Nat) : (ofE f k).testBit j = (decide (j < k) && f j) := by
  induction k with
  | zero => simp [ofE]
  | succ k ih =>
    unfold ofE
    split
    · rename_i hb
      rw [Nat.testBit_or, ih, Nat.testBit_two_pow]
      by_cases e : k = j
      · subst e; simp at hb ⊢; exact hb
      · have : (decide (j < k + 1)) = decide (j < k) := decide_eq_decide.2 (by omega)
        rw [this, decide_eq_false e, Bool.or_false]
    · rename_i hb
      rw [ih]
      by_cases e : k = j
      · subst e; simp at hb ⊢; exact hb
      · have : (decide (j < k + 1)) = decide (j < k) := decide_eq_decide.2 (by omega)
        rw [this]
theorem placeM_succ {m q k : Nat} (hq : 0 < q) : placeM m q (k + 1) = if placeM m q k + 1 = m + q then m else placeM m q k + 1 := by
  unfold placeM
  by_cases h1 : k + 1 < m
  · rw [if_pos h1, if_pos (show k < m by omega), if_neg (show ¬ k + 1 = m + q by omega)]
  · rw [if_neg h1]
    by_cases h2 : k < m
    · rw [if_pos h2, show k + 1 - m = 0 from by omega, Nat.zero_mod]
      split <;> omega
    · rw [if_neg h2, show k + 1 - m = (k - m) + 1 from by omega]
      have h3 := Nat.mod_lt (k - m) hq
      have h4 : (k - m + 1) % q = if (k - m) % q + 1 = q then 0 else (k - m) % q + 1 := by
        rw [Nat.add_mod]
        by_cases hq1 : q = 1
        · subst hq1; simp [Nat.mod_one]
        · rw [Nat.mod_eq_of_lt (show 1 < q by omega)]
          split
          · rename_i e; rw [e, Nat.mod_self]
          · exact Nat.mod_eq_of_lt (by omega)
      rw [h4]
      split <;> split <;> omega
theorem of_after {m q : Nat} (hq : 0 < q) (k : Nat) : afterN (ofL m q) 1 k = 2 ^ placeM m q k := by
  induction k with
  | zero =>
    show 1 = _
    have : placeM m q 0 = 0 := by
      unfold placeM
      split
      · rfl
      · rw [Nat.zero_sub, Nat.zero_mod]
        omega
    rw [this]
  | succ k ih =>
    rw [after_step, ih, step_pow, placeM_succ hq]
    have hlt : placeM m q k < m + q := by
      unfold placeM
      have := Nat.mod_lt (k - m) hq
      split <;> omega
    rw [ofL_getD hlt]
    split <;> rfl
theorem of_takes {f : Nat → Bool} {m q : Nat} (hq : 0 < q) (hper : ∀ n, m ≤ n → f (n + q) = f n) (k : Nat) : takesF (ofL m q) 1 (ofE f (m + q)) k = f k := by
  unfold takesF
  rw [of_after hq]
  have hlt : placeM m q k < m + q := by
    unfold placeM
    have := Nat.mod_lt (k - m) hq
    split <;> omega
  have hf : f (placeM m q k) = f k := by
    unfold placeM
    split
    · rfl
    · have e := Nat.div_add_mod (k - m) q
      have : ∀ j, f (m + (k - m) % q + j * q) = f (m + (k - m) % q) := by
        intro j
        induction j with
        | zero => simp
        | succ j ih => rw [Nat.succ_mul, ← Nat.add_assoc, hper _ (by omega), ih]
      rw [← this ((k - m) / q)]
      congr 1
      rw [Nat.mul_comm] at e
      omega
  rw [Bool.eq_iff_iff, and_bit]
  constructor
  · rintro ⟨j, h1, h2⟩
    rw [Nat.testBit_two_pow] at h1
    rw [ofE_bit, Bool.and_eq_true] at h2
    rw [← hf, of_decide_eq_true h1]; exact h2.2
  · intro h
    exact ⟨placeM m q k, by rw [Nat.testBit_two_pow, decide_eq_true rfl], by rw [ofE_bit, decide_eq_true hlt, hf, h]; rfl⟩
theorem oneS_pow : ∀ i : Fin 5, oneS (2 ^ i.val) = true := by decide +kernel
theorem of_single {m q : Nat} (hq : 0 < q) (h5 : m + q ≤ 5) (i : Nat) (hi : i < m + q) : oneS ((ofL m q).getD i 0) = true := by
  rw [ofL_getD hi]
  split
  · exact oneS_pow ⟨m, by omega⟩
  · exact oneS_pow ⟨i + 1, by omega⟩

/-! Machines of pairs. -/
/-- All pairs of a state of one set, by the first k states, and one of another set, of n states. -/
def pairK (a b n : Nat) : Nat → Nat
  | 0 => 0
  | k + 1 => if a.testBit k then pairK a b n k ||| b * 2 ^ (n * k) else pairK a b n k
def pairN (a b n : Nat) : Nat := pairK a b n 5
theorem mul_bit (b k j : Nat) : (b * 2 ^ k).testBit j = (decide (k ≤ j) && b.testBit (j - k)) := by
  rw [← Nat.shiftLeft_eq, Nat.testBit_shiftLeft]
theorem pairK_bit {a b n : Nat} (hn : 0 < n) (hb : b < 2 ^ n) (k j : Nat) : (pairK a b n k).testBit j = (decide (j / n < k) && a.testBit (j / n) && b.testBit (j % n)) := by
  have hdm := Nat.div_add_mod j n
  have hml := Nat.mod_lt j hn
  induction k with
  | zero => simp [pairK]
  | succ k ih =>
    have hnew : (b * 2 ^ (n * k)).testBit j = (decide (j / n = k) && b.testBit (j % n)) := by
      rw [mul_bit]
      by_cases e : j / n = k
      · have e2 : n * (j / n) = n * k := by rw [e]
        rw [decide_eq_true e, decide_eq_true (by omega), show j - n * k = j % n from by omega]
      · rw [decide_eq_false e, Bool.false_and]
        rcases Nat.lt_or_ge j (n * k) with h | h
        · rw [decide_eq_false (by omega)]; rfl
        · have h2 : k ≤ j / n := (Nat.le_div_iff_mul_le hn).2 (by rw [Nat.mul_comm]; exact h)
          have h3 : n * (k + 1) ≤ n * (j / n) := Nat.mul_le_mul_left n (by omega)
          rw [Nat.mul_succ] at h3
          rw [Nat.testBit_lt_two_pow (Nat.lt_of_lt_of_le hb (Nat.pow_le_pow_right (by decide) (show n ≤ j - n * k by omega))), Bool.and_false]
    unfold pairK
    split
    · rename_i ha
      rw [Nat.testBit_or, ih, hnew]
      by_cases e : j / n = k
      · rw [e, decide_eq_true (show k < k + 1 by omega), decide_eq_false (show ¬ k < k by omega), ha]; simp
      · rw [decide_eq_false e, show decide (j / n < k + 1) = decide (j / n < k) from decide_eq_decide.2 (by omega)]; simp
    · rename_i ha
      rw [ih]
      by_cases e : j / n = k
      · rw [e]; simp [ha]
      · rw [show decide (j / n < k + 1) = decide (j / n < k) from decide_eq_decide.2 (by omega)]
theorem pairN_bit {a b n : Nat} (hn : 0 < n) (hb : b < 2 ^ n) (ha : a < 2 ^ 5) (j : Nat) : (pairN a b n).testBit j = (a.testBit (j / n) && b.testBit (j % n)) := by
  unfold pairN
  rw [pairK_bit hn hb]
  rcases Nat.lt_or_ge (j / n) 5 with h | h
  · rw [decide_eq_true h]; simp
  · rw [Nat.testBit_lt_two_pow (Nat.lt_of_lt_of_le ha (Nat.pow_le_pow_right (by decide) h))]; simp
/-- The same, sign by sign. -/
def pairS (a b n : Nat) : Nat → Nat
  | 0 => 0
  | k + 1 => if a.testBit (k / n) && b.testBit (k % n) then pairS a b n k ||| 2 ^ k else pairS a b n k
theorem pairS_bit (a b n k j : Nat) : (pairS a b n k).testBit j = (decide (j < k) && (a.testBit (j / n) && b.testBit (j % n))) := by
  induction k with
  | zero => simp [pairS]
  | succ k ih =>
    unfold pairS
    split
    · rename_i hb
      rw [Nat.testBit_or, ih, Nat.testBit_two_pow]
      by_cases e : k = j
      · subst e; rw [hb]; simp
      · have : (decide (j < k + 1)) = decide (j < k) := decide_eq_decide.2 (by omega)
        rw [this, decide_eq_false e, Bool.or_false]
    · rename_i hb
      rw [ih]
      by_cases e : k = j
      · subst e; rw [Bool.eq_false_iff.2 hb]; simp
      · have : (decide (j < k + 1)) = decide (j < k) := decide_eq_decide.2 (by omega)
        rw [this]
theorem pairS_lt (a b n k x : Nat) (h : k ≤ x) : pairS a b n k < 2 ^ x := by
  induction k with
  | zero => exact Nat.two_pow_pos x
  | succ k ih =>
    unfold pairS
    split
    · exact Nat.or_lt_two_pow (ih (by omega)) (Nat.pow_lt_pow_right (by decide) (by omega))
    · exact ih (by omega)
theorem pairS_is {a b n x : Nat} (hn : 0 < n) (hb : b < 2 ^ n) (ha : a < 2 ^ x) (hx : x ≤ 5) : pairS a b n (x * n) = pairN a b n := by
  apply Nat.eq_of_testBit_eq
  intro j
  rw [pairS_bit, pairN_bit hn hb (Nat.lt_of_lt_of_le ha (Nat.pow_le_pow_right (by decide) hx))]
  rcases Nat.lt_or_ge j (x * n) with h | h
  · rw [decide_eq_true h]; rfl
  · have : x ≤ j / n := (Nat.le_div_iff_mul_le hn).2 h
    rw [Nat.testBit_lt_two_pow (Nat.lt_of_lt_of_le ha (Nat.pow_le_pow_right (by decide) this))]; simp
theorem pairN_lt {a b n x : Nat} (hn : 0 < n) (hb : b < 2 ^ n) (ha : a < 2 ^ x) (hx : x ≤ 5) : pairN a b n < 2 ^ (x * n) := by
  rw [← pairS_is hn hb ha hx]; exact pairS_lt _ _ _ _ _ (Nat.le_refl _)
/-- The sets of the first k pairs. -/
def pairT (la lb : List Nat) (n k : Nat) : List Nat := (List.range k).map fun j => pairN (la.getD (j / n) 0) (lb.getD (j % n) 0) n
def pairL (la lb : List Nat) : List Nat := pairT la lb lb.length (la.length * lb.length)
theorem pairT_length (la lb : List Nat) (n k : Nat) : (pairT la lb n k).length = k := by simp [pairT]
theorem pairT_succ (la lb : List Nat) (n k : Nat) : pairT la lb n (k + 1) = pairT la lb n k ++ [pairN (la.getD (k / n) 0) (lb.getD (k % n) 0) n] := by simp [pairT, List.range_succ]
theorem pairT_getD {la lb : List Nat} {n k j : Nat} (h : j < k) : (pairT la lb n k).getD j 0 = pairN (la.getD (j / n) 0) (lb.getD (j % n) 0) n := by
  simp [pairT, List.getD_eq_getElem?_getD, h]
theorem pair_good {la lb : List Nat} {x n : Nat} (ha : GoodL la x) (hb : GoodL lb n) (hn : 0 < n) (hx : x ≤ 5) : GoodL (pairL la lb) (x * n) := by
  unfold pairL
  rw [ha.len, hb.len]
  refine ⟨pairT_length _ _ _ _, fun i => ?_⟩
  rcases Nat.lt_or_ge i (x * n) with h | h
  · rw [pairT_getD h]; exact pairN_lt hn (hb.lt _) (ha.lt _) hx
  · rw [getD_none (by rw [pairT_length]; exact h)]; exact Nat.two_pow_pos _
theorem two_index {n x i k : Nat} (hn : 0 < n) (hk : k < n) (hi : i < x) : (n * i + k) / n = i ∧ (n * i + k) % n = k ∧ n * i + k < x * n := by
  refine ⟨by rw [Nat.mul_add_div hn, Nat.div_eq_of_lt hk]; rfl, by rw [Nat.mul_add_mod, Nat.mod_eq_of_lt hk], ?_⟩
  have : n * (i + 1) ≤ n * x := Nat.mul_le_mul_left n hi
  rw [Nat.mul_succ] at this
  rw [Nat.mul_comm x n]; omega
theorem bit_lt {a x i : Nat} (ha : a < 2 ^ x) (h : a.testBit i = true) : i < x := by
  rcases Nat.lt_or_ge i x with k | k
  · exact k
  · rw [Nat.testBit_lt_two_pow (Nat.lt_of_lt_of_le ha (Nat.pow_le_pow_right (by decide) k))] at h; cases h
theorem lt5 {a x : Nat} (ha : a < 2 ^ x) (hx : x ≤ 5) : a < 2 ^ 5 := Nat.lt_of_lt_of_le ha (Nat.pow_le_pow_right (by decide) hx)
theorem pair_step {la lb : List Nat} {x n s t : Nat} (ha : GoodL la x) (hb : GoodL lb n) (hn : 0 < n) (hx : x ≤ 5) (hs : s < 2 ^ x) (ht : t < 2 ^ n) :
    step1 (pairL la lb) (pairN s t n) = pairN (step1 la s) (step1 lb t) n := by
  apply Nat.eq_of_testBit_eq
  intro j
  rw [pairN_bit hn (step1_lt hb _) (lt5 (step1_lt ha _) hx), Bool.eq_iff_iff, step1_bit, Bool.and_eq_true, step1_bit, step1_bit]
  unfold pairL
  rw [ha.len, hb.len]
  constructor
  · rintro ⟨p, h1, h2⟩
    rw [pairN_bit hn ht (lt5 hs hx), Bool.and_eq_true] at h1
    have hp : p < x * n := by
      rcases Nat.lt_or_ge p (x * n) with h | h
      · exact h
      · rw [getD_none (by rw [pairT_length]; exact h)] at h2; simp at h2
    rw [pairT_getD hp, pairN_bit hn (hb.lt _) (lt5 (ha.lt _) hx), Bool.and_eq_true] at h2
    exact ⟨⟨_, h1.1, h2.1⟩, ⟨_, h1.2, h2.2⟩⟩
  · rintro ⟨⟨i, h1, h2⟩, ⟨k, h3, h4⟩⟩
    obtain ⟨e1, e2, e3⟩ := two_index hn (bit_lt ht h3) (bit_lt hs h1)
    refine ⟨n * i + k, ?_, ?_⟩
    · rw [pairN_bit hn ht (lt5 hs hx), e1, e2, h1, h3]; rfl
    · rw [pairT_getD e3, pairN_bit hn (hb.lt _) (lt5 (ha.lt _) hx), e1, e2, h2, h4]; rfl
theorem pair_after {la lb : List Nat} {x n s t : Nat} (ha : GoodL la x) (hb : GoodL lb n) (hn : 0 < n) (hx : x ≤ 5) (hs : s < 2 ^ x) (ht : t < 2 ^ n) (k : Nat) :
    afterN (pairL la lb) (pairN s t n) k = pairN (afterN la s k) (afterN lb t k) n := by
  induction k with
  | zero => rfl
  | succ k ih => rw [after_step, ih, pair_step ha hb hn hx (after_lt ha hs k) (after_lt hb ht k)]; rfl
theorem pair_takes {la lb : List Nat} {x n s t e d : Nat} (ha : GoodL la x) (hb : GoodL lb n) (hn : 0 < n) (hx : x ≤ 5) (hs : s < 2 ^ x) (ht : t < 2 ^ n) (he : e < 2 ^ x) (hd : d < 2 ^ n) (k : Nat) :
    takesF (pairL la lb) (pairN s t n) (pairN e d n) k = (takesF la s e k && takesF lb t d k) := by
  unfold takesF
  rw [pair_after ha hb hn hx hs ht, Bool.eq_iff_iff, and_bit, Bool.and_eq_true, and_bit, and_bit]
  have h1 := after_lt ha hs k
  have h2 := after_lt hb ht k
  constructor
  · rintro ⟨j, h3, h4⟩
    rw [pairN_bit hn h2 (lt5 h1 hx), Bool.and_eq_true] at h3
    rw [pairN_bit hn hd (lt5 he hx), Bool.and_eq_true] at h4
    exact ⟨⟨_, h3.1, h4.1⟩, ⟨_, h3.2, h4.2⟩⟩
  · rintro ⟨⟨i, h3, h4⟩, ⟨j, h5, h6⟩⟩
    obtain ⟨e1, e2, _⟩ := two_index hn (bit_lt h2 h5) (bit_lt h1 h3)
    refine ⟨n * i + j, ?_, ?_⟩
    · rw [pairN_bit hn h2 (lt5 h1 hx), e1, e2, h3, h5]; rfl
    · rw [pairN_bit hn hd (lt5 he hx), e1, e2, h4, h6]; rfl

theorem after_place {l : List Nat} {s p q : Nat} (h : Comes (afterN l s) p q) (k : Nat) : afterN l s (placeM p q k) = afterN l s k := by
  unfold placeM
  split
  · rfl
  · have e := Nat.div_add_mod (k - p) q
    have : ∀ j, afterN l s (p + (k - p) % q + j * q) = afterN l s (p + (k - p) % q) := by
      intro j
      induction j with
      | zero => simp
      | succ j ih => rw [Nat.succ_mul, ← Nat.add_assoc, comes_again h _ (by omega), ih]
    rw [← this ((k - p) / q)]
    congr 1
    rw [Nat.mul_comm] at e
    omega
theorem takes_round {l : List Nat} {s p q : Nat} (h : Comes (afterN l s) p q) (e : Nat) : ∀ n, p ≤ n → takesF l s e (n + q) = takesF l s e n := fun n hn => by
  unfold takesF; rw [comes_again h n hn]
theorem takes_place {l : List Nat} {s p q : Nat} (h : Comes (afterN l s) p q) (e k : Nat) : takesF l s e (placeM p q k) = takesF l s e k := by
  unfold takesF; rw [after_place h]

/-- What is a machine, as the program is handed it. -/
def okM (zs : List Int) (b e : Int) : Bool :=
  decide (1 ≤ zs.length ∧ zs.length ≤ 5) && (zs.all fun z => decide (0 ≤ z ∧ z ≤ 2 ^ zs.length - 1)) && decide (0 ≤ b ∧ b ≤ 2 ^ zs.length - 1) && decide (0 ≤ e ∧ e ≤ 2 ^ zs.length - 1)
/-- A machine, in numbers. -/
structure GoodM (l : List Nat) (n s t : Nat) : Prop where
  good : GoodL l n
  pos : 1 ≤ n
  le : n ≤ 5
  starts : s < 2 ^ n
  ends : t < 2 ^ n
def castM (l : List Nat) : List Int := l.map Int.ofNat
theorem castM_length (l : List Nat) : (castM l).length = l.length := by simp [castM]
theorem castM_getD (l : List Nat) (i : Nat) : (castM l).getD i 0 = ((l.getD i 0 : Nat) : Int) := by
  unfold castM
  rw [List.getD_eq_getElem?_getD, List.getD_eq_getElem?_getD, List.getElem?_map]
  cases l[i]? <;> rfl
theorem pow_cast (n : Nat) : ((2 : Int) ^ n) = ((2 ^ n : Nat) : Int) := by simp
theorem okM_good {zs : List Int} {b e : Int} (h : okM zs b e = true) : ∃ l n s t, zs = castM l ∧ zs.length = n ∧ b = (s : Nat) ∧ e = (t : Nat) ∧ GoodM l n s t := by
  unfold okM at h
  simp only [Bool.and_eq_true, decide_eq_true_eq, List.all_eq_true] at h
  obtain ⟨⟨⟨⟨h1, h2⟩, h3⟩, h4, h5⟩, h6, h7⟩ := h
  rw [pow_cast] at h5 h7
  have hp := Nat.two_pow_pos zs.length
  refine ⟨zs.map Int.toNat, zs.length, b.toNat, e.toNat, ?_, rfl, by omega, by omega, ⟨by simp, fun i => ?_⟩, h1, h2, by omega, by omega⟩
  · unfold castM
    rw [List.map_map]
    conv => lhs; rw [← List.map_id zs]
    apply List.map_congr_left
    intro z hz
    have := (h3 z hz).1
    exact (Int.toNat_of_nonneg this).symm
  · rw [List.getD_eq_getElem?_getD, List.getElem?_map]
    rcases Nat.lt_or_ge i zs.length with k | k
    · rw [List.getElem?_eq_getElem k]
      have := h3 zs[i] (List.getElem_mem k)
      rw [pow_cast] at this
      show zs[i].toNat < _
      omega
    · rw [List.getElem?_eq_none k]; exact hp
theorem good_okM {l : List Nat} {n s t : Nat} (h : GoodM l n s t) : okM (castM l) (s : Int) (t : Int) = true := by
  unfold okM
  have h1 := h.starts
  have h2 := h.ends
  rw [castM_length, h.good.len, pow_cast]
  simp only [Bool.and_eq_true, decide_eq_true_eq, List.all_eq_true]
  refine ⟨⟨⟨⟨h.pos, h.le⟩, fun z hz => ?_⟩, by omega, by omega⟩, by omega, by omega⟩
  unfold castM at hz
  obtain ⟨x, hx, rfl⟩ := List.mem_map.1 hz
  obtain ⟨i, hi, rfl⟩ := List.getElem_of_mem hx
  have := h.good.lt i
  rw [List.getD_eq_getElem?_getD, List.getElem?_eq_getElem hi] at this
  have h3 : l[i] < 2 ^ n := this
  show 0 ≤ ((l[i] : Nat) : Int) ∧ ((l[i] : Nat) : Int) ≤ _
  omega
/-- Sums up what is asked of a machine's sets by the first k of them. -/
theorem okM_off {zs : List Int} {b e : Int} (h : ¬ (1 ≤ zs.length ∧ zs.length ≤ 5)) : okM zs b e = false := by unfold okM; rw [decide_eq_false h]; rfl
theorem okM_bad {zs : List Int} {b e : Int} {i : Nat} (hi : i < zs.length) (h : ¬ (0 ≤ zs.getD i 0 ∧ zs.getD i 0 ≤ 2 ^ zs.length - 1)) : okM zs b e = false := by
  rw [Bool.eq_false_iff]
  intro hc
  unfold okM at hc
  simp only [Bool.and_eq_true, decide_eq_true_eq, List.all_eq_true] at hc
  have := hc.1.1.2 zs[i] (List.getElem_mem hi)
  rw [List.getD_eq_getElem?_getD, List.getElem?_eq_getElem hi] at h
  exact h this
theorem okM_all {zs : List Int} {b e : Int} (h1 : 1 ≤ zs.length ∧ zs.length ≤ 5) (h : ∀ i, i < zs.length → 0 ≤ zs.getD i 0 ∧ zs.getD i 0 ≤ 2 ^ zs.length - 1) :
    okM zs b e = (decide (0 ≤ b ∧ b ≤ 2 ^ zs.length - 1) && decide (0 ≤ e ∧ e ≤ 2 ^ zs.length - 1)) := by
  unfold okM
  rw [decide_eq_true h1]
  have : (zs.all fun z => decide (0 ≤ z ∧ z ≤ 2 ^ zs.length - 1)) = true := by
    rw [List.all_eq_true]
    intro z hz
    obtain ⟨i, hi, rfl⟩ := List.getElem_of_mem hz
    have := h i hi
    rw [List.getD_eq_getElem?_getD, List.getElem?_eq_getElem hi] at this
    exact decide_eq_true this
  rw [this]; rfl

/-! What is answered of a machine as it is handed over. -/
def natsM (zs : List Int) : List Nat := zs.map Int.toNat
theorem natsM_cast (l : List Nat) : natsM (castM l) = l := by
  unfold natsM castM
  rw [List.map_map]
  conv => rhs; rw [← List.map_id l]
  apply List.map_congr_left
  intro x _
  show (Int.ofNat x).toNat = x
  rfl
theorem toNat_cast (s : Nat) : ((s : Int)).toNat = s := rfl
def okAt (zs : List Int) (b e k : Int) : Bool := okM zs b e && decide (0 ≤ k ∧ k ≤ 1000000)
/-- The set behind k steps, and whether k is taken. -/
def atV (zs : List Int) (b e k : Int) : Nat := if okAt zs b e k then afterN (natsM zs) b.toNat k.toNat else 0
def fM (zs : List Int) (b e : Int) : Nat → Bool := takesF (natsM zs) b.toNat e.toNat
def takesV (zs : List Int) (b e k : Int) : Bool := okAt zs b e k && fM zs b e k.toNat
/-- The tidy text of what a machine takes. -/
def SetIs (ok : Bool) (f : Nat → Bool) (T : ByteArray) : Prop := (ok = true → TidyText f T) ∧ (ok = false → T = ⟨#[]⟩)
theorem good_comes {l : List Nat} {n s t : Nat} (h : GoodM l n s t) : ∃ p q, Comes (afterN l s) p q ∧ p + q ≤ 32 := by
  obtain ⟨p, q, h1, h2⟩ := comes_there (afterN l s) 32 fun i => Nat.lt_of_lt_of_le (after_lt h.good h.starts i) (Nat.pow_le_pow_right (by decide) h.le)
  exact ⟨p, q, h1, h2⟩

/-- The sets of the turned machine, by the first i states, and of those before k by one more. -/
def turnX (l : List Nat) (n i k : Nat) : List Nat := (List.range n).map fun j => if j < k then turnK l j (i + 1) else turnK l j i
theorem turnX_length (l : List Nat) (n i k : Nat) : (turnX l n i k).length = n := by simp [turnX]
theorem turnX_getD (l : List Nat) {n i k j : Nat} (h : j < n) : (turnX l n i k).getD j 0 = if j < k then turnK l j (i + 1) else turnK l j i := by
  simp [turnX, List.getD_eq_getElem?_getD, h]
theorem turnX_set (l : List Nat) (n i k : Nat) : (turnX l n i k).set k (turnK l k (i + 1)) = turnX l n i (k + 1) := by
  apply List.ext_getElem?
  intro j
  rw [List.getElem?_set]
  unfold turnX
  simp only [List.getElem?_map, List.length_map, List.length_range]
  rcases Nat.lt_or_ge j n with h | h
  · rw [List.getElem?_range h]
    by_cases e : k = j
    · subst e; simp [h]
    · simp only [e, if_false, Option.map_some]
      by_cases h2 : j < k
      · rw [if_pos h2, if_pos (by omega)]
      · rw [if_neg h2, if_neg (by omega)]
  · rw [List.getElem?_eq_none (by simpa using h)]
    by_cases e : k = j
    · rw [if_pos e, if_neg (by omega)]; rfl
    · rw [if_neg e]; rfl
theorem turn_none (l : List Nat) {n i k : Nat} (hk : k < n) (h : turnK l k (i + 1) = turnK l k i) : turnX l n i (k + 1) = turnX l n i k := by
  rw [← turnX_set, h]
  apply List.ext_getElem?
  intro j
  rw [List.getElem?_set]
  by_cases ej : k = j
  · subst ej
    rw [if_pos rfl, if_pos (by rw [turnX_length]; exact hk)]
    have hb : k < (turnX l n i k).length := by rw [turnX_length]; exact hk
    have e := turnX_getD l (i := i) (k := k) hk
    rw [if_neg (Nat.lt_irrefl _), List.getD_eq_getElem?_getD, List.getElem?_eq_getElem hb] at e
    rw [List.getElem?_eq_getElem hb]
    exact congrArg some e.symm
  · rw [if_neg ej]
theorem turnX_end (l : List Nat) (n i : Nat) : turnX l n i n = turnX l n (i + 1) 0 := by
  unfold turnX
  apply List.map_congr_left
  intro j hj
  rw [if_pos (List.mem_range.1 hj), if_neg (Nat.not_lt_zero _)]
theorem turnX_all {l : List Nat} {n : Nat} (h : l.length = n) : turnX l n n 0 = turnL l := by
  unfold turnX turnL
  rw [h]
  apply List.map_congr_left
  intro j hj
  rw [if_neg (Nat.not_lt_zero _)]
theorem castM_set (l : List Nat) (k v : Nat) : (castM l).set k ((v : Nat) : Int) = castM (l.set k v) := by unfold castM; rw [List.map_set]; rfl
theorem turnK_succ (l : List Nat) (k i : Nat) : turnK l k (i + 1) = if (l.getD i 0).testBit k then turnK l k i ||| 2 ^ i else turnK l k i := rfl

/-- The sets of the machine of a set, by the first i. -/
def ofX (n i : Nat) : List Nat := (List.range n).map fun j => if j < i then 2 ^ (j + 1) else 0
theorem ofX_length (n i : Nat) : (ofX n i).length = n := by simp [ofX]
theorem ofX_set (n i : Nat) : (ofX n i).set i (2 ^ (i + 1)) = ofX n (i + 1) := by
  apply List.ext_getElem?
  intro j
  rw [List.getElem?_set]
  unfold ofX
  simp only [List.getElem?_map, List.length_map, List.length_range]
  rcases Nat.lt_or_ge j n with h | h
  · rw [List.getElem?_range h]
    by_cases e : i = j
    · subst e; simp [h]
    · simp only [e, if_false, Option.map_some]
      by_cases h2 : j < i
      · rw [if_pos h2, if_pos (by omega)]
      · rw [if_neg h2, if_neg (by omega)]
  · rw [List.getElem?_eq_none (by simpa using h)]
    by_cases e : i = j
    · rw [if_pos e, if_neg (by omega)]; rfl
    · rw [if_neg e]; rfl
theorem ofX_last (m q : Nat) (hq : 0 < q) : (ofX (m + q) (m + q)).set (m + q - 1) (2 ^ m) = ofL m q := by
  apply List.ext_getElem?
  intro j
  rw [List.getElem?_set]
  unfold ofX ofL
  simp only [List.getElem?_map, List.length_map, List.length_range]
  rcases Nat.lt_or_ge j (m + q) with h | h
  · rw [List.getElem?_range h]
    by_cases e : m + q - 1 = j
    · rw [if_pos e, if_pos (by omega)]
      simp only [Option.map_some]
      rw [if_pos (by omega)]
    · rw [if_neg e]
      simp only [Option.map_some]
      rw [if_pos h, if_neg (by omega)]
  · rw [List.getElem?_eq_none (by simpa using h)]
    by_cases e : m + q - 1 = j
    · omega
    · rw [if_neg e]; rfl
theorem ofE_succ (f : Nat → Bool) (k : Nat) : ofE f (k + 1) = if f k then ofE f k ||| 2 ^ k else ofE f k := rfl
/-- The sets of the machine of a set, those before i. -/
def ofY (m q i : Nat) : List Nat := (List.range i).map fun j => if j + 1 = m + q then 2 ^ m else 2 ^ (j + 1)
theorem ofY_length (m q i : Nat) : (ofY m q i).length = i := by simp [ofY]
theorem ofY_snoc (m q i : Nat) : ofY m q (i + 1) = ofY m q i ++ [if i + 1 = m + q then 2 ^ m else 2 ^ (i + 1)] := by unfold ofY; rw [List.range_succ, List.map_append]; rfl
theorem ofY_end (m q : Nat) : ofY m q (m + q) = ofL m q := rfl
theorem ofX_zero (n : Nat) : ofX n 0 = List.replicate n 0 := by
  refine List.eq_replicate_iff.2 ⟨ofX_length n 0, fun b hb => ?_⟩
  unfold ofX at hb
  obtain ⟨j, _, rfl⟩ := List.mem_map.1 hb
  rw [if_neg (Nat.not_lt_zero _)]
/-- Is there a machine of the set of a text, and which one? -/
def OfIs (okS : Bool) (f : Nat → Bool) (ok : Bool) (L : List Nat) (t : Nat) : Prop :=
  (ok = true → okS = true ∧ ∃ m q, Tidy f m q ∧ m + q ≤ 5 ∧ L = ofL m q ∧ t = ofE f (m + q)) ∧
  (ok = false → L = [] ∧ t = 0 ∧ (okS = true → ∃ m q, Tidy f m q ∧ 5 < m + q))
theorem ofIs_unique {k : Bool} {f : Nat → Bool} {ok ok' : Bool} {L L' : List Nat} {t t' : Nat} (h : OfIs k f ok L t) (h' : OfIs k f ok' L' t') : ok = ok' ∧ L = L' ∧ t = t' := by
  cases ok <;> cases ok'
  · obtain ⟨rfl, rfl, _⟩ := h.2 rfl
    obtain ⟨rfl, rfl, _⟩ := h'.2 rfl
    exact ⟨rfl, rfl, rfl⟩
  · obtain ⟨_, _, h1⟩ := h.2 rfl
    obtain ⟨h2, m, q, h3, h4, _⟩ := h'.1 rfl
    obtain ⟨m', q', h5, h6⟩ := h1 h2
    obtain ⟨rfl, rfl⟩ := tidy_unique h3 h5
    omega
  · obtain ⟨_, _, h1⟩ := h'.2 rfl
    obtain ⟨h2, m, q, h3, h4, _⟩ := h.1 rfl
    obtain ⟨m', q', h5, h6⟩ := h1 h2
    obtain ⟨rfl, rfl⟩ := tidy_unique h3 h5
    omega
  · obtain ⟨_, m, q, h3, _, rfl, rfl⟩ := h.1 rfl
    obtain ⟨_, m', q', h5, _, rfl, rfl⟩ := h'.1 rfl
    obtain ⟨rfl, rfl⟩ := tidy_unique h3 h5
    exact ⟨rfl, rfl, rfl⟩

/-! Bits, as the walks leave them. -/
theorem wrap_in (n : Int) (h1 : 0 ≤ n) (h2 : n < 2 ^ 62) : IntKind.i64.wrap n = n := by rw [IntKind.wrap_i64]; omega
theorem bit_and (a b : Nat) (ha : a < 2 ^ 62) (hb : b < 2 ^ 62) : Go.bits .and .i64 (a : Int) (b : Int) = ((a &&& b : Nat) : Int) := (bits_nat .i64 62 (by decide) wrap_in a b ha hb).1
theorem bit_or (a b : Nat) (ha : a < 2 ^ 62) (hb : b < 2 ^ 62) : Go.bits .or .i64 (a : Int) (b : Int) = ((a ||| b : Nat) : Int) := (bits_nat .i64 62 (by decide) wrap_in a b ha hb).2
theorem bit_one (s i : Nat) (hs : s < 2 ^ 62) : Go.bits .and .i64 ((s : Int) / 2 ^ i) 1 = if s.testBit i then 1 else 0 := by
  have e : ((s : Int) / 2 ^ i) = ((s / 2 ^ i : Nat) : Int) := by rw [pow_cast]; rfl
  have hd : s / 2 ^ i < 2 ^ 62 := Nat.lt_of_le_of_lt (Nat.div_le_self _ _) hs
  rw [e, show (1 : Int) = ((1 : Nat) : Int) from rfl, bit_and _ 1 hd (by decide), Nat.and_one_is_mod]
  rw [Nat.testBit_eq_decide_div_mod_eq]
  have := Nat.mod_lt (s / 2 ^ i) (show 0 < 2 by decide)
  split
  · rename_i h; rw [of_decide_eq_true h]
  · rename_i h; have := of_decide_eq_false (Bool.eq_false_iff.2 h); omega
theorem lt62 {a n : Nat} (h : a < 2 ^ n) (hn : n ≤ 25) : a < 2 ^ 62 := Nat.lt_of_lt_of_le h (Nat.pow_le_pow_right (by decide) (by omega))

/-- Does the k-th set lead to an end? -/
def endF (g : Nat → Nat) (e k : Nat) : Bool := g k &&& e != 0
theorem endF_bits (g : Nat → Nat) (e k : Nat) (hg : g k < 32) (he : e < 2 ^ 62) : (Go.bits .and .i64 (g k : Nat) (e : Nat) != 0) = endF g e k := by
  rw [bit_and _ _ (Nat.lt_of_lt_of_le hg (by decide)) he]
  unfold endF
  rw [Bool.eq_iff_iff, bne_iff_ne, bne_iff_ne]
  omega

theorem takes_end (l : List Nat) (s e : Nat) : takesF l s e = endF (afterN l s) e := rfl

/-- Is it a single machine, as it is handed over? -/
def singleM (zs : List Int) (b e : Int) : Bool := okM zs b e && oneS b.toNat && (natsM zs).all oneS
theorem single_bad {l : List Nat} {i : Nat} (hi : i < l.length) (h : oneS (l.getD i 0) = false) : l.all oneS = false := by
  rw [Bool.eq_false_iff]
  intro hc
  rw [List.all_eq_true] at hc
  have := hc l[i] (List.getElem_mem hi)
  rw [List.getD_eq_getElem?_getD, List.getElem?_eq_getElem hi] at h
  rw [show (some l[i]).getD 0 = l[i] from rfl] at h
  rw [this] at h; cases h
theorem single_all {l : List Nat} (h : ∀ i, i < l.length → oneS (l.getD i 0) = true) : l.all oneS = true := by
  rw [List.all_eq_true]
  intro x hx
  obtain ⟨i, hi, rfl⟩ := List.getElem_of_mem hx
  have := h i hi
  rw [List.getD_eq_getElem?_getD, List.getElem?_eq_getElem hi] at this
  exact this

end Go.Proofs.Ytiphooodijbhiab
