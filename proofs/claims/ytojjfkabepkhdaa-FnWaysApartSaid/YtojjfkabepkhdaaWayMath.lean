/-
  How many ways lead to a number, by how many numbers, as bags, the fewest, and the same backwards: plain facts.
-/
import Derived.Test.YtojjfkabepkhdaaStarRound
set_option linter.unusedSimpArgs false
set_option linter.unusedVariables false
namespace Go.Proofs.Ytojjfkabepkhdaa
open Go.RowKit

/-- The sum of h at what is left of x behind each of the first k numbers that f has. -/
def sumP (f : Nat → Bool) (h : Nat → Nat) (x : Nat) : Nat → Nat
  | 0 => 0
  | k + 1 => sumP f h x k + (if f (k + 1) then h (x - (k + 1)) else 0)
theorem sumP_congr {f : Nat → Bool} {h1 h2 : Nat → Nat} {x : Nat} : ∀ k, (∀ y, 1 ≤ y → y ≤ k → h1 (x - y) = h2 (x - y)) → sumP f h1 x k = sumP f h2 x k
  | 0, _ => rfl
  | k + 1, h => by
    unfold sumP
    rw [sumP_congr k (fun y a b => h y a (by omega)), h (k + 1) (by omega) (Nat.le_refl _)]
theorem sumP_le {f : Nat → Bool} {h1 h2 : Nat → Nat} {x : Nat} : ∀ k, (∀ y, 1 ≤ y → y ≤ k → h1 (x - y) ≤ h2 (x - y)) → sumP f h1 x k ≤ sumP f h2 x k
  | 0, _ => Nat.le_refl _
  | k + 1, h => by
    have a := sumP_le (f := f) (h1 := h1) (h2 := h2) (x := x) k (fun y a b => h y a (by omega))
    have b := h (k + 1) (by omega) (Nat.le_refl _)
    unfold sumP
    split <;> omega
theorem sumP_add {f : Nat → Bool} {h1 h2 : Nat → Nat} {x : Nat} : ∀ k, sumP f (fun i => h1 i + h2 i) x k = sumP f h1 x k + sumP f h2 x k
  | 0 => rfl
  | k + 1 => by
    unfold sumP
    rw [sumP_add k]
    split <;> omega
theorem sumP_zero {f : Nat → Bool} {h : Nat → Nat} {x : Nat} : ∀ k, (∀ y, 1 ≤ y → y ≤ k → f y = true → h (x - y) = 0) → sumP f h x k = 0
  | 0, _ => rfl
  | k + 1, hh => by
    unfold sumP
    rw [sumP_zero k (fun y a b => hh y a (by omega))]
    split
    · rename_i hf; rw [hh (k + 1) (by omega) (Nat.le_refl _) hf]
    · rfl
theorem sumP_mono {f : Nat → Bool} {h : Nat → Nat} {x k : Nat} : ∀ m, sumP f h x k ≤ sumP f h x (k + m)
  | 0 => Nat.le_refl _
  | m + 1 => by
    have := sumP_mono (f := f) (h := h) (x := x) (k := k) m
    rw [show k + (m + 1) = (k + m) + 1 from by omega, sumP]
    omega
theorem sumP_pos {f : Nat → Bool} {h : Nat → Nat} {x : Nat} : ∀ {k : Nat}, 0 < sumP f h x k ↔ ∃ y, 1 ≤ y ∧ y ≤ k ∧ f y = true ∧ 0 < h (x - y)
  | 0 => by
    constructor
    · intro h; exact absurd h (Nat.lt_irrefl 0)
    · rintro ⟨y, a, b, _⟩; omega
  | k + 1 => by
    have ih := sumP_pos (f := f) (h := h) (x := x) (k := k)
    rw [sumP]
    constructor
    · intro hp
      by_cases hk : 0 < sumP f h x k
      · obtain ⟨y, a, b, c, d⟩ := ih.1 hk
        exact ⟨y, a, by omega, c, d⟩
      · split at hp
        · rename_i hf
          exact ⟨k + 1, by omega, Nat.le_refl _, hf, by omega⟩
        · omega
    · rintro ⟨y, a, b, c, d⟩
      by_cases hy : y = k + 1
      · subst hy; rw [if_pos c]; omega
      · have := ih.2 ⟨y, a, by omega, c, d⟩
        omega
theorem sumP_pow {f : Nat → Bool} {h : Nat → Nat} {x : Nat} (hh : ∀ i, h i ≤ 2 ^ i) : ∀ k, k ≤ x → sumP f h x k + 2 ^ (x - k) ≤ 2 ^ x
  | 0, _ => by simp [sumP]
  | k + 1, hk => by
    have ih := sumP_pow (f := f) (x := x) hh k (by omega)
    have h1 := hh (x - (k + 1))
    have h2 : 2 ^ (x - k) = 2 * 2 ^ (x - (k + 1)) := by
      rw [show x - k = (x - (k + 1)) + 1 from by omega, Nat.pow_succ]; omega
    rw [sumP]
    split <;> omega

/-- How many ways lead to each number: a table up to n, and the number itself. -/
def manyT (f : Nat → Bool) : Nat → Nat → Nat
  | 0 => fun _ => 1
  | n + 1 => fun i => if i ≤ n then manyT f n i else sumP f (manyT f n) (n + 1) (n + 1)
def manyF (f : Nat → Bool) (n : Nat) : Nat := manyT f n n
theorem manyT_low (f : Nat → Bool) : ∀ {n i : Nat}, i ≤ n → manyT f n i = manyF f i
  | 0, i, h => by rw [Nat.le_zero.1 h]; rfl
  | n + 1, i, h => by
    by_cases hi : i ≤ n
    · show (if i ≤ n then manyT f n i else _) = _
      rw [if_pos hi]; exact manyT_low f hi
    · rw [show i = n + 1 from by omega]; rfl
theorem manyF_zero (f : Nat → Bool) : manyF f 0 = 1 := rfl
theorem manyF_step (f : Nat → Bool) {n : Nat} (hn : 0 < n) : manyF f n = sumP f (manyF f) n n := by
  obtain ⟨n, rfl⟩ : ∃ k, n = k + 1 := ⟨n - 1, by omega⟩
  show (if n + 1 ≤ n then _ else sumP f (manyT f n) (n + 1) (n + 1)) = _
  rw [if_neg (by omega)]
  exact sumP_congr _ (fun y a b => manyT_low f (by omega))
theorem manyF_pow (f : Nat → Bool) (n : Nat) : manyF f n ≤ 2 ^ n := by
  have key : ∀ n i, i ≤ n → manyF f i ≤ 2 ^ i := by
    intro n
    induction n with
    | zero => intro i hi; rw [Nat.le_zero.1 hi]; exact Nat.le_refl _
    | succ n ih =>
      intro i hi
      by_cases h : i ≤ n
      · exact ih i h
      · obtain rfl : i = n + 1 := by omega
        rw [manyF_step f (by omega)]
        have hc : sumP f (manyF f) (n + 1) (n + 1) = sumP f (fun i => if i ≤ n then manyF f i else 0) (n + 1) (n + 1) :=
          sumP_congr _ (fun y a b => by show _ = ite _ _ _; rw [if_pos (by omega)])
        rw [hc]
        have := sumP_pow (f := f) (h := fun i => if i ≤ n then manyF f i else 0) (x := n + 1) (fun i => by
          show ite _ _ _ ≤ _
          split
          · rename_i h; exact ih i h
          · exact Nat.zero_le _) (n + 1) (Nat.le_refl _)
        exact Nat.le_trans (Nat.le_add_right _ _) this
  exact key n n (Nat.le_refl _)
theorem manyF_star (f : Nat → Bool) (n : Nat) : 0 < manyF f n ↔ Star f n := by
  have key : ∀ n i, i ≤ n → (0 < manyF f i ↔ Star f i) := by
    intro n
    induction n with
    | zero => intro i hi; rw [Nat.le_zero.1 hi]; exact ⟨fun _ => star_zero f, fun _ => Nat.zero_lt_one⟩
    | succ n ih =>
      intro i hi
      by_cases h : i ≤ n
      · exact ih i h
      · obtain rfl : i = n + 1 := by omega
        rw [manyF_step f (by omega), sumP_pos]
        constructor
        · rintro ⟨y, a, b, c, d⟩
          have := star_add (star_one c) ((ih (n + 1 - y) (by omega)).1 d)
          rw [show y + (n + 1 - y) = n + 1 from by omega] at this
          exact this
        · intro hs
          obtain ⟨y, a, b, c, d⟩ := star_split hs (by omega)
          exact ⟨y, b, c, a, (ih (n + 1 - y) (by omega)).2 d⟩
  exact key n n (Nat.le_refl _)

/-- How many ways with k numbers lead to n. -/
def partF (f : Nat → Bool) : Nat → Nat → Nat
  | 0, n => if n = 0 then 1 else 0
  | k + 1, n => sumP f (partF f k) n n
theorem partF_pow (f : Nat → Bool) : ∀ k n, partF f k n ≤ 2 ^ n
  | 0, n => by
    show ite _ _ _ ≤ _
    split
    · rename_i h; rw [h]; exact Nat.le_refl _
    · exact Nat.zero_le _
  | k + 1, n => by
    have := sumP_pow (f := f) (fun i => partF_pow f k i) n (Nat.le_refl _)
    exact Nat.le_trans (Nat.le_add_right _ _) this
theorem partF_off (f : Nat → Bool) : ∀ {k n : Nat}, n < k → partF f k n = 0
  | 0, n, h => by omega
  | k + 1, n, h => sumP_zero _ (fun y a b _ => partF_off f (by omega))
/-- The sum over the first m numbers of numbers. -/
def partS (f : Nat → Bool) (n : Nat) : Nat → Nat
  | 0 => 0
  | m + 1 => partS f n m + partF f m n
theorem partS_step (f : Nat → Bool) (n : Nat) (hn : 0 < n) : ∀ m, partS f n (m + 1) = sumP f (fun i => partS f i m) n n
  | 0 => by
    show 0 + partF f 0 n = _
    rw [sumP_zero _ (fun y _ _ _ => rfl)]
    show 0 + ite _ _ _ = 0
    rw [if_neg (by omega)]
  | m + 1 => by
    rw [partS, partS_step f n hn m, show (fun i => partS f i (m + 1)) = (fun i => partS f i m + partF f m i) from rfl, sumP_add]
    rfl
theorem partS_many (f : Nat → Bool) : ∀ m n, n < m → partS f n m = manyF f n
  | 0, n, h => by omega
  | m + 1, n, h => by
    by_cases hn : n = 0
    · subst hn
      clear h
      rw [manyF_zero]
      have : ∀ m, partS f 0 (m + 1) = 1 := by
        intro m
        induction m with
        | zero => rfl
        | succ m ih => rw [partS, ih, partF_off f (by omega)]
      exact this m
    · rw [partS_step f n (by omega) m, manyF_step f (by omega)]
      exact sumP_congr _ (fun y a b => partS_many f m (n - y) (by omega))
theorem partF_many (f : Nat → Bool) (k n : Nat) : partF f k n ≤ manyF f n := by
  by_cases h : n < k
  · rw [partF_off f h]; exact Nat.zero_le _
  · have h1 : partS f n (n + 1) = manyF f n := partS_many f (n + 1) n (by omega)
    have h2 : ∀ m, k < m → partF f k n ≤ partS f n m := by
      intro m hm
      induction m with
      | zero => omega
      | succ m ih =>
        rw [partS]
        by_cases e : k = m
        · subst e; omega
        · have := ih (by omega); omega
    rw [← h1]
    exact h2 (n + 1) (by omega)
/-- The same with oddly many. -/
def oddS (f : Nat → Bool) (n : Nat) : Nat → Nat
  | 0 => 0
  | m + 1 => oddS f n m + (if m % 2 = 1 then partF f m n else 0)
theorem oddS_le (f : Nat → Bool) (n : Nat) : ∀ m, oddS f n m ≤ partS f n m
  | 0 => Nat.le_refl _
  | m + 1 => by
    have := oddS_le f n m
    rw [oddS, partS]
    split <;> omega
theorem oddS_more (f : Nat → Bool) (n m : Nat) (h : n < m) : ∀ j, oddS f n (m + j) = oddS f n m
  | 0 => rfl
  | j + 1 => by
    rw [show m + (j + 1) = (m + j) + 1 from by omega, oddS, oddS_more f n m h j, partF_off f (by omega)]
    split <;> rfl
def oddF (f : Nat → Bool) (n : Nat) : Nat := oddS f n (n + 1)
theorem oddF_at (f : Nat → Bool) (n m : Nat) (h : n < m) : oddS f n m = oddF f n := by
  have := oddS_more f n (n + 1) (by omega) (m - (n + 1))
  rw [show n + 1 + (m - (n + 1)) = m from by omega] at this
  exact this
theorem oddF_many (f : Nat → Bool) (n : Nat) : oddF f n ≤ manyF f n := by
  have := oddS_le f n (n + 1)
  rw [partS_many f (n + 1) n (by omega)] at this
  exact this

/-- Bags with numbers up to k, and bags with each of these once at most. -/
def bagF (f : Nat → Bool) : Nat → Nat → Nat
  | 0, x => if x = 0 then 1 else 0
  | k + 1, x => bagF f k x + (if h : f (k + 1) = true ∧ k + 1 ≤ x then bagF f (k + 1) (x - (k + 1)) else 0)
termination_by k x => (k, x)
decreasing_by
  · exact Prod.Lex.left _ _ (by omega)
  · exact Prod.Lex.right _ (by omega)
theorem bagF_zero (f : Nat → Bool) (x : Nat) : bagF f 0 x = if x = 0 then 1 else 0 := by rw [bagF]
theorem bagF_step (f : Nat → Bool) (k x : Nat) : bagF f (k + 1) x = bagF f k x + (if f (k + 1) = true ∧ k + 1 ≤ x then bagF f (k + 1) (x - (k + 1)) else 0) := by
  rw [bagF]
  split <;> rfl
def apartF (f : Nat → Bool) : Nat → Nat → Nat
  | 0, x => if x = 0 then 1 else 0
  | k + 1, x => apartF f k x + (if f (k + 1) = true ∧ k + 1 ≤ x then apartF f k (x - (k + 1)) else 0)
theorem apart_bag (f : Nat → Bool) : ∀ k x, apartF f k x ≤ bagF f k x
  | 0, x => by rw [bagF_zero]; exact Nat.le_refl _
  | k + 1, x => by
    have key : ∀ m x, x ≤ m → apartF f (k + 1) x ≤ bagF f (k + 1) x ∧ apartF f k x ≤ bagF f (k + 1) x := by
      intro m
      induction m with
      | zero =>
        intro x hx
        obtain rfl := Nat.le_zero.1 hx
        have a := apart_bag f k 0
        rw [apartF, bagF_step, if_neg (by omega), if_neg (by omega)]
        omega
      | succ m ih =>
        intro x hx
        have a := apart_bag f k x
        rw [apartF, bagF_step]
        by_cases hc : f (k + 1) = true ∧ k + 1 ≤ x
        · rw [if_pos hc, if_pos hc]
          have := (ih (x - (k + 1)) (by omega)).2
          omega
        · rw [if_neg hc, if_neg hc]
          omega
    exact (key x x (Nat.le_refl _)).1
theorem bagF_empty (f : Nat → Bool) : ∀ k, bagF f k 0 = 1
  | 0 => by rw [bagF_zero]; rfl
  | k + 1 => by rw [bagF_step, if_neg (by omega), bagF_empty f k]
theorem apartF_empty (f : Nat → Bool) : ∀ k, apartF f k 0 = 1
  | 0 => rfl
  | k + 1 => by rw [apartF, if_neg (by omega), apartF_empty f k]
theorem sumP_min {f : Nat → Bool} {h : Nat → Nat} {x k : Nat} (hk : k ≤ x) : sumP f h x k ≤ sumP f h x x := by
  have := sumP_mono (f := f) (h := h) (x := x) (k := k) (x - k)
  rw [show k + (x - k) = x from by omega] at this
  exact this
theorem bag_sum (f : Nat → Bool) : ∀ k x, 0 < x → bagF f k x ≤ sumP f (manyF f) x (min k x)
  | 0, x, hx => by rw [bagF_zero, if_neg (by omega)]; exact Nat.zero_le _
  | k + 1, x, hx => by
    have key : ∀ m x, x ≤ m → (0 < x → bagF f (k + 1) x ≤ sumP f (manyF f) x (min (k + 1) x)) ∧ bagF f (k + 1) x ≤ manyF f x := by
      intro m
      induction m with
      | zero =>
        intro x hx
        obtain rfl := Nat.le_zero.1 hx
        exact ⟨fun h => by omega, by rw [bagF_empty]; exact Nat.le_refl _⟩
      | succ m ih =>
        intro x hx
        have h1 : 0 < x → bagF f (k + 1) x ≤ sumP f (manyF f) x (min (k + 1) x) := by
          intro h0
          have a := bag_sum f k x h0
          rw [bagF_step]
          by_cases hc : f (k + 1) = true ∧ k + 1 ≤ x
          · rw [if_pos hc, show min (k + 1) x = k + 1 from by omega, sumP, if_pos hc.1]
            rw [show min k x = k from by omega] at a
            have := (ih (x - (k + 1)) (by omega)).2
            omega
          · rw [if_neg hc]
            by_cases hk : k + 1 ≤ x
            · rw [show min (k + 1) x = k + 1 from by omega, sumP]
              rw [show min k x = k from by omega] at a
              omega
            · rw [show min (k + 1) x = x from by omega]
              rw [show min k x = x from by omega] at a
              omega
        refine ⟨h1, ?_⟩
        by_cases h0 : 0 < x
        · have a := h1 h0
          have b : sumP f (manyF f) x (min (k + 1) x) ≤ sumP f (manyF f) x x := sumP_min (by omega)
          rw [manyF_step f h0]
          omega
        · rw [show x = 0 from by omega, bagF_empty]; exact Nat.le_refl _
    exact (key x x (Nat.le_refl _)).1 hx
theorem bag_many (f : Nat → Bool) (k x : Nat) : bagF f k x ≤ manyF f x := by
  by_cases h0 : 0 < x
  · have a := bag_sum f k x h0
    have b : sumP f (manyF f) x (min k x) ≤ sumP f (manyF f) x x := sumP_min (by omega)
    rw [manyF_step f h0]
    omega
  · rw [show x = 0 from by omega, bagF_empty]; exact Nat.le_refl _
theorem bag_add (f : Nat → Bool) : ∀ k y, 1 ≤ y → y ≤ k → f y = true → ∀ x, y ≤ x → 0 < bagF f k (x - y) → 0 < bagF f k x
  | 0, y, h1, h2, _ => by omega
  | k + 1, y, h1, h2, hf => by
    intro x
    induction x using Nat.strongRecOn with
    | ind x ih =>
      intro hx hp
      by_cases hy : y = k + 1
      · subst hy
        rw [bagF_step, if_pos ⟨hf, hx⟩]
        omega
      · rw [bagF_step] at hp
        by_cases ha : 0 < bagF f k (x - y)
        · have := bag_add f k y h1 (by omega) hf x hx ha
          rw [bagF_step]; omega
        · by_cases hc : f (k + 1) = true ∧ k + 1 ≤ x - y
          · rw [if_pos hc] at hp
            have := ih (x - (k + 1)) (by omega) (by omega) (by rw [show x - (k + 1) - y = x - y - (k + 1) from by omega]; omega)
            rw [bagF_step, if_pos ⟨hc.1, by omega⟩]
            omega
          · rw [if_neg hc] at hp
            omega
theorem bag_star (f : Nat → Bool) (k n : Nat) (hk : n ≤ k) : 0 < bagF f k n ↔ Star f n := by
  constructor
  · intro h
    exact (manyF_star f n).1 (Nat.lt_of_lt_of_le h (bag_many f k n))
  · intro h
    have key : ∀ m n, n ≤ m → n ≤ k → Star f n → 0 < bagF f k n := by
      intro m
      induction m with
      | zero => intro n hn _ _; rw [Nat.le_zero.1 hn, bagF_empty]; exact Nat.zero_lt_one
      | succ m ih =>
        intro n hn hk hs
        by_cases h0 : 0 < n
        · obtain ⟨y, a, b, c, d⟩ := star_split hs h0
          exact bag_add f k y b (by omega) a n c (ih (n - y) (by omega) (by omega) d)
        · rw [show n = 0 from by omega, bagF_empty]; exact Nat.zero_lt_one
    exact key n n (Nat.le_refl _) hk h

/-- How many ways are the same backwards. -/
def halfF (f : Nat → Bool) (n : Nat) : Nat := if n % 2 = 0 then manyF f (n / 2) else 0
def backF (f : Nat → Bool) (n : Nat) : Nat := halfF f n + sumP f (halfF f) n n
theorem half_step (f : Nat → Bool) {n : Nat} (hn : 0 < n) : halfF f n = sumP f (fun i => halfF f (2 * i - n)) n (n / 2) := by
  by_cases h : n % 2 = 0
  · have e : halfF f n = manyF f (n / 2) := if_pos h
    rw [e, manyF_step f (by omega)]
    have key : ∀ k, k ≤ n / 2 → sumP f (manyF f) (n / 2) k = sumP f (fun i => halfF f (2 * i - n)) n k := by
      intro k hk
      induction k with
      | zero => rfl
      | succ k ih =>
        rw [sumP, sumP, ih (by omega)]
        have : halfF f (2 * (n - (k + 1)) - n) = manyF f (n / 2 - (k + 1)) := by
          unfold halfF
          rw [if_pos (by omega), show (2 * (n - (k + 1)) - n) / 2 = n / 2 - (k + 1) from by omega]
        rw [this]
    exact key _ (Nat.le_refl _)
  · have e : halfF f n = 0 := if_neg h
    rw [e, sumP_zero]
    intro y a b _
    exact if_neg (by omega)
/-- The sum of h a over the numbers a of f up to k. -/
def over (f : Nat → Bool) (h : Nat → Nat) : Nat → Nat
  | 0 => 0
  | k + 1 => over f h k + (if f (k + 1) then h (k + 1) else 0)
theorem sumP_over (f : Nat → Bool) (h : Nat → Nat) (x : Nat) : ∀ k, sumP f h x k = over f (fun y => h (x - y)) k
  | 0 => rfl
  | k + 1 => by rw [sumP, over, sumP_over f h x k]
theorem over_congr {f : Nat → Bool} {h1 h2 : Nat → Nat} : ∀ k, (∀ y, 1 ≤ y → y ≤ k → f y = true → h1 y = h2 y) → over f h1 k = over f h2 k
  | 0, _ => rfl
  | k + 1, h => by
    rw [over, over, over_congr k (fun y a b => h y a (by omega))]
    split
    · rename_i hf; rw [h (k + 1) (by omega) (Nat.le_refl _) hf]
    · rfl
theorem over_le {f : Nat → Bool} {h1 h2 : Nat → Nat} : ∀ k, (∀ y, 1 ≤ y → y ≤ k → h1 y ≤ h2 y) → over f h1 k ≤ over f h2 k
  | 0, _ => Nat.le_refl _
  | k + 1, h => by
    have a := over_le (f := f) (h1 := h1) (h2 := h2) k (fun y a b => h y a (by omega))
    have b := h (k + 1) (by omega) (Nat.le_refl _)
    rw [over, over]
    split <;> omega
theorem over_even {f : Nat → Bool} {h1 h2 : Nat → Nat} : ∀ k, (∀ y, 1 ≤ y → y ≤ k → h1 y % 2 = h2 y % 2) → over f h1 k % 2 = over f h2 k % 2
  | 0, _ => rfl
  | k + 1, h => by
    have a := over_even (f := f) (h1 := h1) (h2 := h2) k (fun y a b => h y a (by omega))
    have b := h (k + 1) (by omega) (Nat.le_refl _)
    rw [over, over]
    split <;> omega
theorem over_add {f : Nat → Bool} {h1 h2 : Nat → Nat} : ∀ k, over f (fun y => h1 y + h2 y) k = over f h1 k + over f h2 k
  | 0 => rfl
  | k + 1 => by
    rw [over, over, over, over_add k]
    split <;> omega
theorem over_zero {f : Nat → Bool} {h : Nat → Nat} : ∀ k, (∀ y, 1 ≤ y → y ≤ k → h y = 0) → over f h k = 0
  | 0, _ => rfl
  | k + 1, hh => by
    rw [over, over_zero k (fun y a b => hh y a (by omega)), hh (k + 1) (by omega) (Nat.le_refl _)]
    split <;> rfl
theorem over_more {f : Nat → Bool} {h : Nat → Nat} {k : Nat} : ∀ m, (∀ y, k < y → h y = 0) → over f h (k + m) = over f h k
  | 0, _ => rfl
  | m + 1, hh => by
    rw [show k + (m + 1) = (k + m) + 1 from by omega, over, over_more m hh, hh (k + m + 1) (by omega)]
    split <;> rfl
theorem over_upto {f : Nat → Bool} {h : Nat → Nat} {k m : Nat} (hkm : k ≤ m) (hh : ∀ y, k < y → h y = 0) : over f h m = over f h k := by
  have := over_more (f := f) (h := h) (k := k) (m - k) hh
  rw [show k + (m - k) = m from by omega] at this
  exact this
theorem over_swap {f : Nat → Bool} (g : Nat → Nat → Nat) : ∀ k m, over f (fun a => over f (g a) m) k = over f (fun b => over f (fun a => g a b) k) m
  | 0, m => (over_zero m (fun y _ _ => rfl)).symm
  | k + 1, m => by
    rw [over, over_swap g k m]
    by_cases hf : f (k + 1) = true
    · rw [if_pos hf, ← over_add]
      refine over_congr m (fun y _ _ _ => ?_)
      rw [over, if_pos hf]
    · rw [if_neg hf, Nat.add_zero]
      refine over_congr m (fun y _ _ _ => ?_)
      rw [over, if_neg hf, Nat.add_zero]
/-- A sum over pairs that is the same both ways is the sum over equal pairs, and an even number. -/
theorem over_pairs {f : Nat → Bool} (g : Nat → Nat → Nat) (hg : ∀ a b, g a b = g b a) : ∀ k, ∃ m, over f (fun a => over f (g a) k) k = over f (fun a => g a a) k + 2 * m
  | 0 => ⟨0, rfl⟩
  | k + 1 => by
    obtain ⟨m, hm⟩ := over_pairs g hg k
    have hs : over f (fun a => over f (g a) (k + 1)) k = over f (fun a => over f (g a) k) k + (if f (k + 1) then over f (fun a => g a (k + 1)) k else 0) := by
      have : over f (fun a => over f (g a) (k + 1)) k = over f (fun a => over f (g a) k + (if f (k + 1) then g a (k + 1) else 0)) k := over_congr k (fun y _ _ _ => by rw [over])
      rw [this, over_add]
      congr 1
      split
      · rfl
      · exact over_zero k (fun _ _ _ => rfl)
    by_cases hf : f (k + 1) = true
    · refine ⟨m + over f (fun a => g a (k + 1)) k, ?_⟩
      rw [over, hs, if_pos hf, if_pos hf, hm, over, if_pos hf, over, if_pos hf]
      have : over f (g (k + 1)) k = over f (fun a => g a (k + 1)) k := over_congr k (fun y _ _ _ => hg _ _)
      rw [this]
      omega
    · refine ⟨m, ?_⟩
      rw [over, hs, if_neg hf, if_neg hf, hm, over, if_neg hf]
      omega
/-- The ways by their last and their first number: those of one number, and those of more. -/
def rest2 (h : Nat → Nat) (n a b : Nat) : Nat := if a + b ≤ n then h (n - (a + b)) else 0
theorem many_two (f : Nat → Bool) {n : Nat} (hn : 0 < n) : manyF f n = (if f n then 1 else 0) + over f (fun a => over f (rest2 (manyF f) n a) n) n := by
  rw [manyF_step f hn, sumP_over]
  have h1 : over f (fun y => manyF f (n - y)) n = over f (fun y => (if y = n then 1 else 0) + over f (rest2 (manyF f) n y) n) n := by
    refine over_congr n (fun y a b _ => ?_)
    by_cases hy : y = n
    · subst hy
      rw [Nat.sub_self, manyF_zero, if_pos rfl, over_zero]
      intro z hz _
      exact if_neg (by omega)
    · rw [if_neg hy, Nat.zero_add, manyF_step f (by omega), sumP_over]
      have : over f (rest2 (manyF f) n y) n = over f (rest2 (manyF f) n y) (n - y) := over_upto (by omega) (fun z hz => if_neg (by omega))
      rw [this]
      refine over_congr _ (fun z c d _ => ?_)
      unfold rest2
      rw [if_pos (by omega), show n - y - z = n - (y + z) from by omega]
  rw [h1, over_add]
  congr 1
  obtain ⟨n, rfl⟩ : ∃ k, n = k + 1 := ⟨n - 1, by omega⟩
  rw [over, over_zero n (fun y _ hy => if_neg (by omega)), if_pos rfl, Nat.zero_add]
theorem back_two (f : Nat → Bool) {n : Nat} (hn : 0 < n) : backF f n = (if f n then 1 else 0) + over f (fun a => rest2 (backF f) n a a) n := by
  have key : ∀ x, 0 < x → x ≤ n → halfF f x = over f (fun a => rest2 (halfF f) x a a) n := by
    intro x hx hxn
    rw [half_step f hx, sumP_over]
    have : over f (fun a => rest2 (halfF f) x a a) n = over f (fun a => rest2 (halfF f) x a a) (x / 2) := over_upto (by omega) (fun z hz => if_neg (by omega))
    rw [this]
    refine over_congr _ (fun a h1 h2 _ => ?_)
    unfold rest2
    rw [if_pos (by omega), show 2 * (x - a) - x = x - (a + a) from by omega]
  unfold backF
  rw [key n hn (Nat.le_refl _), sumP_over]
  have h1 : over f (fun y => halfF f (n - y)) n = over f (fun y => (if y = n then 1 else 0) + over f (fun a => rest2 (halfF f) (n - y) a a) n) n := by
    refine over_congr n (fun y a b _ => ?_)
    by_cases hy : y = n
    · subst hy
      rw [Nat.sub_self, if_pos rfl, over_zero]
      · rfl
      · intro z hz _
        exact if_neg (by omega)
    · rw [if_neg hy, Nat.zero_add, key (n - y) (by omega) (by omega)]
  rw [h1, over_add, over_swap]
  have h2 : over f (fun y => if y = n then 1 else 0) n = (if f n then 1 else 0) := by
    obtain ⟨n, rfl⟩ : ∃ k, n = k + 1 := ⟨n - 1, by omega⟩
    rw [over, over_zero n (fun y _ hy => if_neg (by omega)), if_pos rfl, Nat.zero_add]
  rw [h2]
  have h3 : over f (fun a => rest2 (fun n => halfF f n + sumP f (halfF f) n n) n a a) n = over f (fun a => rest2 (halfF f) n a a) n + over f (fun b => over f (fun a => rest2 (halfF f) (n - a) b b) n) n := by
    rw [← over_add]
    refine over_congr n (fun a c d _ => ?_)
    unfold rest2
    by_cases h : a + a ≤ n
    · rw [if_pos h, if_pos h]
      show halfF f (n - (a + a)) + sumP f (halfF f) (n - (a + a)) (n - (a + a)) = _
      rw [sumP_over]
      congr 1
      have : over f (fun b => if a + a ≤ n - b then halfF f (n - b - (a + a)) else 0) n = over f (fun b => if a + a ≤ n - b then halfF f (n - b - (a + a)) else 0) (n - (a + a)) :=
        over_upto (by omega) (fun z hz => if_neg (by omega))
      rw [this]
      refine over_congr _ (fun b e g _ => ?_)
      rw [if_pos (by omega), show n - (a + a) - b = n - b - (a + a) from by omega]
    · rw [if_neg h, if_neg h, over_zero]
      intro b _ _
      exact if_neg (by omega)
  rw [h3]
  omega
/-- Those that are the same backwards are some of all, and the others an even number. -/
theorem back_many (f : Nat → Bool) (n : Nat) : backF f n ≤ manyF f n ∧ (manyF f n - backF f n) % 2 = 0 := by
  have key : ∀ m n, n ≤ m → backF f n ≤ manyF f n ∧ manyF f n % 2 = backF f n % 2 := by
    intro m
    induction m with
    | zero =>
      intro n hn
      obtain rfl := Nat.le_zero.1 hn
      exact ⟨Nat.le_refl _, rfl⟩
    | succ m ih =>
      intro n hn
      by_cases h0 : 0 < n
      · rw [many_two f h0, back_two f h0]
        obtain ⟨j, hj⟩ := over_pairs (f := f) (rest2 (manyF f) n) (fun a b => by unfold rest2; rw [Nat.add_comm a b]) n
        rw [hj]
        have h1 : over f (fun a => rest2 (backF f) n a a) n ≤ over f (fun a => rest2 (manyF f) n a a) n := by
          refine over_le n (fun a c d => ?_)
          unfold rest2
          split
          · exact (ih _ (by omega)).1
          · exact Nat.le_refl _
        have h2 : over f (fun a => rest2 (manyF f) n a a) n % 2 = over f (fun a => rest2 (backF f) n a a) n % 2 := by
          refine over_even n (fun a c d => ?_)
          unfold rest2
          split
          · exact (ih _ (by omega)).2
          · rfl
        omega
      · obtain rfl : n = 0 := by omega
        exact ⟨Nat.le_refl _, rfl⟩
  have := key n n (Nat.le_refl _)
  omega

/-- The fewest numbers of a way, -1 if there is none. -/
def bestP (f : Nat → Bool) (h : Nat → Int) (x : Nat) : Nat → Int
  | 0 => -1
  | k + 1 => if f (k + 1) = true ∧ h (x - (k + 1)) ≠ -1 ∧ (bestP f h x k = -1 ∨ h (x - (k + 1)) + 1 < bestP f h x k) then h (x - (k + 1)) + 1 else bestP f h x k
theorem bestP_congr {f : Nat → Bool} {h1 h2 : Nat → Int} {x : Nat} : ∀ k, (∀ y, 1 ≤ y → y ≤ k → h1 (x - y) = h2 (x - y)) → bestP f h1 x k = bestP f h2 x k
  | 0, _ => rfl
  | k + 1, h => by
    rw [bestP, bestP, bestP_congr k (fun y a b => h y a (by omega)), h (k + 1) (by omega) (Nat.le_refl _)]
def fewT (f : Nat → Bool) : Nat → Nat → Int
  | 0 => fun _ => 0
  | n + 1 => fun i => if i ≤ n then fewT f n i else bestP f (fewT f n) (n + 1) (n + 1)
def fewF (f : Nat → Bool) (n : Nat) : Int := fewT f n n
theorem fewT_low (f : Nat → Bool) : ∀ {n i : Nat}, i ≤ n → fewT f n i = fewF f i
  | 0, i, h => by rw [Nat.le_zero.1 h]; rfl
  | n + 1, i, h => by
    by_cases hi : i ≤ n
    · show (if i ≤ n then fewT f n i else _) = _
      rw [if_pos hi]; exact fewT_low f hi
    · rw [show i = n + 1 from by omega]; rfl
theorem fewF_zero (f : Nat → Bool) : fewF f 0 = 0 := rfl
theorem fewF_step (f : Nat → Bool) {n : Nat} (hn : 0 < n) : fewF f n = bestP f (fewF f) n n := by
  obtain ⟨n, rfl⟩ : ∃ k, n = k + 1 := ⟨n - 1, by omega⟩
  show (if n + 1 ≤ n then _ else bestP f (fewT f n) (n + 1) (n + 1)) = _
  rw [if_neg (by omega)]
  exact bestP_congr _ (fun y a b => fewT_low f (by omega))
/-- What bestP tells. -/
def BestIs (f : Nat → Bool) (h : Nat → Int) (x k : Nat) (v : Int) : Prop :=
  (v = -1 ∧ ∀ y, 1 ≤ y → y ≤ k → f y = true → h (x - y) = -1) ∨
  (0 ≤ v ∧ (∃ y, 1 ≤ y ∧ y ≤ k ∧ f y = true ∧ h (x - y) ≠ -1 ∧ v = h (x - y) + 1) ∧ ∀ y, 1 ≤ y → y ≤ k → f y = true → h (x - y) ≠ -1 → v ≤ h (x - y) + 1)
theorem bestP_is {f : Nat → Bool} {h : Nat → Int} {x : Nat} : ∀ k, (∀ y, 1 ≤ y → y ≤ k → -1 ≤ h (x - y)) → BestIs f h x k (bestP f h x k)
  | 0, _ => .inl ⟨rfl, fun y a b => by omega⟩
  | k + 1, hh => by
    have ih := bestP_is (f := f) (h := h) (x := x) k (fun y a b => hh y a (by omega))
    have hk := hh (k + 1) (by omega) (Nat.le_refl _)
    rw [bestP]
    by_cases hc : f (k + 1) = true ∧ h (x - (k + 1)) ≠ -1 ∧ (bestP f h x k = -1 ∨ h (x - (k + 1)) + 1 < bestP f h x k)
    · rw [if_pos hc]
      obtain ⟨c1, c2, c3⟩ := hc
      refine .inr ⟨by omega, ⟨k + 1, by omega, Nat.le_refl _, c1, c2, rfl⟩, ?_⟩
      intro y a b c d
      by_cases hy : y = k + 1
      · subst hy; omega
      · rcases ih with ⟨e, g⟩ | ⟨e, _, g⟩
        · exact absurd (g y a (by omega) c) d
        · have := g y a (by omega) c d
          rcases c3 with c3 | c3 <;> omega
    · rw [if_neg hc]
      rcases ih with ⟨e, g⟩ | ⟨e, ⟨y, a, b, c, d, d2⟩, g⟩
      · refine .inl ⟨e, fun y a b c => ?_⟩
        by_cases hy : y = k + 1
        · subst hy
          exact Classical.byContradiction fun hne => hc ⟨c, hne, .inl e⟩
        · exact g y a (by omega) c
      · refine .inr ⟨e, ⟨y, a, by omega, c, d, d2⟩, fun z a2 b2 c2 d3 => ?_⟩
        by_cases hz : z = k + 1
        · subst hz
          have : ¬ (h (x - (k + 1)) + 1 < bestP f h x k) := fun hlt => hc ⟨c2, d3, .inr hlt⟩
          omega
        · exact g z a2 (by omega) c2 d3
theorem few_part (f : Nat → Bool) (n : Nat) : (fewF f n = -1 ∧ ∀ k, partF f k n = 0) ∨ ∃ k : Nat, fewF f n = k ∧ k ≤ n ∧ 0 < partF f k n ∧ ∀ j, j < k → partF f j n = 0 := by
  have key : ∀ m n, n ≤ m → (fewF f n = -1 ∧ ∀ k, partF f k n = 0) ∨ ∃ k : Nat, fewF f n = k ∧ k ≤ n ∧ 0 < partF f k n ∧ ∀ j, j < k → partF f j n = 0 := by
    intro m
    induction m with
    | zero =>
      intro n hn
      obtain rfl := Nat.le_zero.1 hn
      exact .inr ⟨0, rfl, Nat.le_refl _, Nat.zero_lt_one, fun j hj => by omega⟩
    | succ m ih =>
      intro n hn
      by_cases h0 : 0 < n
      · have hb := bestP_is (f := f) (h := fewF f) (x := n) n (fun y a b => by
          rcases ih (n - y) (by omega) with ⟨e, _⟩ | ⟨k, e, _⟩ <;> omega)
        rw [← fewF_step f h0] at hb
        rcases hb with ⟨e, g⟩ | ⟨e, ⟨y, a, b, c, d, d2⟩, g⟩
        · refine .inl ⟨e, fun k => ?_⟩
          cases k with
          | zero => exact if_neg (by omega)
          | succ k =>
            refine sumP_zero _ (fun y a b c => ?_)
            rcases ih (n - y) (by omega) with ⟨_, h2⟩ | ⟨j, h2, _⟩
            · exact h2 k
            · have := g y a b c; omega
        · rcases ih (n - y) (by omega) with ⟨h2, _⟩ | ⟨j, h2, h3, h4, h5⟩
          · exact absurd h2 d
          · refine .inr ⟨j + 1, by omega, by omega, sumP_pos.2 ⟨y, a, b, c, h4⟩, fun i hi => ?_⟩
            cases i with
            | zero => exact if_neg (by omega)
            | succ i =>
              refine sumP_zero _ (fun z a2 b2 c2 => ?_)
              rcases ih (n - z) (by omega) with ⟨_, h6⟩ | ⟨l, h6, _, h7, h8⟩
              · exact h6 i
              · have := g z a2 b2 c2 (by omega)
                exact h8 i (by omega)
      · obtain rfl : n = 0 := by omega
        exact .inr ⟨0, rfl, Nat.le_refl _, Nat.zero_lt_one, fun j hj => by omega⟩
  exact key n n (Nat.le_refl _)
theorem few_ge (f : Nat → Bool) (n : Nat) : -1 ≤ fewF f n ∧ fewF f n ≤ n := by
  rcases few_part f n with ⟨e, _⟩ | ⟨k, e, h, _⟩ <;> omega
theorem few_star (f : Nat → Bool) (n : Nat) : fewF f n ≠ -1 ↔ Star f n := by
  rw [← manyF_star]
  rcases few_part f n with ⟨e, h⟩ | ⟨k, e, _, h, _⟩
  · constructor
    · intro h; exact absurd e h
    · intro hp
      have : manyF f n = 0 := by
        rw [← partS_many f (n + 1) n (by omega)]
        have : ∀ m, partS f n m = 0 := by
          intro m
          induction m with
          | zero => rfl
          | succ m ih => rw [partS, ih, h m]
        exact this _
      omega
  · constructor
    · intro _; exact Nat.lt_of_lt_of_le h (partF_many f k n)
    · intro _; omega

end Go.Proofs.Ytojjfkabepkhdaa
