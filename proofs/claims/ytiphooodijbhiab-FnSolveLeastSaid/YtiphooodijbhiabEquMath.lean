/-
  The least set that solves two sets, what solves them, and how far one has to look: plain facts.
-/
import Derived.Test.YtiphooodijbhiabStarRound
import Derived.Test.YtiphooodijbhiabRestMath
set_option linter.unusedSimpArgs false
set_option linter.unusedVariables false
namespace Go.Proofs.Ytiphooodijbhiab
open Go.RowKit

/-- The least set that has g and all sums of a number of f and one of its own. -/
noncomputable def lowF (f g : Nat → Bool) : Nat → Bool := sumG false (starB f) g
theorem lowF_iff {f g : Nat → Bool} {n : Nat} : lowF f g n = true ↔ ∃ x y, x + y = n ∧ Star f x ∧ g y = true := by
  unfold lowF
  rw [sumG_iff]
  constructor
  · rintro ⟨x, y, e, h1, h2, _⟩; exact ⟨x, y, e, starB_iff.1 h1, h2⟩
  · rintro ⟨x, y, e, h1, h2⟩; exact ⟨x, y, e, starB_iff.2 h1, h2, by simp⟩
theorem low_base {f g : Nat → Bool} {n : Nat} (h : g n = true) : lowF f g n = true := lowF_iff.2 ⟨0, n, Nat.zero_add _, star_zero f, h⟩
theorem low_add {f g : Nat → Bool} {k y : Nat} (h : lowF f g k = true) (hy : f y = true) : lowF f g (k + y) = true := by
  obtain ⟨a, b, e, h1, h2⟩ := lowF_iff.1 h
  exact lowF_iff.2 ⟨a + y, b, by omega, star_add h1 (star_one hy), h2⟩
theorem low_split {f g : Nat → Bool} {n : Nat} (h : lowF f g n = true) : g n = true ∨ ∃ k, k < n ∧ lowF f g k = true ∧ f (n - k) = true := by
  obtain ⟨x, y, e, h1, h2⟩ := lowF_iff.1 h
  rcases Nat.eq_zero_or_pos x with rfl | hx
  · left; rw [← e, Nat.zero_add]; exact h2
  · obtain ⟨z, k1, k2, k3, k4⟩ := star_split h1 hx
    refine .inr ⟨n - z, by omega, lowF_iff.2 ⟨x - z, y, by omega, k4, h2⟩, ?_⟩
    rw [show n - (n - z) = z from by omega]; exact k1
/-- Is n a sum of a lesser number of such a set and one of f? -/
def addT (f h : Nat → Bool) (n k : Nat) : Bool := h k && f (n - k)
theorem lowF_step (f g : Nat → Bool) (n : Nat) : lowF f g n = (g n || someF (addT f (lowF f g) n) 0 n) := by
  apply bool_iff
  rw [Bool.or_eq_true, someF_iff]
  constructor
  · intro h
    rcases low_split h with h | ⟨k, h1, h2, h3⟩
    · exact .inl h
    · refine .inr ⟨k, h1, ?_⟩
      unfold addT
      rw [Nat.zero_add, h2, h3]; rfl
  · rintro (h | ⟨k, h1, h2⟩)
    · exact low_base h
    · unfold addT at h2
      rw [Nat.zero_add, Bool.and_eq_true] at h2
      have := low_add h2.1 h2.2
      rw [show k + (n - k) = n from by omega] at this
      exact this
/-- The same, by the number of f. -/
def addR (f h : Nat → Bool) (n y : Nat) : Bool := f y && h (n - y)
theorem lowF_model (f g : Nat → Bool) (n : Nat) : lowF f g n = (g n || someF (addR f (lowF f g) n) 1 n) := by
  rw [lowF_step]
  congr 1
  apply bool_iff
  rw [someF_iff, someF_iff]
  unfold addT addR
  constructor
  · rintro ⟨k, h1, h2⟩
    rw [Nat.zero_add, Bool.and_eq_true] at h2
    refine ⟨n - k - 1, by omega, ?_⟩
    rw [show 1 + (n - k - 1) = n - k from by omega, show n - (n - k) = k from by omega, h2.1, h2.2]; rfl
  · rintro ⟨k, h1, h2⟩
    rw [Bool.and_eq_true] at h2
    refine ⟨n - (1 + k), by omega, ?_⟩
    rw [Nat.zero_add, show n - (n - (1 + k)) = 1 + k from by omega, h2.1, h2.2]; rfl
/-- Sixteen numbers tell whether it has all. -/
theorem low_all {f g : Nat → Bool} (hf : Small f) (hg : Small g) (h : ∀ k, k < 16 → lowF f g k = true) (n : Nat) : lowF f g n = true := by
  rcases least_or f with ⟨m, hm⟩ | hno
  · have h15 := hm.small hf
    have h0 := hm.pos
    induction n using Nat.strongRecOn with
    | ind n ih =>
      rcases Nat.lt_or_ge n 16 with e | e
      · exact h n e
      · have := low_add (ih (n - m) (by omega)) hm.is
        rw [show n - m + m = n from by omega] at this
        exact this
  · have e : ∀ n, lowF f g n = g n := fun n => by
      rw [lowF_step]
      have : someF (addT f (lowF f g) n) 0 n = false := by
        cases e : someF (addT f (lowF f g) n) 0 n
        · rfl
        · obtain ⟨k, h1, h2⟩ := (someF_iff _ _ _).1 e
          unfold addT at h2
          rw [Nat.zero_add, hno (n - k) (by omega)] at h2
          simp at h2
      rw [this, Bool.or_false]
    obtain ⟨t, p, ht, h1, h2⟩ := hg
    have h0 := ht.pos
    induction n using Nat.strongRecOn with
    | ind n ih =>
      rcases Nat.lt_or_ge n 16 with k | k
      · exact h n k
      · have h3 := ih (n - p) (by omega)
        rw [e] at h3 ⊢
        have h4 := ht.per (n - p) (by omega)
        rw [show n - p + p = n from by omega] at h4
        rw [h4]; exact h3

/-- How many numbers less than n are in f. -/
def countF (f : Nat → Bool) : Nat → Nat
  | 0 => 0
  | n + 1 => countF f n + (f n).toNat
theorem countF_zero (f : Nat → Bool) : countF f 0 = 0 := rfl
theorem countF_on {f : Nat → Bool} {n : Nat} (h : f n = true) : countF f (n + 1) = countF f n + 1 := by show countF f n + (f n).toNat = _; rw [h]; rfl
theorem countF_off {f : Nat → Bool} {n : Nat} (h : f n = false) : countF f (n + 1) = countF f n := by show countF f n + (f n).toNat = _; rw [h]; rfl
theorem countF_le (f : Nat → Bool) (n : Nat) : countF f n ≤ n := by
  induction n with
  | zero => exact Nat.le_refl _
  | succ n ih => show countF f n + (f n).toNat ≤ _; have := Bool.toNat_le (f n); omega
theorem countF_mono {f g : Nat → Bool} (h : ∀ k, f k = true → g k = true) (n : Nat) : countF f n ≤ countF g n := by
  induction n with
  | zero => exact Nat.le_refl _
  | succ n ih =>
    show countF f n + (f n).toNat ≤ countF g n + (g n).toNat
    have := h n
    cases e : f n
    · simp; omega
    · rw [this e]; omega
theorem countF_all {f : Nat → Bool} {n : Nat} : countF f n = n ↔ ∀ k, k < n → f k = true := by
  induction n with
  | zero => exact ⟨fun _ k h => absurd h (Nat.not_lt_zero _), fun _ => rfl⟩
  | succ n ih =>
    have h1 := countF_le f n
    have h2 := Bool.toNat_le (f n)
    constructor
    · intro h k hk
      have h : countF f n + (f n).toNat = n + 1 := h
      rcases Nat.lt_or_ge k n with e | e
      · exact ih.1 (by omega) k e
      · obtain rfl : k = n := by omega
        cases e2 : f k
        · rw [e2] at h; simp at h; omega
        · rfl
    · intro h
      rw [countF_on (h n (by omega)), ih.2 fun k hk => h k (by omega)]
theorem countF_congr {f g : Nat → Bool} {n : Nat} (h : ∀ k, k < n → f k = g k) : countF f n = countF g n := by
  induction n with
  | zero => rfl
  | succ n ih => show countF f n + (f n).toNat = countF g n + (g n).toNat; rw [ih fun k hk => h k (by omega), h n (by omega)]

/-- Does just one set solve? -/
noncomputable def oneV (f g : Nat → Bool) : Bool := !f 0 || decide (countF (lowF f g) 16 = 16)
theorem one_far {f g : Nat → Bool} (hf : Small f) (hg : Small g) {N : Nat} (hN : 16 ≤ N) : countF (lowF f g) N = N ↔ countF (lowF f g) 16 = 16 := by
  rw [countF_all, countF_all]
  constructor
  · intro h k hk; exact h k (by omega)
  · intro h k _; exact low_all hf hg h k

/-- What a set has to have, to solve. -/
def dueF (f g x : Nat → Bool) (n : Nat) : Bool := g n || sumG false f x n
noncomputable def isV (f g x : Nat → Bool) : Bool := @decide (dueF f g x = x) (Classical.propDecidable _)
theorem isV_iff {f g x : Nat → Bool} : isV f g x = true ↔ dueF f g x = x := @decide_eq_true_iff _ (Classical.propDecidable _)
theorem far_same {a b : Nat → Bool} {t r : Nat} (hr : 0 < r) (ha : ∀ n, t ≤ n → a (n + r) = a n) (hb : ∀ n, t ≤ n → b (n + r) = b n) (h : ∀ n, n < t + r → a n = b n) : a = b := by
  funext n
  induction n using Nat.strongRecOn with
  | ind n ih =>
    rcases Nat.lt_or_ge n (t + r) with e | e
    · exact h n e
    · have h1 := ha (n - r) (by omega)
      have h2 := hb (n - r) (by omega)
      rw [show n - r + r = n from by omega] at h1 h2
      rw [h1, h2]; exact ih (n - r) (by omega)
theorem dueF_round {f g x : Nat → Bool} {m p t q : Nat} (hp : 0 < p) (hq : 0 < q) (hf : ∀ n, m ≤ n → f (n + p) = f n) (hx : ∀ n, m ≤ n → x (n + p) = x n) (hg : ∀ n, t ≤ n → g (n + q) = g n) (n : Nat) (hn : 2 * m + 2 * p + t ≤ n) :
    dueF f g x (n + p * q) = dueF f g x n := by
  unfold dueF
  have h1 : g (n + p * q) = g n := per_rounds hg p n (by omega)
  have h2 : sumG false f x (n + p * q) = sumG false f x n := by
    rw [Nat.mul_comm]
    exact per_rounds (m := 2 * m + p) (fun n hn => sum_round hp hf hx n hn) q n (by omega)
  rw [h1, h2]
/-- So far tells whether it solves. -/
theorem is_far {f g x : Nat → Bool} {m p t q : Nat} (hp : 0 < p) (hq : 0 < q) (hf : ∀ n, m ≤ n → f (n + p) = f n) (hx : ∀ n, m ≤ n → x (n + p) = x n) (hg : ∀ n, t ≤ n → g (n + q) = g n) :
    isV f g x = true ↔ ∀ n, n < 2 * m + 2 * p + t + p * q → dueF f g x n = x n := by
  rw [isV_iff]
  constructor
  · intro h n _; rw [h]
  · intro h
    refine far_same (Nat.mul_pos hp hq) (dueF_round hp hq hf hx hg) (fun n hn => ?_) h
    rw [Nat.mul_comm]
    exact per_rounds hx q n (by omega)
/-- The numbers of what solves come from ones that are less by a number of f. -/
theorem back_one {f x : Nat → Bool} {m q y n : Nat} (hx : ∀ n, m ≤ n → x (n + q) = x n) (hs : ∀ a b, f a = true → x b = true → x (a + b) = true) (hq : 0 < q) (hy : f y = true) (hn : m + y ≤ n) (h : x n = true) : x (n - y) = true := by
  have up : ∀ k, x (n + k * y) = true := fun k => by
    induction k with
    | zero => rw [Nat.zero_mul, Nat.add_zero]; exact h
    | succ k ih => have := hs y _ hy ih; rw [show n + (k + 1) * y = y + (n + k * y) from by rw [Nat.succ_mul]; omega]; exact this
  have h1 := up (q - 1)
  have h2 := per_rounds hx y (n - y) (by omega)
  have e : n - y + y * q = n + (q - 1) * y := by
    obtain ⟨q', rfl⟩ : ∃ q', q = q' + 1 := ⟨q - 1, by omega⟩
    rw [Nat.add_sub_cancel, Nat.mul_succ, Nat.mul_comm y q']; omega
  rw [e] at h2
  rw [← h2]; exact h1
/-- A sum with what solves is never too long. -/
theorem is_told {f g x : Nat → Bool} (hf : Small f) (hx : Small x) (h : dueF f g x = x) : ∃ m q, Tidy (sumG false f x) m q ∧ m ≤ 60 ∧ q ≤ 60 := by
  have hs : ∀ a b, f a = true → x b = true → x (a + b) = true := fun a b h1 h2 => by
    rw [← h]; unfold dueF
    rw [Bool.or_eq_true]; exact .inr (sumG_iff.2 ⟨a, b, rfl, h1, h2, by simp⟩)
  obtain ⟨m, q, ht, h1, h2⟩ := hx
  have hq := ht.pos
  by_cases hne : ∃ y, f y = true
  · obtain ⟨y, hy, hyl⟩ : ∃ y, f y = true ∧ y ≤ 15 := by
      rcases least_or f with ⟨k, hk⟩ | hno
      · exact ⟨k, hk.is, hk.small hf⟩
      · obtain ⟨y, hy⟩ := hne
        refine ⟨y, hy, ?_⟩
        rcases Nat.eq_zero_or_pos y with rfl | k
        · omega
        · rw [hno y k] at hy; cases hy
    have e : ∀ n, 23 ≤ n → sumG false f x n = x n := fun n hn => by
      apply bool_iff
      rw [sumG_iff]
      constructor
      · rintro ⟨a, b, rfl, k1, k2, _⟩; exact hs a b k1 k2
      · intro k
        exact ⟨y, n - y, by omega, hy, back_one ht.per hs hq hy (by omega) k, by simp⟩
    obtain ⟨m', q', h3, h4, h5⟩ := tidy_per (g := sumG false f x) (m := 23) (p := q) hq (fun n hn => by rw [e (n + q) (by omega), e n hn]; exact ht.per n (by omega))
    exact ⟨m', q', h3, by omega, by omega⟩
  · have e : ∀ n, sumG false f x n = false := fun n => by
      cases k : sumG false f x n
      · rfl
      · obtain ⟨a, b, _, k1, _⟩ := sumG_iff.1 k
        exact absurd ⟨a, k1⟩ hne
    obtain ⟨m', q', h3, h4, h5⟩ := tidy_per (g := sumG false f x) (m := 0) (p := 1) (by decide) (fun n hn => by rw [e, e])
    exact ⟨m', q', h3, by omega, by omega⟩

/-- A set with each number one greater. -/
def nextF (f : Nat → Bool) (n : Nat) : Bool := decide (0 < n) && f (n - 1)
/-- The two sets of SolveTwo: the first is the least one of the first set with each number one greater. -/
noncomputable def twoX (f g : Nat → Bool) : Nat → Bool := lowF (nextF f) g
theorem twoX_model (f g : Nat → Bool) (n : Nat) : twoX f g n = (g n || someF (fun y => f y && twoX f g (n - y - 1)) 0 n) := by
  unfold twoX
  rw [lowF_model]
  congr 1
  apply bool_iff
  rw [someF_iff, someF_iff]
  unfold addR nextF
  constructor
  · rintro ⟨k, h1, h2⟩
    rw [decide_eq_true (by omega), Bool.true_and, Bool.and_eq_true, show 1 + k - 1 = k from by omega] at h2
    refine ⟨k, h1, ?_⟩
    rw [Nat.zero_add, h2.1, show n - k - 1 = n - (1 + k) from by omega, h2.2]; rfl
  · rintro ⟨k, h1, h2⟩
    rw [Nat.zero_add, Bool.and_eq_true] at h2
    refine ⟨k, h1, ?_⟩
    rw [decide_eq_true (by omega), Bool.true_and, show 1 + k - 1 = k from by omega, h2.1, show n - (1 + k) = n - k - 1 from by omega, h2.2]; rfl
/-- The second one. -/
noncomputable def twoY (f g : Nat → Bool) (n : Nat) : Bool := decide (0 < n) && twoX f g (n - 1)
theorem twoX_step (f g : Nat → Bool) (n : Nat) : twoX f g n = (g n || (twoY f g n && f 0 || someF (addT f (twoY f g) n) 0 n)) := by
  rw [twoX_model]
  congr 1
  apply bool_iff
  rw [someF_iff, Bool.or_eq_true, someF_iff]
  unfold addT twoY
  constructor
  · rintro ⟨k, h1, h2⟩
    rw [Nat.zero_add, Bool.and_eq_true] at h2
    rcases Nat.eq_zero_or_pos k with rfl | hk
    · left
      rw [decide_eq_true (by omega), Bool.true_and, h2.1, show n - 1 = n - 0 - 1 from by omega, h2.2]; rfl
    · refine .inr ⟨n - k, by omega, ?_⟩
      rw [Nat.zero_add, decide_eq_true (by omega), Bool.true_and, h2.2, show n - (n - k) = k from by omega, h2.1]; rfl
  · rintro (h | ⟨k, h1, h2⟩)
    · rw [Bool.and_eq_true, Bool.and_eq_true, decide_eq_true_iff] at h
      refine ⟨0, h.1.1, ?_⟩
      rw [Nat.zero_add, h.2, show n - 0 - 1 = n - 1 from by omega, h.1.2]; rfl
    · rw [Nat.zero_add, Bool.and_eq_true, Bool.and_eq_true, decide_eq_true_iff] at h2
      refine ⟨n - k, by omega, ?_⟩
      rw [Nat.zero_add, h2.2, show n - (n - k) - 1 = k - 1 from by omega, h2.1.2]; rfl

/-- Where 0 is not in f, what solves is the least one. -/
theorem is_low {f g x : Nat → Bool} (h : dueF f g x = x) (n : Nat) (hl : lowF f g n = true) : x n = true := by
  induction n using Nat.strongRecOn with
  | ind n ih =>
    rw [← h]; unfold dueF
    rw [Bool.or_eq_true]
    rcases low_split hl with e | ⟨k, h1, h2, h3⟩
    · exact .inl e
    · exact .inr (sumG_iff.2 ⟨n - k, k, by omega, h3, ih k h1 h2, by simp⟩)
theorem low_is {f g x : Nat → Bool} (h0 : f 0 = false) (h : dueF f g x = x) (n : Nat) (hx : x n = true) : lowF f g n = true := by
  induction n using Nat.strongRecOn with
  | ind n ih =>
    rw [← h] at hx; unfold dueF at hx
    rw [Bool.or_eq_true] at hx
    rcases hx with e | e
    · exact low_base e
    · obtain ⟨a, b, e2, h1, h2, _⟩ := sumG_iff.1 e
      rcases Nat.eq_zero_or_pos a with rfl | ha
      · rw [h0] at h1; cases h1
      · have := low_add (ih b (by omega) h2) h1
        rw [show b + a = n from by omega] at this
        exact this
theorem low_due (f g : Nat → Bool) : dueF f g (lowF f g) = lowF f g := by
  funext n
  apply bool_iff
  unfold dueF
  rw [Bool.or_eq_true]
  constructor
  · rintro (h | h)
    · exact low_base h
    · obtain ⟨a, b, e2, h1, h2, _⟩ := sumG_iff.1 h
      have := low_add h2 h1
      rw [show b + a = n from by omega] at this
      exact this
  · intro h
    rcases low_split h with e | ⟨k, h1, h2, h3⟩
    · exact .inl e
    · exact .inr (sumG_iff.2 ⟨n - k, k, by omega, h3, h2, by simp⟩)

/-- Is the star of a set small? -/
noncomputable def starSmall (f : Nat → Bool) : Bool := @decide (Small (starB f)) (Classical.propDecidable _)
theorem starSmall_iff {f : Nat → Bool} : starSmall f = true ↔ Small (starB f) := @decide_eq_true_iff _ (Classical.propDecidable _)
noncomputable def leastOk (s t : ByteArray) : Bool := smallS s && starSmall (fS s) && smallS t
theorem small_empty : smallS ⟨#[]⟩ = false := smallS_off (by decide)
/-- The text of a star, as a small set. -/
theorem star_text {s T : ByteArray} {b : Bool} (h : MakeIs (smallS s) (starB (fS s)) T b) : smallS T = (smallS s && starSmall (fS s)) ∧ (smallS T = true → fS T = starB (fS s)) := by
  cases hs : smallS s
  · obtain ⟨rfl, rfl⟩ := h.2 hs
    rw [small_empty]
    exact ⟨rfl, fun h => by cases h⟩
  · rcases h.1 hs with ⟨rfl, hT⟩ | ⟨rfl, rfl, m, q, ht, hn⟩
    · have e := hT.told
      refine ⟨?_, fun _ => e.set⟩
      apply bool_iff
      rw [smallS_iff, e.ok, e.set, Bool.true_and, starSmall_iff]
      exact ⟨fun h => h.2, fun h => ⟨rfl, h⟩⟩
    · refine ⟨?_, fun h => by rw [small_empty] at h; cases h⟩
      rw [small_empty, Bool.true_and]
      cases e : starSmall (fS s)
      · rfl
      · obtain ⟨m', q', ht', h1, h2⟩ := starSmall_iff.1 e
        obtain ⟨rfl, rfl⟩ := tidy_unique ht ht'
        exact absurd ⟨by omega, by omega⟩ hn
/-- The sum of a star and a set, out of their texts. -/
theorem least_is {s t T U : ByteArray} {b c : Bool} (h : MakeIs (smallS s) (starB (fS s)) T b) (h2 : MakeIs (smallS T && smallS t) (sumG false (fS T) (fS t)) U c) : MakeIs (leastOk s t) (lowF (fS s) (fS t)) U c := by
  obtain ⟨e1, e2⟩ := star_text h
  have e3 : (smallS T && smallS t) = leastOk s t := by rw [e1]; rfl
  refine ⟨fun hk => ?_, fun hk => h2.2 (e3.trans hk)⟩
  have h3 := h2.1 (e3.trans hk)
  have hT : smallS T = true := by
    have := e3.trans hk
    rw [Bool.and_eq_true] at this
    exact this.1
  rw [e2 hT] at h3
  exact h3
theorem least_off {s t : ByteArray} {b : Bool} {T : ByteArray} (h : MakeIs (smallS s) (starB (fS s)) T b) (hb : b = false) : leastOk s t = false := by
  subst hb
  obtain ⟨e1, _⟩ := star_text h
  have : T = ⟨#[]⟩ := by
    cases hs : smallS s
    · exact (h.2 hs).1
    · rcases h.1 hs with ⟨e, _⟩ | ⟨_, e, _⟩
      · cases e
      · exact e
  subst this
  unfold leastOk
  rw [← e1, small_empty]; rfl
theorem leastOk_small {s t : ByteArray} (h : leastOk s t = true) : smallS s = true ∧ smallS t = true := by
  unfold leastOk at h
  rw [Bool.and_eq_true, Bool.and_eq_true] at h
  exact ⟨h.1.1, h.2⟩

/-- The greatest set that solves. -/
def allF (_ : Nat) : Bool := true
theorem tidy_all : Tidy allF 0 1 := ⟨by decide, fun _ _ => rfl, fun d hd => hd.1, .inl rfl⟩
theorem tidyText_all : TidyText allF ⟨#[40, 49, 41]⟩ := ⟨0, 1, tidy_all, by decide, by decide, by decide⟩
noncomputable def mostF (f g : Nat → Bool) : Nat → Bool := if f 0 = true then allF else lowF f g
noncomputable def mostOk (s t : ByteArray) : Bool := smallS s && smallS t && (fS s 0 || starSmall (fS s))
theorem most_all {s t : ByteArray} (h1 : smallS s = true) (h2 : smallS t = true) (h0 : fS s 0 = true) : MakeIs (mostOk s t) (mostF (fS s) (fS t)) ⟨#[40, 49, 41]⟩ true := by
  have e : mostOk s t = true := by unfold mostOk; rw [h1, h2, h0]; rfl
  refine ⟨fun _ => .inl ⟨rfl, ?_⟩, fun h => by rw [e] at h; cases h⟩
  unfold mostF
  rw [if_pos h0]; exact tidyText_all
theorem most_low {s t U : ByteArray} {c : Bool} (h0 : smallS s = true → smallS t = true → fS s 0 = false) (h : MakeIs (leastOk s t) (lowF (fS s) (fS t)) U c) : MakeIs (mostOk s t) (mostF (fS s) (fS t)) U c := by
  by_cases hb : smallS s = true ∧ smallS t = true
  · have h0 := h0 hb.1 hb.2
    have e : mostOk s t = leastOk s t := by unfold mostOk leastOk; rw [hb.1, hb.2, h0]; simp
    have e2 : mostF (fS s) (fS t) = lowF (fS s) (fS t) := by unfold mostF; rw [h0]; rfl
    rw [e, e2]; exact h
  · have e : leastOk s t = false := by
      cases k : leastOk s t
      · rfl
      · exact absurd (leastOk_small k) hb
    have e2 : mostOk s t = false := by
      unfold mostOk
      cases k1 : smallS s
      · rfl
      · cases k2 : smallS t
        · rfl
        · exact absurd ⟨k1, k2⟩ hb
    obtain ⟨rfl, rfl⟩ := h.2 e
    exact makeIs_off e2

noncomputable def isW (s t x : ByteArray) : Bool := smallS s && smallS t && smallS x && isV (fS s) (fS t) (fS x)
noncomputable def hasW (s t : ByteArray) (n : Int) : Bool := smallS s && smallS t && inR n 0 500 && lowF (fS s) (fS t) n.toNat
noncomputable def oneW (s t : ByteArray) : Bool := smallS s && smallS t && oneV (fS s) (fS t)
noncomputable def twoOk (s t : ByteArray) (n : Int) : Bool := smallS s && smallS t && inR n 0 500
noncomputable def twoN (s t : ByteArray) (n : Int) : Int := if twoOk s t n = true then ((countF (twoX (fS s) (fS t)) n.toNat : Nat) : Int) else 0

end Go.Proofs.Ytiphooodijbhiab
