/-
  What is made of sets, as functions from numbers to truths: plain facts.
-/
import Derived.Test.YtojjfkabepkhdaaSetDef
namespace Go.Proofs.Ytojjfkabepkhdaa

/-- Is k from a to b? -/
def inR (k : Int) (a b : Int) : Bool := decide (a ≤ k) && decide (k ≤ b)
theorem inR_cases (k a b : Int) : (inR k a b = true ∧ a ≤ k ∧ k ≤ b) ∨ (inR k a b = false ∧ (k < a ∨ b < k)) := by
  unfold inR
  rcases Int.lt_or_le k a with h | h
  · exact .inr ⟨by rw [decide_eq_false (by omega)]; rfl, .inl h⟩
  · rcases Int.lt_or_le b k with h2 | h2
    · exact .inr ⟨by rw [decide_eq_false (show ¬ k ≤ b by omega), Bool.and_false], .inr h2⟩
    · exact .inl ⟨by rw [decide_eq_true h, decide_eq_true h2]; rfl, h, h2⟩

theorem fS_round (s : ByteArray) (n : Nat) (h : (setT s).length ≤ n) : fS s (n + (setR s).length) = fS s n := hasB_round _ _ n h
theorem fS_rounds (s : ByteArray) (n k : Nat) (h : (setT s).length ≤ n) : fS s (n + k * (setR s).length) = fS s n := hasB_rounds _ _ n k h

/-- k less. -/
def downF (f : Nat → Bool) (k n : Nat) : Bool := f (n + k)
theorem downF_round (s : ByteArray) (k n : Nat) (h : (setT s).length - k ≤ n) : downF (fS s) k (n + (setR s).length) = downF (fS s) k n := by
  unfold downF
  rw [show n + (setR s).length + k = (n + k) + (setR s).length from by omega, fS_round _ _ (by omega)]
/-- k more. -/
def upF (f : Nat → Bool) (k n : Nat) : Bool := decide (k ≤ n) && f (n - k)
theorem upF_eq (t r : List Bool) (k : Nat) : hasB (List.replicate k false ++ t) r = upF (hasB t r) k := by
  funext n
  unfold upF hasB
  rw [List.length_append, List.length_replicate]
  rcases Nat.lt_or_ge n k with h | h
  · rw [if_pos (by omega), decide_eq_false (by omega), Bool.false_and, List.getD_eq_getElem?_getD, List.getElem?_append_left (by simpa using h), List.getElem?_replicate, if_pos h]; rfl
  · rw [decide_eq_true h, Bool.true_and]
    by_cases h2 : n - k < t.length
    · rw [if_pos (by omega), if_pos h2, List.getD_eq_getElem?_getD, List.getElem?_append_right (by simpa using h), List.length_replicate, ← List.getD_eq_getElem?_getD]
    · rw [if_neg (by omega), if_neg h2, show n - (k + t.length) = n - k - t.length from by omega]
/-- Times k, k greater than 0. -/
def timesF (f : Nat → Bool) (k n : Nat) : Bool := decide (n % k = 0) && f (n / k)
theorem timesF_round (s : ByteArray) (k n : Nat) (hk : 0 < k) (h : k * (setT s).length ≤ n) : timesF (fS s) k (n + k * (setR s).length) = timesF (fS s) k n := by
  unfold timesF
  rw [Nat.add_mul_mod_self_left, Nat.add_mul_div_left _ _ hk]
  rw [fS_round s (n / k) ((Nat.le_div_iff_mul_le hk).2 (by rw [Nat.mul_comm]; exact h))]
/-- Times 0: just 0, if there is a number at all. -/
def zeroF (b : Bool) (n : Nat) : Bool := decide (n = 0) && b
theorem zeroF_eq (b : Bool) : hasB [b] [false] = zeroF b := by
  funext n
  unfold zeroF
  cases n with
  | zero => cases b <;> rfl
  | succ n =>
    rw [show n + 1 = [b].length + n from by simp; omega, hasB_ring]
    simp [Nat.mod_one]
/-- A truth, or one of the first ones. -/
def orTo (b : Bool) (t : List Bool) (i : Nat) : Bool := b || (t.take i).any id
theorem orTo_zero (b : Bool) (t : List Bool) : orTo b t 0 = b := by simp [orTo]
theorem orTo_succ (b : Bool) (t : List Bool) (i : Nat) (h : i < t.length) : orTo b t (i + 1) = (orTo b t i || t.getD i false) := by
  unfold orTo
  rw [List.take_succ_eq_append_getElem h, List.any_append, List.getD_eq_getElem?_getD, List.getElem?_eq_getElem h]
  simp [Bool.or_assoc]
/-- Has a set a number? -/
def someS (s : ByteArray) : Bool := orTo ((setR s).any id) (setT s) (setT s).length
theorem some_any (l : List Bool) : l.any id = true ↔ ∃ i, i < l.length ∧ l.getD i false = true := by
  rw [List.any_eq_true]
  constructor
  · rintro ⟨x, hx, h⟩
    obtain ⟨i, hi, rfl⟩ := List.getElem_of_mem hx
    exact ⟨i, hi, by rw [List.getD_eq_getElem?_getD, List.getElem?_eq_getElem hi]; exact h⟩
  · rintro ⟨i, hi, h⟩
    rw [List.getD_eq_getElem?_getD, List.getElem?_eq_getElem hi] at h
    exact ⟨l[i], List.getElem_mem hi, h⟩
theorem someS_iff (s : ByteArray) (h0 : 0 < (setR s).length) : someS s = true ↔ ∃ n, fS s n = true := by
  unfold someS orTo
  rw [List.take_length, Bool.or_eq_true, some_any, some_any]
  constructor
  · rintro (⟨i, hi, h⟩ | ⟨i, hi, h⟩)
    · exact ⟨(setT s).length + i, by rw [fS_eq, hasB_ring, Nat.mod_eq_of_lt hi]; exact h⟩
    · exact ⟨i, by rw [fS_eq, hasB_tail _ _ _ hi]; exact h⟩
  · rintro ⟨n, h⟩
    rw [fS_eq] at h
    rcases Nat.lt_or_ge n (setT s).length with k | k
    · exact .inr ⟨n, k, by rw [hasB_tail _ _ _ k] at h; exact h⟩
    · obtain ⟨j, rfl⟩ : ∃ j, n = (setT s).length + j := ⟨n - (setT s).length, by omega⟩
      rw [hasB_ring] at h
      exact .inl ⟨_, Nat.mod_lt _ h0, h⟩
/-- What MakeTimes makes. -/
def timesAll (s : ByteArray) (k : Nat) : Nat → Bool := if k = 0 then zeroF (someS s) else timesF (fS s) k
/-- Each k-th number from r on. -/
def everyF (f : Nat → Bool) (k r n : Nat) : Bool := f (k * n + r)
theorem everyF_round (s : ByteArray) (k r n : Nat) (hk : 0 < k) (h : (setT s).length ≤ n) : everyF (fS s) k r (n + (setR s).length) = everyF (fS s) k r n := by
  unfold everyF
  have h1 : n ≤ k * n := Nat.le_mul_of_pos_left n hk
  rw [Nat.mul_add, show k * n + k * (setR s).length + r = (k * n + r) + k * (setR s).length from by omega, fS_rounds _ _ _ (by omega)]
/-- Is one of k numbers from x on there? -/
def someF (f : Nat → Bool) (x : Nat) : Nat → Bool
  | 0 => false
  | k + 1 => someF f x k || f (x + k)
theorem someF_iff (f : Nat → Bool) (x k : Nat) : someF f x k = true ↔ ∃ i, i < k ∧ f (x + i) = true := by
  induction k with
  | zero => simp [someF]
  | succ k ih =>
    unfold someF
    rw [Bool.or_eq_true, ih]
    constructor
    · rintro (⟨i, hi, h⟩ | h)
      · exact ⟨i, by omega, h⟩
      · exact ⟨k, by omega, h⟩
    · rintro ⟨i, hi, h⟩
      by_cases e : i = k
      · subst e; exact .inr h
      · exact .inl ⟨i, by omega, h⟩
/-- Whole parts over k. -/
def overF (f : Nat → Bool) (k n : Nat) : Bool := someF f (k * n) k
theorem someF_congr {f : Nat → Bool} {x y : Nat} (k : Nat) (h : ∀ i, i < k → f (x + i) = f (y + i)) : someF f x k = someF f y k := by
  induction k with
  | zero => rfl
  | succ k ih => unfold someF; rw [ih (fun i hi => h i (by omega)), h k (by omega)]
theorem overF_round (s : ByteArray) (k n : Nat) (hk : 0 < k) (h : (setT s).length ≤ n) : overF (fS s) k (n + (setR s).length) = overF (fS s) k n := by
  unfold overF
  have h1 : n ≤ k * n := Nat.le_mul_of_pos_left n hk
  refine someF_congr k fun i _ => ?_
  rw [Nat.mul_add, show k * n + k * (setR s).length + i = (k * n + i) + k * (setR s).length from by omega, fS_rounds _ _ _ (by omega)]

/-- Two sets together: a truth for each of the four cases, by the bits of a number. -/
def bitOf (kind : Nat) (x y : Bool) : Bool := (kind / 2 ^ (2 * x.toNat + y.toNat)) % 2 == 1
def twoF (kind : Nat) (f g : Nat → Bool) (n : Nat) : Bool := bitOf kind (f n) (g n)
theorem twoF_round (kind : Nat) (s t : ByteArray) (m p n : Nat) (h1 : (setT s).length ≤ m) (h2 : (setT t).length ≤ m) (h3 : ∃ k, p = k * (setR s).length) (h4 : ∃ k, p = k * (setR t).length) (h : m ≤ n) :
    twoF kind (fS s) (fS t) (n + p) = twoF kind (fS s) (fS t) n := by
  obtain ⟨k1, e1⟩ := h3
  obtain ⟨k2, e2⟩ := h4
  have a1 : fS s (n + p) = fS s n := by rw [e1]; exact fS_rounds s n k1 (by omega)
  have a2 : fS t (n + p) = fS t n := by rw [e2]; exact fS_rounds t n k2 (by omega)
  unfold twoF
  rw [a1, a2]
theorem twoF_either (f g : Nat → Bool) : twoF 14 f g = fun n => f n || g n := by
  funext n; unfold twoF; cases f n <;> cases g n <;> rfl
theorem twoF_both (f g : Nat → Bool) : twoF 8 f g = fun n => f n && g n := by
  funext n; unfold twoF; cases f n <;> cases g n <;> rfl
theorem twoF_without (f g : Nat → Bool) : twoF 4 f g = fun n => f n && !g n := by
  funext n; unfold twoF; cases f n <;> cases g n <;> rfl
theorem twoF_other (f : Nat → Bool) : twoF 1 f f = fun n => !f n := by
  funext n; unfold twoF; cases f n <;> rfl
end Go.Proofs.Ytojjfkabepkhdaa
