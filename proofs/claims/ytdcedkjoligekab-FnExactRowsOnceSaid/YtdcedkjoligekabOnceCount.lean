/-
  How many rows must cover once: the false rows and the prime powers of the rests by a prime: plain facts.
-/
import Derived.Test.YtdcedkjoligekabOnceSlice
import Derived.Test.YtdcedkjoligekabOnceLcm
namespace Go.Proofs.Ytdcedkjoligekab
set_option linter.unusedVariables false
set_option linter.unusedSimpArgs false

def falses (L : List FRow) : Nat := L.countP fun x => !x.2
/-- False rows of one rest by p, and false rows whose step p does not divide. -/
def fP (p v : Nat) (L : List FRow) : Nat := L.countP fun x => x.1.s % p == 0 && x.1.b % p == v && !x.2
def fN (p : Nat) (L : List FRow) : Nat := L.countP fun x => x.1.s % p != 0 && !x.2
theorem slice1_in {p v : Nat} {g : Bool} {x : FRow} (h : x.1.s % p = 0) (h2 : x.1.b % p = v) : slice1 p v g x = some (⟨x.1.b / p, x.1.s / p⟩, x.2) := by unfold slice1; rw [if_pos h, if_pos h2]
theorem slice1_out {p v : Nat} {g : Bool} {x : FRow} (h : x.1.s % p = 0) (h2 : ¬ x.1.b % p = v) : slice1 p v g x = none := by unfold slice1; rw [if_pos h, if_neg h2]
theorem slice1_off {p v : Nat} {g : Bool} {x : FRow} (h : ¬ x.1.s % p = 0) : slice1 p v g x = some (⟨bOf p v x.1.s x.1.b, x.1.s⟩, x.2 || g) := by unfold slice1; rw [if_neg h]
theorem falses_one (p v : Nat) (L : List FRow) : falses (sliceF p v false L) = fP p v L + fN p L := by
  induction L with
  | nil => rfl
  | cons x L ih =>
    unfold sliceF falses fP fN at ih ⊢
    by_cases h : x.1.s % p = 0
    · by_cases h2 : x.1.b % p = v
      · rw [List.filterMap_cons_some (slice1_in h h2), List.countP_cons, List.countP_cons, List.countP_cons, ih]; simp [h, h2]; omega
      · rw [List.filterMap_cons_none (slice1_out h h2), List.countP_cons, List.countP_cons, ih]; simp [h, h2]
    · rw [List.filterMap_cons_some (slice1_off h), List.countP_cons, List.countP_cons, List.countP_cons, ih]; simp [h]; omega
theorem falses_grown (p v : Nat) (L : List FRow) : falses (sliceF p v true L) = fP p v L := by
  induction L with
  | nil => rfl
  | cons x L ih =>
    unfold sliceF falses fP at ih ⊢
    by_cases h : x.1.s % p = 0
    · by_cases h2 : x.1.b % p = v
      · rw [List.filterMap_cons_some (slice1_in h h2), List.countP_cons, List.countP_cons, ih]; simp [h, h2]
      · rw [List.filterMap_cons_none (slice1_out h h2), List.countP_cons, ih]; simp [h2]
    · rw [List.filterMap_cons_some (slice1_off h), List.countP_cons, List.countP_cons, ih]; simp [h]
def sumTo (k : Nat) (f : Nat → Nat) : Nat := match k with | 0 => 0 | k + 1 => sumTo k f + f k
theorem sumTo_add (k : Nat) (f g : Nat → Nat) : sumTo k (fun v => f v + g v) = sumTo k f + sumTo k g := by
  induction k with
  | zero => rfl
  | succ k ih => unfold sumTo; rw [ih]; omega
theorem sumTo_le (k : Nat) {f g : Nat → Nat} (h : ∀ v, v < k → f v ≤ g v) : sumTo k f ≤ sumTo k g := by
  induction k with
  | zero => exact Nat.le_refl _
  | succ k ih =>
    unfold sumTo
    have := ih (fun v hv => h v (by omega))
    have := h k (by omega)
    omega
theorem sumTo_one (k v0 : Nat) (c : Nat) : sumTo k (fun v => if v = v0 then c else 0) = if v0 < k then c else 0 := by
  induction k with
  | zero => rfl
  | succ k ih =>
    unfold sumTo
    rw [ih]
    by_cases h : k = v0
    · subst h; simp
    · rw [if_neg h]
      by_cases h2 : v0 < k
      · rw [if_pos h2, if_pos (by omega)]; rfl
      · rw [if_neg h2, if_neg (by omega)]
theorem sumTo_const (k c : Nat) : sumTo k (fun _ => c) = k * c := by
  induction k with
  | zero => simp [sumTo]
  | succ k ih => unfold sumTo; rw [ih, Nat.succ_mul]
theorem falses_all (p : Nat) (hp : 0 < p) (L : List FRow) : falses L = fN p L + sumTo p (fun v => fP p v L) := by
  induction L with
  | nil => show 0 = 0 + sumTo p (fun _ => 0); rw [sumTo_const]; simp
  | cons x L ih =>
    have e : (fun v => fP p v (x :: L)) = fun v => fP p v L + (if v = x.1.b % p then (if x.1.s % p = 0 ∧ x.2 = false then 1 else 0) else 0) := by
      funext v
      unfold fP
      rw [List.countP_cons]
      congr 1
      by_cases h : x.1.s % p = 0 <;> by_cases h2 : v = x.1.b % p <;> cases h3 : x.2 <;> simp [h, h2, h3] <;> (try omega)
    rw [e, sumTo_add, sumTo_one, if_pos (Nat.mod_lt _ hp)]
    unfold falses fN at ih ⊢
    rw [List.countP_cons, List.countP_cons, ih]
    by_cases h : x.1.s % p = 0 <;> cases h3 : x.2 <;> simp [h] <;> omega

theorem slice_mem {p v : Nat} {g : Bool} {L : List FRow} {z : FRow} : z ∈ sliceF p v g L ↔ ∃ x ∈ L, (x.1.s % p = 0 ∧ x.1.b % p = v ∧ z = (⟨x.1.b / p, x.1.s / p⟩, x.2)) ∨ (¬ x.1.s % p = 0 ∧ z = (⟨bOf p v x.1.s x.1.b, x.1.s⟩, x.2 || g)) := by
  unfold sliceF
  rw [List.mem_filterMap]
  constructor
  · rintro ⟨x, hx, e⟩
    refine ⟨x, hx, ?_⟩
    by_cases h : x.1.s % p = 0
    · by_cases h2 : x.1.b % p = v
      · rw [slice1_in h h2] at e; injection e with e; exact .inl ⟨h, h2, e.symm⟩
      · rw [slice1_out h h2] at e; cases e
    · rw [slice1_off h] at e; injection e with e; exact .inr ⟨h, e.symm⟩
  · rintro ⟨x, hx, h⟩
    refine ⟨x, hx, ?_⟩
    rcases h with ⟨h, h2, rfl⟩ | ⟨h, rfl⟩
    · exact slice1_in h h2
    · exact slice1_off h
/-- A step is divided by d, and none of a true row's is. -/
def newIn (L : List FRow) (d : Nat) : Bool := (L.any fun x => x.1.s % d == 0) && !(L.any fun x => x.2 && x.1.s % d == 0)
theorem newIn_iff {L : List FRow} {d : Nat} : newIn L d = true ↔ (∃ x ∈ L, x.1.s % d = 0) ∧ ∀ x ∈ L, x.2 = true → ¬ x.1.s % d = 0 := by
  unfold newIn
  simp only [Bool.and_eq_true, List.any_eq_true, beq_iff_eq, Bool.not_eq_true', List.any_eq_false, not_and]
theorem div_mod {s p d : Nat} (hs : s % p = 0) (h : s / p % d = 0) : s % d = 0 := by
  have h1 : d ∣ s / p := Nat.dvd_of_mod_eq_zero h
  have h2 : s = p * (s / p) := (Nat.mul_div_cancel' (Nat.dvd_of_mod_eq_zero hs)).symm
  apply Nat.mod_eq_zero_of_dvd
  rw [h2]
  exact Nat.dvd_trans h1 (Nat.dvd_mul_left _ _)
theorem new_other {p v1 d : Nat} {L : List FRow} (hv : v1 < p) (hc : Nat.Coprime d p) (h : newIn L d = true) : ∃ v, v < p ∧ newIn (sliceF p v (v != v1) L) d = true := by
  obtain ⟨⟨x, hx, hd⟩, hn⟩ := newIn_iff.1 h
  by_cases hall : ∃ y ∈ L, ¬ y.1.s % p = 0 ∧ y.1.s % d = 0
  · obtain ⟨y, hy, h1, h2⟩ := hall
    refine ⟨v1, hv, newIn_iff.2 ⟨⟨_, slice_mem.2 ⟨y, hy, .inr ⟨h1, rfl⟩⟩, h2⟩, ?_⟩⟩
    intro z hz ht hzd
    obtain ⟨x', hx', ⟨k1, k2, rfl⟩ | ⟨k1, rfl⟩⟩ := slice_mem.1 hz
    · exact hn x' hx' ht (div_mod k1 hzd)
    · exact hn x' hx' (by simpa using ht) hzd
  · have hxp : x.1.s % p = 0 := by
      apply Classical.byContradiction
      intro k
      exact hall ⟨x, hx, k, hd⟩
    refine ⟨x.1.b % p, Nat.mod_lt _ (by omega), newIn_iff.2 ⟨⟨_, slice_mem.2 ⟨x, hx, .inl ⟨hxp, rfl, rfl⟩⟩, ?_⟩, ?_⟩⟩
    · apply Nat.mod_eq_zero_of_dvd
      show d ∣ x.1.s / p
      have h2 : x.1.s = p * (x.1.s / p) := (Nat.mul_div_cancel' (Nat.dvd_of_mod_eq_zero hxp)).symm
      have h3 := Nat.dvd_of_mod_eq_zero hd
      rw [h2] at h3
      exact hc.dvd_of_dvd_mul_left h3
    · intro z hz ht hzd
      obtain ⟨x', hx', ⟨k1, k2, rfl⟩ | ⟨k1, rfl⟩⟩ := slice_mem.1 hz
      · exact hn x' hx' ht (div_mod k1 hzd)
      · exact hall ⟨x', hx', k1, hzd⟩
theorem new_same {p v1 d : Nat} {L : List FRow} (hp : 0 < p) (hd : p ∣ d) (h : newIn L (p * d) = true) : ∃ v, v < p ∧ newIn (sliceF p v (v != v1) L) d = true := by
  obtain ⟨⟨x, hx, hm⟩, hn⟩ := newIn_iff.1 h
  have h1 := Nat.dvd_of_mod_eq_zero hm
  have hxp : x.1.s % p = 0 := Nat.mod_eq_zero_of_dvd (Nat.dvd_trans (Nat.dvd_mul_right _ _) h1)
  have up : ∀ s, s % p = 0 → (s / p % d = 0 ↔ s % (p * d) = 0) := by
    intro s hs
    obtain ⟨t, rfl⟩ := Nat.dvd_of_mod_eq_zero hs
    rw [Nat.mul_div_cancel_left t hp, Nat.mul_mod_mul_left]
    constructor
    · intro k; rw [k]; rfl
    · intro k
      rcases Nat.mul_eq_zero.1 k with k | k
      · omega
      · exact k
  refine ⟨x.1.b % p, Nat.mod_lt _ hp, newIn_iff.2 ⟨⟨_, slice_mem.2 ⟨x, hx, .inl ⟨hxp, rfl, rfl⟩⟩, (up _ hxp).2 hm⟩, ?_⟩⟩
  intro z hz ht hzd
  obtain ⟨x', hx', ⟨k1, k2, rfl⟩ | ⟨k1, rfl⟩⟩ := slice_mem.1 hz
  · exact hn x' hx' ht ((up _ k1).1 hzd)
  · exact k1 (Nat.mod_eq_zero_of_dvd (Nat.dvd_trans hd (Nat.dvd_of_mod_eq_zero hzd)))

end Go.Proofs.Ytdcedkjoligekab
