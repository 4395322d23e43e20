/-
  The tidy tail and ring of a set that comes round: plain facts.
-/
namespace Go.Proofs.Ytonphojjlilcnab

/-- d is a round of f, from some number on. -/
def Per (f : Nat → Bool) (d : Nat) : Prop := 0 < d ∧ ∃ N, ∀ n, N ≤ n → f (n + d) = f n
/-- m and q are the sizes of the tidy tail and ring of f. -/
structure Tidy (f : Nat → Bool) (m q : Nat) : Prop where
  pos : 0 < q
  per : ∀ n, m ≤ n → f (n + q) = f n
  ring : ∀ d, Per f d → q ≤ d
  tail : m = 0 ∨ f (m - 1) ≠ f (m - 1 + q)

theorem per_rounds {f : Nat → Bool} {m q : Nat} (h : ∀ n, m ≤ n → f (n + q) = f n) (k n : Nat) (hn : m ≤ n) : f (n + k * q) = f n := by
  induction k with
  | zero => simp
  | succ k ih => rw [Nat.succ_mul, ← Nat.add_assoc, h _ (by omega), ih]
theorem Tidy.isPer {f : Nat → Bool} {m q : Nat} (h : Tidy f m q) : Per f q := ⟨h.pos, m, h.per⟩
theorem tidy_le {f : Nat → Bool} {m q m' : Nat} (h : Tidy f m q) (h' : Tidy f m' q) : m ≤ m' := by
  rcases Nat.lt_or_ge m' m with k | k
  · rcases h.tail with e | e
    · omega
    · exact absurd (h'.per (m - 1) (by omega)).symm e
  · exact k
theorem tidy_unique {f : Nat → Bool} {m q m' q' : Nat} (h : Tidy f m q) (h' : Tidy f m' q') : m = m' ∧ q = q' := by
  have e : q = q' := Nat.le_antisymm (h.ring _ h'.isPer) (h'.ring _ h.isPer)
  subst e
  exact ⟨Nat.le_antisymm (tidy_le h h') (tidy_le h' h), rfl⟩

/-- A smaller ring is betrayed by the first 180 numbers. -/
theorem ring_small {f : Nat → Bool} {m q z : Nat} (h : Tidy f m q) (hm : m ≤ 60) (hq : q ≤ 60) (hz : 0 < z) (hzq : z < q) : ∃ n, 60 ≤ n ∧ n + z < 180 ∧ f n ≠ f (n + z) := by
  apply Classical.byContradiction
  intro hno
  have hall : ∀ n, 60 ≤ n → n + z < 180 → f (n + z) = f n := fun n h1 h2 => by
    apply Classical.byContradiction
    intro h3
    exact hno ⟨n, h1, h2, fun e => h3 e.symm⟩
  have hp : Per f z := by
    refine ⟨hz, 60, fun n hn => ?_⟩
    have hq0 := h.pos
    have hmod := Nat.mod_lt (n - 60) hq0
    have hdm : (n - 60) % q + (n - 60) / q * q = n - 60 := by rw [Nat.mul_comm]; exact Nat.mod_add_div (n - 60) q
    have e1 : n = (60 + (n - 60) % q) + (n - 60) / q * q := by omega
    have e2 : n + z = (60 + (n - 60) % q + z) + (n - 60) / q * q := by omega
    rw [e2, per_rounds h.per _ _ (by omega), hall _ (by omega) (by omega)]
    conv => rhs; rw [e1]
    rw [per_rounds h.per _ _ (by omega)]
  have := h.ring z hp
  omega
theorem ring_holds {f : Nat → Bool} {m q : Nat} (h : Tidy f m q) (hm : m ≤ 60) (n : Nat) (hn : 60 ≤ n) : f (n + q) = f n := h.per n (by omega)

/-- The least round of all rounds, and what it divides. -/
theorem per_mod {f : Nat → Bool} {p q : Nat} (hp : Per f p) (hq : Per f q) (h : p % q ≠ 0) : Per f (p % q) := by
  obtain ⟨_, N1, h1⟩ := hp
  obtain ⟨_, N2, h2⟩ := hq
  refine ⟨by omega, max N1 N2, fun n hn => ?_⟩
  have e : n + p = n + p % q + p / q * q := by
    have : p % q + p / q * q = p := by rw [Nat.mul_comm]; exact Nat.mod_add_div p q
    omega
  have h3 := h1 n (by omega)
  rw [e, per_rounds h2 _ _ (by omega)] at h3
  exact h3
theorem least_per {f : Nat → Bool} : ∀ d, Per f d → ∃ q, Per f q ∧ ∀ e, Per f e → q ≤ e := by
  intro d
  induction d using Nat.strongRecOn with
  | ind d ih =>
    intro h
    by_cases hx : ∃ e, e < d ∧ Per f e
    · obtain ⟨e, he, h2⟩ := hx; exact ih e he h2
    · exact ⟨d, h, fun e he => by
        rcases Nat.lt_or_ge e d with k | k
        · exact (hx ⟨e, k, he⟩).elim
        · exact k⟩
/-- A round from m on: the least round of all divides it and holds from m on, too. -/
theorem least_divides {f : Nat → Bool} {m p q : Nat} (hp0 : 0 < p) (hp : ∀ n, m ≤ n → f (n + p) = f n) (hq : Per f q) (hl : ∀ e, Per f e → q ≤ e) : p % q = 0 ∧ ∀ n, m ≤ n → f (n + q) = f n := by
  constructor
  · apply Classical.byContradiction
    intro h
    have := hl _ (per_mod ⟨hp0, m, hp⟩ hq h)
    have := Nat.mod_lt p hq.1
    omega
  · intro n hn
    obtain ⟨_, N, h2⟩ := hq
    have a := per_rounds hp N (n + q) (by omega)
    have b := per_rounds hp N n hn
    have hN : N ≤ n + N * p := by
      have : N * 1 ≤ N * p := Nat.mul_le_mul_left N hp0
      omega
    have c := h2 (n + N * p) hN
    rw [← a, ← b, ← c]
    congr 1
    omega
end Go.Proofs.Ytonphojjlilcnab
