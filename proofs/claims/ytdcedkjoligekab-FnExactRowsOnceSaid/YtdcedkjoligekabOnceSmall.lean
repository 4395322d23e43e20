/-
  Rows that cover once, 20 of them at most, have a common multiple of 60000 at most: plain facts.
-/
import Derived.Test.YtdcedkjoligekabOnceRows
namespace Go.Proofs.Ytdcedkjoligekab
set_option linter.unusedVariables false
set_option linter.unusedSimpArgs false

theorem cost_step {p : Nat} (hp : p ∈ primes) {a c : Nat → Bool} (o : ∀ d, Nat.Coprime d p → one (a d) ≤ one (c d)) (s : ∀ d, p ∣ d → one (a (p * d)) ≤ one (c d)) : costOf powers a ≤ costOf powers c + (p - 1) * one (a p) := by
  unfold primes at hp
  simp only [List.mem_cons, List.not_mem_nil, or_false] at hp
  rcases hp with rfl | rfl | rfl | rfl | rfl | rfl | rfl | rfl | rfl | rfl | rfl | rfl | rfl | rfl | rfl | rfl | rfl
  · exact cost_59 o s
  · exact cost_53 o s
  · exact cost_47 o s
  · exact cost_43 o s
  · exact cost_41 o s
  · exact cost_37 o s
  · exact cost_31 o s
  · exact cost_29 o s
  · exact cost_23 o s
  · exact cost_19 o s
  · exact cost_17 o s
  · exact cost_13 o s
  · exact cost_11 o s
  · exact cost_7 o s
  · exact cost_5 o s
  · exact cost_3 o s
  · exact cost_2 o s
theorem cost_zero {l : List (Nat × Nat)} {c : Nat → Bool} (h : ∀ x ∈ l, c x.2 = false) : costOf l c = 0 := by
  induction l with
  | nil => rfl
  | cons x l ih => rw [cost_cons, h x (List.mem_cons_self ..), ih fun y hy => h y (List.mem_cons_of_mem _ hy)]; rfl
theorem sumTo_term {k v : Nat} (f : Nat → Nat) (h : v < k) : f v ≤ sumTo k f := by
  induction k with
  | zero => omega
  | succ k ih =>
    unfold sumTo
    by_cases e : v = k
    · subst e; omega
    · have := ih (by omega); omega
theorem sumTo_some {k : Nat} {f : Nat → Nat} (h : 0 < sumTo k f) : ∃ v, v < k ∧ 0 < f v := by
  induction k with
  | zero => exact absurd h (Nat.lt_irrefl _)
  | succ k ih =>
    unfold sumTo at h
    rcases Nat.eq_zero_or_pos (f k) with e | e
    · obtain ⟨v, h1, h2⟩ := ih (by omega)
      exact ⟨v, by omega, h2⟩
    · exact ⟨k, by omega, e⟩
def sumF (L : List FRow) : Nat := (L.map fun x => x.1.s).sum
theorem sumF_cons (x : FRow) (L : List FRow) : sumF (x :: L) = x.1.s + sumF L := by unfold sumF; simp
theorem sumF_mem {x : FRow} {L : List FRow} (h : x ∈ L) : x.1.s ≤ sumF L := by
  induction L with
  | nil => cases h
  | cons a L ih =>
    rw [sumF_cons]
    rcases List.mem_cons.1 h with rfl | h
    · omega
    · have := ih h; omega
theorem sumF_slice {p v : Nat} {g : Bool} {L : List FRow} (hp : 1 < p) (hL : ∀ x ∈ L, 0 < x.1.s) : sumF (sliceF p v g L) ≤ sumF L ∧ ((∃ x ∈ L, x.1.s % p = 0) → sumF (sliceF p v g L) < sumF L) := by
  induction L with
  | nil => exact ⟨Nat.le_refl _, fun ⟨x, hx, _⟩ => by cases hx⟩
  | cons a L ih =>
    obtain ⟨i1, i2⟩ := ih fun y hy => hL y (List.mem_cons_of_mem _ hy)
    have ha := hL a (List.mem_cons_self ..)
    have key : (a.1.s % p = 0 → sumF (sliceF p v g (a :: L)) < a.1.s + sumF L) ∧ (¬ a.1.s % p = 0 → sumF (sliceF p v g (a :: L)) = a.1.s + sumF (sliceF p v g L)) := by
      unfold sliceF
      constructor
      · intro h
        by_cases h2 : a.1.b % p = v
        · rw [List.filterMap_cons_some (slice1_in h h2), sumF_cons]
          have hlt : a.1.s / p < a.1.s := Nat.div_lt_self ha hp
          have i1 : sumF (List.filterMap (slice1 p v g) L) ≤ sumF L := i1
          show a.1.s / p + _ < _
          omega
        · rw [List.filterMap_cons_none (slice1_out h h2)]
          have i1 : sumF (List.filterMap (slice1 p v g) L) ≤ sumF L := i1
          omega
      · intro h
        rw [List.filterMap_cons_some (slice1_off h), sumF_cons]
    rw [sumF_cons]
    by_cases h : a.1.s % p = 0
    · have := key.1 h
      exact ⟨Nat.le_of_lt this, fun _ => this⟩
    · have e := key.2 h
      refine ⟨by omega, ?_⟩
      rintro ⟨x, hx, hm⟩
      rcases List.mem_cons.1 hx with rfl | hx
      · exact absurd hm h
      · have := i2 ⟨x, hx, hm⟩; omega

theorem once_count : ∀ (N : Nat) (L : List FRow), sumF L ≤ N → GoodF 0 L → OnceF L → costOf powers (newIn L) + one (decide (0 < falses L)) ≤ falses L := by
  intro N
  induction N with
  | zero =>
    intro L hs hL ho
    have h0 := ho 0
    have hpos : 0 < L.countP (hitF 0) := by rw [h0]; exact Nat.one_pos
    obtain ⟨y, hy, _⟩ := List.countP_pos_iff.1 hpos
    have h1 := sumF_mem hy
    have h2 := (hL y hy).1
    omega
  | succ N ih =>
    intro L hs hL ho
    by_cases hex : ∃ p ∈ primes, ∃ x ∈ L, x.1.s % p = 0
    · obtain ⟨p, hpm, hx⟩ := hex
      have hp : Pr p := primes_ok p hpm
      have hp0 : 0 < p := Nat.lt_trans Nat.one_pos hp.1
      have hLp : GoodF p L := hL
      have hpos : ∀ x ∈ L, 0 < x.1.s := fun x hx => by have := (hL x hx).1; omega
      obtain ⟨v1, hv1, hfirst⟩ : ∃ v1, v1 < p ∧ (0 < falses L → 0 < fP p v1 L + fN p L) := by
        rcases Nat.eq_zero_or_pos (sumTo p fun v => fP p v L) with e | e
        · refine ⟨0, hp0, fun h => ?_⟩
          rw [falses_all p hp0 L, e] at h
          omega
        · obtain ⟨v, h1, h2⟩ := sumTo_some e
          exact ⟨v, h1, fun _ => by omega⟩
      have hF : ∀ v, falses (sliceF p v (v != v1) L) = fP p v L + (if v = v1 then fN p L else 0) := by
        intro v
        by_cases e : v = v1
        · subst e
          rw [show (v != v) = false from by simp, falses_one, if_pos rfl]
        · rw [show (v != v1) = true from by simpa using e, falses_grown, if_neg e]; rfl
      have hsum : (sumTo p fun v => falses (sliceF p v (v != v1) L)) = falses L := by
        have e : (fun v => falses (sliceF p v (v != v1) L)) = fun v => fP p v L + (if v = v1 then fN p L else 0) := funext hF
        rw [e, sumTo_add, sumTo_one, if_pos hv1, falses_all p hp0 L]
        omega
      have hih : ∀ v, v < p → costOf powers (newIn (sliceF p v (v != v1) L)) + one (decide (0 < falses (sliceF p v (v != v1) L))) ≤ falses (sliceF p v (v != v1) L) := by
        intro v hv
        refine ih _ ?_ (slice_good hp hLp) (slice_once hp hv hLp ho)
        have := (sumF_slice (v := v) (g := v != v1) hp.1 hpos).2 hx
        omega
      have hall := sumTo_le p hih
      rw [sumTo_add, hsum] at hall
      have hcost := cost_step hpm (a := newIn L) (c := anyTo (fun v => newIn (sliceF p v (v != v1) L)) p)
        (fun d hd => one_le fun h => by obtain ⟨v, k1, k2⟩ := new_other hv1 hd h; exact anyTo_true k1 k2)
        (fun d hd => one_le fun h => by obtain ⟨v, k1, k2⟩ := new_same (v1 := v1) hp0 hd h; exact anyTo_true k1 k2)
      have hany := cost_any powers (fun v => newIn (sliceF p v (v != v1) L)) p
      have htop : one (decide (0 < falses L)) + (p - 1) * one (newIn L p) ≤ sumTo p fun v => one (decide (0 < falses (sliceF p v (v != v1) L))) := by
        cases hn : newIn L p
        · have h1 := sumTo_term (fun v => one (decide (0 < falses (sliceF p v (v != v1) L)))) hv1
          have h2 : one (decide (0 < falses L)) ≤ one (decide (0 < falses (sliceF p v1 (v1 != v1) L))) := by
            apply one_le
            intro h
            rw [decide_eq_true_eq] at h ⊢
            rw [hF v1, if_pos rfl]
            exact hfirst h
          have h3 : one false = 0 := rfl
          rw [h3]
          omega
        · obtain ⟨_, hn2⟩ := newIn_iff.1 hn
          have h1 : sumTo p (fun _ => 1) ≤ sumTo p fun v => one (decide (0 < falses (sliceF p v (v != v1) L))) := by
            apply sumTo_le
            intro v hv
            obtain ⟨y, hy, k1, k2⟩ := class_there hp hLp ho hx hv
            have k3 : y.2 = false := by
              cases e : y.2
              · rfl
              · exact absurd k1 (hn2 y hy e)
            have k4 : 0 < fP p v L := by
              unfold fP
              exact List.countP_pos_iff.2 ⟨y, hy, by simp [k1, k2, k3]⟩
            have k5 : 0 < falses (sliceF p v (v != v1) L) := by rw [hF v]; omega
            rw [decide_eq_true k5]
            exact Nat.le_refl _
          rw [sumTo_const] at h1
          have h2 : one (decide (0 < falses L)) ≤ 1 := by unfold one; split <;> omega
          have h3 : one true = 1 := rfl
          rw [h3]
          omega
      omega
    · have hone : ∀ x ∈ L, x.1.s = 1 := fun x hx => step_one x.1.s (by have := (hL x hx).1; omega) (hL x hx).2 fun p hp k => hex ⟨p, hp, x, hx, k⟩
      have hne : ∀ x ∈ powers, x.2 ≠ 1 := by decide
      rw [cost_zero fun x hx => ?_]
      · unfold one; split
        · rename_i h; rw [decide_eq_true_eq] at h; omega
        · omega
      · rw [Bool.eq_false_iff]
        intro h
        obtain ⟨⟨y, hy, hd⟩, _⟩ := newIn_iff.1 h
        rw [hone y hy] at hd
        exact hne x hx (Nat.dvd_one.1 (Nat.dvd_of_mod_eq_zero hd))

theorem once_small {g : List Rw} (hg : Going g) (h : Once g) (hl : g.length ≤ 20) : lcmAll g ≤ 60000 := by
  obtain ⟨L, hL⟩ : ∃ L : List FRow, L = g.map fun r => (r, false) := ⟨_, rfl⟩
  have h1 : GoodF 0 L := by
    intro x hx
    rw [hL] at hx
    obtain ⟨r, hr, rfl⟩ := List.mem_map.1 hx
    exact hg r hr
  have h2 : OnceF L := by
    intro n
    have := h n
    unfold cnt at this
    rw [hL, List.countP_map, ← this]
    apply List.countP_congr
    intro r hr
    rw [early_has (hg r hr).1]
    show (n % r.s == r.b) = true ↔ _
    rw [beq_iff_eq]
  have h3 : falses L = g.length := by
    unfold falses
    rw [hL, List.countP_map, List.countP_eq_length.2]
    intro r _; rfl
  have h4 : newIn L = inSteps g := by
    funext d
    rw [Bool.eq_iff_iff, newIn_iff]
    unfold inSteps
    rw [List.any_eq_true, hL]
    constructor
    · rintro ⟨⟨x, hx, hd⟩, _⟩
      obtain ⟨r, hr, rfl⟩ := List.mem_map.1 hx
      exact ⟨r, hr, by have := (hg r hr).1; rw [decide_eq_true (by omega)]; simpa using hd⟩
    · rintro ⟨r, hr, hd⟩
      refine ⟨⟨(r, false), List.mem_map.2 ⟨r, hr, rfl⟩, ?_⟩, fun x hx k => ?_⟩
      · rw [Bool.and_eq_true, beq_iff_eq] at hd; exact hd.2
      · obtain ⟨r', _, rfl⟩ := List.mem_map.1 hx
        cases k
  have h5 := once_count _ L (Nat.le_refl _) h1 h2
  rw [h3, h4] at h5
  refine lcm_small g (fun r hr => (hg r hr).2) ?_
  by_cases h0 : 0 < g.length
  · rw [decide_eq_true h0] at h5
    have : one true = 1 := rfl
    omega
  · omega

end Go.Proofs.Ytdcedkjoligekab
