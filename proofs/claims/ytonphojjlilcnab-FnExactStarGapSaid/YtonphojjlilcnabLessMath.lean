/-
  What makes a ring or a tail shorter without a turn of the set, and when neither can be made shorter: plain facts.
-/
import Derived.Test.YtonphojjlilcnabHasMath
import Derived.Test.YtonphojjlilcnabTidy
namespace Go.Proofs.Ytonphojjlilcnab

/-- The truths of f from a on, n of them. -/
def part (f : Nat → Bool) (a n : Nat) : List Bool := (List.range n).map fun i => f (a + i)

theorem part_length (f : Nat → Bool) (a n : Nat) : (part f a n).length = n := by simp [part]

theorem part_getD (f : Nat → Bool) (a n i : Nat) (h : i < n) : (part f a n).getD i false = f (a + i) := by
  rw [List.getD_eq_getElem?_getD, List.getElem?_eq_getElem (by rw [part_length]; exact h)]; simp [part]

theorem getD_ext {l l' : List Bool} (h : l.length = l'.length) (he : ∀ i, i < l.length → l.getD i false = l'.getD i false) : l = l' := by
  apply List.ext_getElem h
  intro i h1 h2
  have := he i h1
  rw [List.getD_eq_getElem?_getD, List.getElem?_eq_getElem h1, List.getD_eq_getElem?_getD, List.getElem?_eq_getElem h2] at this
  exact this

theorem part_tail (t r : List Bool) : part (hasB t r) 0 t.length = t := by
  apply getD_ext (part_length _ _ _)
  intro i hi
  rw [part_length] at hi
  rw [part_getD _ _ _ _ hi, Nat.zero_add, hasB_tail t r i hi]

theorem part_ring (t r : List Bool) : part (hasB t r) t.length r.length = r := by
  apply getD_ext (part_length _ _ _)
  intro i hi
  rw [part_length] at hi
  rw [part_getD _ _ _ _ hi, hasB_ring, Nat.mod_eq_of_lt hi]

/-- The ring is a shorter one, again and again. -/
def PerRing (r : List Bool) (d : Nat) : Prop := r.length % d = 0 ∧ ∀ i, d ≤ i → i < r.length → r.getD i false = r.getD (i - d) false

theorem perRing_mod {r : List Bool} {d : Nat} (hd : 0 < d) (h : PerRing r d) : ∀ i, i < r.length → r.getD i false = r.getD (i % d) false := by
  intro i
  induction i using Nat.strongRecOn with
  | ind i ih =>
    intro hi
    rcases Nat.lt_or_ge i d with k | k
    · rw [Nat.mod_eq_of_lt k]
    · rw [h.2 i k hi, ih (i - d) (by omega) (by omega), ← Nat.mod_eq_sub_mod k]

theorem getD_take (r : List Bool) (d i : Nat) (h : i < d) : (r.take d).getD i false = r.getD i false := by
  rw [List.getD_eq_getElem?_getD, List.getD_eq_getElem?_getD, List.getElem?_take_of_lt h]

theorem less_ring {t r : List Bool} {d : Nat} (hd : 0 < d) (hdr : d ≤ r.length) (h : PerRing r d) : hasB t (r.take d) = hasB t r := by
  funext n
  have hl : (r.take d).length = d := by rw [List.length_take]; omega
  rcases Nat.lt_or_ge n t.length with k | k
  · rw [hasB_tail _ _ _ k, hasB_tail _ _ _ k]
  · obtain ⟨j, rfl⟩ : ∃ j, n = t.length + j := ⟨n - t.length, by omega⟩
    rw [hasB_ring, hasB_ring, hl, getD_take r d _ (Nat.mod_lt _ hd), perRing_mod hd h _ (Nat.mod_lt _ (by omega)), Nat.mod_mod_of_dvd j (Nat.dvd_of_mod_eq_zero h.1)]

theorem getD_cons_succ (x : Bool) (l : List Bool) (i : Nat) : (x :: l).getD (i + 1) false = l.getD i false := by simp

/-- The last number of the tail goes into the ring. -/
theorem less_tail {t r : List Bool} (ht : 0 < t.length) (hr : 0 < r.length) (h : t.getD (t.length - 1) false = r.getD (r.length - 1) false) :
    hasB (t.take (t.length - 1)) (r.getD (r.length - 1) false :: r.take (r.length - 1)) = hasB t r := by
  funext n
  have hl : (t.take (t.length - 1)).length = t.length - 1 := by rw [List.length_take]; omega
  have hl2 : (r.getD (r.length - 1) false :: r.take (r.length - 1)).length = r.length := by rw [List.length_cons, List.length_take]; omega
  rcases Nat.lt_or_ge n (t.length - 1) with k | k
  · rw [hasB_tail _ _ _ (by rw [hl]; exact k), hasB_tail _ _ _ (by omega), getD_take _ _ _ k]
  · obtain ⟨j, rfl⟩ : ∃ j, n = t.length - 1 + j := ⟨n - (t.length - 1), by omega⟩
    have e := hasB_ring (t.take (t.length - 1)) (r.getD (r.length - 1) false :: r.take (r.length - 1)) j
    rw [hl, hl2] at e
    rw [e]
    cases j with
    | zero =>
      rw [Nat.zero_mod, Nat.add_zero, hasB_tail _ _ _ (by omega), h]; rfl
    | succ j =>
      rw [show t.length - 1 + (j + 1) = t.length + j from by omega, hasB_ring]
      have hm := Nat.mod_lt j hr
      rcases Nat.lt_or_ge (j % r.length + 1) r.length with k2 | k2
      · have e2 : (j + 1) % r.length = j % r.length + 1 := by
          rw [Nat.add_mod, Nat.mod_eq_of_lt (show 1 < r.length by omega), Nat.mod_eq_of_lt k2]
        rw [e2, getD_cons_succ, getD_take _ _ _ (by omega)]
      · have e1 : j % r.length = r.length - 1 := by omega
        have e2 : (j + 1) % r.length = 0 := by
          have : j + 1 = r.length * (j / r.length + 1) := by
            have := Nat.div_add_mod j r.length
            rw [Nat.mul_add, Nat.mul_one]
            omega
          rw [this, Nat.mul_mod_right]
        rw [e2, e1]; rfl

/-- Neither ring nor tail can be made shorter. -/
theorem less_tidy {t r : List Bool} (hr : 0 < r.length) (h1 : ∀ d, 0 < d → d < r.length → ¬ PerRing r d) (h2 : t.length = 0 ∨ t.getD (t.length - 1) false ≠ r.getD (r.length - 1) false) :
    Tidy (hasB t r) t.length r.length := by
  refine ⟨hr, fun n hn => hasB_round t r n hn, fun d hd => ?_, ?_⟩
  · obtain ⟨q, hq, hl⟩ := least_per d hd
    obtain ⟨e1, e2⟩ := least_divides hr (fun n hn => hasB_round t r n hn) hq hl
    have hqd := hl d hd
    rcases Nat.lt_or_ge q r.length with k | k
    · exfalso
      refine h1 q hq.1 k ⟨e1, fun i hi1 hi2 => ?_⟩
      have a := e2 (t.length + (i - q)) (by omega)
      rw [show t.length + (i - q) + q = t.length + i from by omega, hasB_ring, hasB_ring, Nat.mod_eq_of_lt hi2, Nat.mod_eq_of_lt (by omega)] at a
      exact a
    · omega
  · rcases h2 with h | h
    · exact .inl h
    · rcases Nat.eq_zero_or_pos t.length with k | k
      · exact .inl k
      · right
        rw [hasB_tail _ _ _ (by omega), show t.length - 1 + r.length = t.length + (r.length - 1) from by omega, hasB_ring, Nat.mod_eq_of_lt (by omega)]
        exact h

/-- The tidy sizes are no more than those of a tail and a ring that tell the same. -/
theorem tidy_le_any {t r : List Bool} {m q : Nat} (hr : 0 < r.length) (h : Tidy (hasB t r) m q) : m ≤ t.length ∧ q ≤ r.length := by
  have hper : ∀ n, t.length ≤ n → hasB t r (n + r.length) = hasB t r n := fun n hn => hasB_round _ _ n hn
  have hq : q ≤ r.length := h.ring _ ⟨hr, _, hper⟩
  refine ⟨?_, hq⟩
  obtain ⟨_, h2⟩ := least_divides hr hper h.isPer h.ring
  rcases Nat.lt_or_ge t.length m with k | k
  · rcases h.tail with e | e
    · omega
    · exact absurd (h2 (m - 1) (by omega)).symm e
  · exact k

/-- A tail and a ring that are cut out of what comes round tell it. -/
theorem hasB_part {f : Nat → Bool} {m p : Nat} (h0 : 0 < p) (hper : ∀ n, m ≤ n → f (n + p) = f n) : hasB (part f 0 m) (part f m p) = f := by
  funext n
  rcases Nat.lt_or_ge n m with k | k
  · rw [hasB_tail _ _ _ (by rw [part_length]; exact k), part_getD _ _ _ _ k, Nat.zero_add]
  · obtain ⟨j, rfl⟩ : ∃ j, n = m + j := ⟨n - m, by omega⟩
    have e := hasB_ring (part f 0 m) (part f m p) j
    rw [part_length, part_length] at e
    rw [e, part_getD _ _ _ _ (Nat.mod_lt _ h0)]
    have h2 := per_rounds hper (j / p) (m + j % p) (by omega)
    rw [← h2]
    congr 1
    have : j % p + j / p * p = j := by rw [Nat.mul_comm]; exact Nat.mod_add_div j p
    omega

theorem part_take (f : Nat → Bool) (a m p : Nat) : (part f a (m + p)).take m = part f a m := by
  apply getD_ext (by rw [List.length_take, part_length, part_length]; omega)
  intro i hi
  rw [List.length_take, part_length] at hi
  rw [getD_take _ _ _ (by omega), part_getD _ _ _ _ (by omega), part_getD _ _ _ _ (by omega)]

theorem part_drop (f : Nat → Bool) (m p : Nat) : (part f 0 (m + p)).drop m = part f m p := by
  apply getD_ext (by rw [List.length_drop, part_length, part_length]; omega)
  intro i hi
  rw [List.length_drop, part_length] at hi
  rw [List.getD_eq_getElem?_getD, List.getElem?_drop, ← List.getD_eq_getElem?_getD, part_getD _ _ _ _ (by omega), part_getD _ _ _ _ (by omega), Nat.zero_add]

theorem part_snoc (f : Nat → Bool) (a n : Nat) : part f a (n + 1) = part f a n ++ [f (a + n)] := by
  unfold part
  rw [List.range_succ, List.map_append]; rfl

end Go.Proofs.Ytonphojjlilcnab
