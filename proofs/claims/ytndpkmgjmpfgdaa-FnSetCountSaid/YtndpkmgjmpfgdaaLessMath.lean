/-
  What makes a ring or a tail shorter without a turn of the set, and when neither can be made shorter: plain facts.
-/
import Derived.Test.YtndpkmgjmpfgdaaHas
import Derived.Test.YtndpkmgjmpfgdaaSetFrom
import Derived.Test.YtndpkmgjmpfgdaaTidy
namespace Go.Proofs.Ytndpkmgjmpfgdaa

/-- The truths of f from a on, n of them. -/
def part (f : Nat → Bool) (a n : Nat) : List Bool := (List.range n).map fun i => f (a + i)
theorem part_length (f : Nat → Bool) (a n : Nat) : (part f a n).length = n := by simp [part]
theorem part_getD (f : Nat → Bool) (a n i : Nat) (h : i < n) : (part f a n).getD i false = f (a + i) := by
  rw [List.getD_eq_getElem?_getD, List.getElem?_eq_getElem (by rw [part_length]; exact h)]; simp [part]
theorem getD_ext {l l' : List Bool} (h : l.length = l'.length) (he : ∀ i, i < l.length → l.getD i false = l'.getD i false) : l = l' := by
  apply List.ext_getElem h
  intro i h1 h2
  have := he i h1
  rw [List.getD_eq_getElem?_getD, List.getElem?_eq_getElem h1, List.getD_eq_getElem?_getD, List.getElem?_eq_getElem h2] at this
  exact this
theorem part_tail (t r : List Bool) : part (hasB t r) 0 t.length = t := by
  apply getD_ext (part_length _ _ _)
  intro i hi
  rw [part_length] at hi
  rw [part_getD _ _ _ _ hi, Nat.zero_add, hasB_tail t r i hi]
theorem part_ring (t r : List Bool) : part (hasB t r) t.length r.length = r := by
  apply getD_ext (part_length _ _ _)
  intro i hi
  rw [part_length] at hi
  rw [part_getD _ _ _ _ hi, hasB_ring, Nat.mod_eq_of_lt hi]

/-- The ring is a shorter one, again and again. -/
def PerRing (r : List Bool) (d : Nat) : Prop := r.length % d = 0 ∧ ∀ i, d ≤ i → i < r.length → r.getD i false = r.getD (i - d) false

theorem perRing_mod {r : List Bool} {d : Nat} (hd : 0 < d) (h : PerRing r d) : ∀ i, i < r.length → r.getD i false = r.getD (i % d) false := by
  intro i
  induction i using Nat.strongRecOn with
  | ind i ih =>
    intro hi
    rcases Nat.lt_or_ge i d with k | k
    · rw [Nat.mod_eq_of_lt k]
    · rw [h.2 i k hi, ih (i - d) (by omega) (by omega), ← Nat.mod_eq_sub_mod k]
theorem getD_take (r : List Bool) (d i : Nat) (h : i < d) : (r.take d).getD i false = r.getD i false := by
  rw [List.getD_eq_getElem?_getD, List.getD_eq_getElem?_getD, List.getElem?_take_of_lt h]
theorem less_ring {t r : List Bool} {d : Nat} (hd : 0 < d) (hdr : d ≤ r.length) (h : PerRing r d) : hasB t (r.take d) = hasB t r := by
  funext n
  have hl : (r.take d).length = d := by rw [List.length_take]; omega
  rcases Nat.lt_or_ge n t.length with k | k
  · rw [hasB_tail _ _ _ k, hasB_tail _ _ _ k]
  · obtain ⟨j, rfl⟩ : ∃ j, n = t.length + j := ⟨n - t.length, by omega⟩
    rw [hasB_ring, hasB_ring, hl, getD_take r d _ (Nat.mod_lt _ hd), perRing_mod hd h _ (Nat.mod_lt _ (by omega)), Nat.mod_mod_of_dvd j (Nat.dvd_of_mod_eq_zero h.1)]

theorem getD_cons_succ (x : Bool) (l : List Bool) (i : Nat) : (x :: l).getD (i + 1) false = l.getD i false := by simp
/-- The last number of the tail goes into the ring. -/
theorem less_tail {t r : List Bool} (ht : 0 < t.length) (hr : 0 < r.length) (h : t.getD (t.length - 1) false = r.getD (r.length - 1) false) :
    hasB (t.take (t.length - 1)) (r.getD (r.length - 1) false :: r.take (r.length - 1)) = hasB t r := by
  funext n
  have hl : (t.take (t.length - 1)).length = t.length - 1 := by rw [List.length_take]; omega
  have hl2 : (r.getD (r.length - 1) false :: r.take (r.length - 1)).length = r.length := by rw [List.length_cons, List.length_take]; omega
  rcases Nat.lt_or_ge n (t.length - 1) with k | k
  · rw [hasB_tail _ _ _ (by rw [hl]; exact k), hasB_tail _ _ _ (by omega), getD_take _ _ _ k]
  · obtain ⟨j, rfl⟩ : ∃ j, n = t.length - 1 + j := ⟨n - (t.length - 1), by omega⟩
    have e := hasB_ring (t.take (t.length - 1)) (r.getD (r.length - 1) false :: r.take (r.length - 1)) j
    rw [hl, hl2] at e
    rw [e]
    cases j with
    | zero =>
      rw [Nat.zero_mod, Nat.add_zero, hasB_tail _ _ _ (by omega), h]; rfl
    | succ j =>
      rw [show t.length - 1 + (j + 1) = t.length + j from by omega, hasB_ring]
      have hm := Nat.mod_lt j hr
      rcases Nat.lt_or_ge (j % r.length + 1) r.length with k2 | k2
      · have e2 : (j + 1) % r.length = j % r.length + 1 := by
          rw [Nat.add_mod, Nat.mod_eq_of_lt (show 1 < r.length by omega), Nat.mod_eq_of_lt k2]
        rw [e2, getD_cons_succ, getD_take _ _ _ (by omega)]
      · have e1 : j % r.length = r.length - 1 := by omega
        have e2 : (j + 1) % r.length = 0 := by
          have : j + 1 = r.length * (j / r.length + 1) := by
            have := Nat.div_add_mod j r.length
            rw [Nat.mul_add, Nat.mul_one]
            omega
          rw [this, Nat.mul_mod_right]
        rw [e2, e1]; rfl

/-- Neither ring nor tail can be made shorter. -/
theorem less_tidy {t r : List Bool} (hr : 0 < r.length) (h1 : ∀ d, 0 < d → d < r.length → ¬ PerRing r d) (h2 : t.length = 0 ∨ t.getD (t.length - 1) false ≠ r.getD (r.length - 1) false) :
    Tidy (hasB t r) t.length r.length := by
  refine ⟨hr, fun n hn => hasB_round t r n hn, fun d hd => ?_, ?_⟩
  · obtain ⟨q, hq, hl⟩ := least_per d hd
    obtain ⟨e1, e2⟩ := least_divides hr (fun n hn => hasB_round t r n hn) hq hl
    have hqd := hl d hd
    rcases Nat.lt_or_ge q r.length with k | k
    · exfalso
      refine h1 q hq.1 k ⟨e1, fun i hi1 hi2 => ?_⟩
      have a := e2 (t.length + (i - q)) (by omega)
      rw [show t.length + (i - q) + q = t.length + i from by omega, hasB_ring, hasB_ring, Nat.mod_eq_of_lt hi2, Nat.mod_eq_of_lt (by omega)] at a
      exact a
    · omega
  · rcases h2 with h | h
    · exact .inl h
    · rcases Nat.eq_zero_or_pos t.length with k | k
      · exact .inl k
      · right
        rw [hasB_tail _ _ _ (by omega), show t.length - 1 + r.length = t.length + (r.length - 1) from by omega, hasB_ring, Nat.mod_eq_of_lt (by omega)]
        exact h
end Go.Proofs.Ytndpkmgjmpfgdaa
