/-
  The tidy tail and ring of a set that comes round: plain facts. What makes a ring or a tail shorter without a turn of the set, and when neither can be made shorter: plain facts. Truths as signs: plain facts. The tidy text of a set, and what is answered where a set is made: plain facts.
-/
import Derived.Test.YtojjfkabepkhdaaHasMath
import Derived.Lib.Builder
namespace Go.Proofs.Ytojjfkabepkhdaa
open Go.RowKit

/-- d is a round of f, from some number on. -/
def Per (f : Nat → Bool) (d : Nat) : Prop := 0 < d ∧ ∃ N, ∀ n, N ≤ n → f (n + d) = f n
/-- m and q are the sizes of the tidy tail and ring of f. -/
structure Tidy (f : Nat → Bool) (m q : Nat) : Prop where
  pos : 0 < q
  per : ∀ n, m ≤ n → f (n + q) = f n
  ring : ∀ d, Per f d → q ≤ d
  tail : m = 0 ∨ f (m - 1) ≠ f (m - 1 + q)

theorem per_rounds {f : Nat → Bool} {m q : Nat} (h : ∀ n, m ≤ n → f (n + q) = f n) (k n : Nat) (hn : m ≤ n) : f (n + k * q) = f n := by
  induction k with
  | zero => simp
  | succ k ih => rw [Nat.succ_mul, ← Nat.add_assoc, h _ (by omega), ih]
theorem Tidy.isPer {f : Nat → Bool} {m q : Nat} (h : Tidy f m q) : Per f q := ⟨h.pos, m, h.per⟩
theorem tidy_le {f : Nat → Bool} {m q m' : Nat} (h : Tidy f m q) (h' : Tidy f m' q) : m ≤ m' := by
  rcases Nat.lt_or_ge m' m with k | k
  · rcases h.tail with e | e
    · omega
    · exact absurd (h'.per (m - 1) (by omega)).symm e
  · exact k
theorem tidy_unique {f : Nat → Bool} {m q m' q' : Nat} (h : Tidy f m q) (h' : Tidy f m' q') : m = m' ∧ q = q' := by
  have e : q = q' := Nat.le_antisymm (h.ring _ h'.isPer) (h'.ring _ h.isPer)
  subst e
  exact ⟨Nat.le_antisymm (tidy_le h h') (tidy_le h' h), rfl⟩

/-- A smaller ring is betrayed by the first 180 numbers. -/
theorem ring_small {f : Nat → Bool} {m q z : Nat} (h : Tidy f m q) (hm : m ≤ 60) (hq : q ≤ 60) (hz : 0 < z) (hzq : z < q) : ∃ n, 60 ≤ n ∧ n + z < 180 ∧ f n ≠ f (n + z) := by
  apply Classical.byContradiction
  intro hno
  have hall : ∀ n, 60 ≤ n → n + z < 180 → f (n + z) = f n := fun n h1 h2 => by
    apply Classical.byContradiction
    intro h3
    exact hno ⟨n, h1, h2, fun e => h3 e.symm⟩
  have hp : Per f z := by
    refine ⟨hz, 60, fun n hn => ?_⟩
    have hq0 := h.pos
    have hmod := Nat.mod_lt (n - 60) hq0
    have hdm : (n - 60) % q + (n - 60) / q * q = n - 60 := by rw [Nat.mul_comm]; exact Nat.mod_add_div (n - 60) q
    have e1 : n = (60 + (n - 60) % q) + (n - 60) / q * q := by omega
    have e2 : n + z = (60 + (n - 60) % q + z) + (n - 60) / q * q := by omega
    rw [e2, per_rounds h.per _ _ (by omega), hall _ (by omega) (by omega)]
    conv => rhs; rw [e1]
    rw [per_rounds h.per _ _ (by omega)]
  have := h.ring z hp
  omega
theorem ring_holds {f : Nat → Bool} {m q : Nat} (h : Tidy f m q) (hm : m ≤ 60) (n : Nat) (hn : 60 ≤ n) : f (n + q) = f n := h.per n (by omega)

/-- The least round of all rounds, and what it divides. -/
theorem per_mod {f : Nat → Bool} {p q : Nat} (hp : Per f p) (hq : Per f q) (h : p % q ≠ 0) : Per f (p % q) := by
  obtain ⟨_, N1, h1⟩ := hp
  obtain ⟨_, N2, h2⟩ := hq
  refine ⟨by omega, max N1 N2, fun n hn => ?_⟩
  have e : n + p = n + p % q + p / q * q := by
    have : p % q + p / q * q = p := by rw [Nat.mul_comm]; exact Nat.mod_add_div p q
    omega
  have h3 := h1 n (by omega)
  rw [e, per_rounds h2 _ _ (by omega)] at h3
  exact h3
theorem least_per {f : Nat → Bool} : ∀ d, Per f d → ∃ q, Per f q ∧ ∀ e, Per f e → q ≤ e := by
  intro d
  induction d using Nat.strongRecOn with
  | ind d ih =>
    intro h
    by_cases hx : ∃ e, e < d ∧ Per f e
    · obtain ⟨e, he, h2⟩ := hx; exact ih e he h2
    · exact ⟨d, h, fun e he => by
        rcases Nat.lt_or_ge e d with k | k
        · exact (hx ⟨e, k, he⟩).elim
        · exact k⟩
/-- A round from m on: the least round of all divides it and holds from m on, too. -/
theorem least_divides {f : Nat → Bool} {m p q : Nat} (hp0 : 0 < p) (hp : ∀ n, m ≤ n → f (n + p) = f n) (hq : Per f q) (hl : ∀ e, Per f e → q ≤ e) : p % q = 0 ∧ ∀ n, m ≤ n → f (n + q) = f n := by
  constructor
  · apply Classical.byContradiction
    intro h
    have := hl _ (per_mod ⟨hp0, m, hp⟩ hq h)
    have := Nat.mod_lt p hq.1
    omega
  · intro n hn
    obtain ⟨_, N, h2⟩ := hq
    have a := per_rounds hp N (n + q) (by omega)
    have b := per_rounds hp N n hn
    have hN : N ≤ n + N * p := by
      have : N * 1 ≤ N * p := Nat.mul_le_mul_left N hp0
      omega
    have c := h2 (n + N * p) hN
    rw [← a, ← b, ← c]
    congr 1
    omega

/-- The truths of f from a on, n of them. -/
def part (f : Nat → Bool) (a n : Nat) : List Bool := (List.range n).map fun i => f (a + i)

theorem part_length (f : Nat → Bool) (a n : Nat) : (part f a n).length = n := by simp [part]

theorem part_getD (f : Nat → Bool) (a n i : Nat) (h : i < n) : (part f a n).getD i false = f (a + i) := by
  rw [List.getD_eq_getElem?_getD, List.getElem?_eq_getElem (by rw [part_length]; exact h)]; simp [part]

theorem getD_ext {l l' : List Bool} (h : l.length = l'.length) (he : ∀ i, i < l.length → l.getD i false = l'.getD i false) : l = l' := by
  apply List.ext_getElem h
  intro i h1 h2
  have := he i h1
  rw [List.getD_eq_getElem?_getD, List.getElem?_eq_getElem h1, List.getD_eq_getElem?_getD, List.getElem?_eq_getElem h2] at this
  exact this

theorem part_tail (t r : List Bool) : part (hasB t r) 0 t.length = t := by
  apply getD_ext (part_length _ _ _)
  intro i hi
  rw [part_length] at hi
  rw [part_getD _ _ _ _ hi, Nat.zero_add, hasB_tail t r i hi]

theorem part_ring (t r : List Bool) : part (hasB t r) t.length r.length = r := by
  apply getD_ext (part_length _ _ _)
  intro i hi
  rw [part_length] at hi
  rw [part_getD _ _ _ _ hi, hasB_ring, Nat.mod_eq_of_lt hi]

/-- The ring is a shorter one, again and again. -/
def PerRing (r : List Bool) (d : Nat) : Prop := r.length % d = 0 ∧ ∀ i, d ≤ i → i < r.length → r.getD i false = r.getD (i - d) false

theorem perRing_mod {r : List Bool} {d : Nat} (hd : 0 < d) (h : PerRing r d) : ∀ i, i < r.length → r.getD i false = r.getD (i % d) false := by
  intro i
  induction i using Nat.strongRecOn with
  | ind i ih =>
    intro hi
    rcases Nat.lt_or_ge i d with k | k
    · rw [Nat.mod_eq_of_lt k]
    · rw [h.2 i k hi, ih (i - d) (by omega) (by omega), ← Nat.mod_eq_sub_mod k]

theorem getD_take (r : List Bool) (d i : Nat) (h : i < d) : (r.take d).getD i false = r.getD i false := by
  rw [List.getD_eq_getElem?_getD, List.getD_eq_getElem?_getD, List.getElem?_take_of_lt h]

theorem less_ring {t r : List Bool} {d : Nat} (hd : 0 < d) (hdr : d ≤ r.length) (h : PerRing r d) : hasB t (r.take d) = hasB t r := by
  funext n
  have hl : (r.take d).length = d := by rw [List.length_take]; omega
  rcases Nat.lt_or_ge n t.length with k | k
  · rw [hasB_tail _ _ _ k, hasB_tail _ _ _ k]
  · obtain ⟨j, rfl⟩ : ∃ j, n = t.length + j := ⟨n - t.length, by omega⟩
    rw [hasB_ring, hasB_ring, hl, getD_take r d _ (Nat.mod_lt _ hd), perRing_mod hd h _ (Nat.mod_lt _ (by omega)), Nat.mod_mod_of_dvd j (Nat.dvd_of_mod_eq_zero h.1)]

theorem getD_cons_succ (x : Bool) (l : List Bool) (i : Nat) : (x :: l).getD (i + 1) false = l.getD i false := by simp

/-- The last number of the tail goes into the ring. -/
theorem less_tail {t r : List Bool} (ht : 0 < t.length) (hr : 0 < r.length) (h : t.getD (t.length - 1) false = r.getD (r.length - 1) false) :
    hasB (t.take (t.length - 1)) (r.getD (r.length - 1) false :: r.take (r.length - 1)) = hasB t r := by
  funext n
  have hl : (t.take (t.length - 1)).length = t.length - 1 := by rw [List.length_take]; omega
  have hl2 : (r.getD (r.length - 1) false :: r.take (r.length - 1)).length = r.length := by rw [List.length_cons, List.length_take]; omega
  rcases Nat.lt_or_ge n (t.length - 1) with k | k
  · rw [hasB_tail _ _ _ (by rw [hl]; exact k), hasB_tail _ _ _ (by omega), getD_take _ _ _ k]
  · obtain ⟨j, rfl⟩ : ∃ j, n = t.length - 1 + j := ⟨n - (t.length - 1), by omega⟩
    have e := hasB_ring (t.take (t.length - 1)) (r.getD (r.length - 1) false :: r.take (r.length - 1)) j
    rw [hl, hl2] at e
    rw [e]
    cases j with
    | zero =>
      rw [Nat.zero_mod, Nat.add_zero, hasB_tail _ _ _ (by omega), h]; rfl
    | succ j =>
      rw [show t.length - 1 + (j + 1) = t.length + j from by omega, hasB_ring]
      have hm := Nat.mod_lt j hr
      rcases Nat.lt_or_ge (j % r.length + 1) r.length with k2 | k2
      · have e2 : (j + 1) % r.length = j % r.length + 1 := by
          rw [Nat.add_mod, Nat.mod_eq_of_lt (show 1 < r.length by omega), Nat.mod_eq_of_lt k2]
        rw [e2, getD_cons_succ, getD_take _ _ _ (by omega)]
      · have e1 : j % r.length = r.length - 1 := by omega
        have e2 : (j + 1) % r.length = 0 := by
          have : j + 1 = r.length * (j / r.length + 1) := by
            have := Nat.div_add_mod j r.length
            rw [Nat.mul_add, Nat.mul_one]
            omega
          rw [this, Nat.mul_mod_right]
        rw [e2, e1]; rfl

/-- Neither ring nor tail can be made shorter. -/
theorem less_tidy {t r : List Bool} (hr : 0 < r.length) (h1 : ∀ d, 0 < d → d < r.length → ¬ PerRing r d) (h2 : t.length = 0 ∨ t.getD (t.length - 1) false ≠ r.getD (r.length - 1) false) :
    Tidy (hasB t r) t.length r.length := by
  refine ⟨hr, fun n hn => hasB_round t r n hn, fun d hd => ?_, ?_⟩
  · obtain ⟨q, hq, hl⟩ := least_per d hd
    obtain ⟨e1, e2⟩ := least_divides hr (fun n hn => hasB_round t r n hn) hq hl
    have hqd := hl d hd
    rcases Nat.lt_or_ge q r.length with k | k
    · exfalso
      refine h1 q hq.1 k ⟨e1, fun i hi1 hi2 => ?_⟩
      have a := e2 (t.length + (i - q)) (by omega)
      rw [show t.length + (i - q) + q = t.length + i from by omega, hasB_ring, hasB_ring, Nat.mod_eq_of_lt hi2, Nat.mod_eq_of_lt (by omega)] at a
      exact a
    · omega
  · rcases h2 with h | h
    · exact .inl h
    · rcases Nat.eq_zero_or_pos t.length with k | k
      · exact .inl k
      · right
        rw [hasB_tail _ _ _ (by omega), show t.length - 1 + r.length = t.length + (r.length - 1) from by omega, hasB_ring, Nat.mod_eq_of_lt (by omega)]
        exact h

/-- The tidy sizes are no more than those of a tail and a ring that tell the same. -/
theorem tidy_le_any {t r : List Bool} {m q : Nat} (hr : 0 < r.length) (h : Tidy (hasB t r) m q) : m ≤ t.length ∧ q ≤ r.length := by
  have hper : ∀ n, t.length ≤ n → hasB t r (n + r.length) = hasB t r n := fun n hn => hasB_round _ _ n hn
  have hq : q ≤ r.length := h.ring _ ⟨hr, _, hper⟩
  refine ⟨?_, hq⟩
  obtain ⟨_, h2⟩ := least_divides hr hper h.isPer h.ring
  rcases Nat.lt_or_ge t.length m with k | k
  · rcases h.tail with e | e
    · omega
    · exact absurd (h2 (m - 1) (by omega)).symm e
  · exact k

/-- A tail and a ring that are cut out of what comes round tell it. -/
theorem hasB_part {f : Nat → Bool} {m p : Nat} (h0 : 0 < p) (hper : ∀ n, m ≤ n → f (n + p) = f n) : hasB (part f 0 m) (part f m p) = f := by
  funext n
  rcases Nat.lt_or_ge n m with k | k
  · rw [hasB_tail _ _ _ (by rw [part_length]; exact k), part_getD _ _ _ _ k, Nat.zero_add]
  · obtain ⟨j, rfl⟩ : ∃ j, n = m + j := ⟨n - m, by omega⟩
    have e := hasB_ring (part f 0 m) (part f m p) j
    rw [part_length, part_length] at e
    rw [e, part_getD _ _ _ _ (Nat.mod_lt _ h0)]
    have h2 := per_rounds hper (j / p) (m + j % p) (by omega)
    rw [← h2]
    congr 1
    have : j % p + j / p * p = j := by rw [Nat.mul_comm]; exact Nat.mod_add_div j p
    omega

theorem part_take (f : Nat → Bool) (a m p : Nat) : (part f a (m + p)).take m = part f a m := by
  apply getD_ext (by rw [List.length_take, part_length, part_length]; omega)
  intro i hi
  rw [List.length_take, part_length] at hi
  rw [getD_take _ _ _ (by omega), part_getD _ _ _ _ (by omega), part_getD _ _ _ _ (by omega)]

theorem part_drop (f : Nat → Bool) (m p : Nat) : (part f 0 (m + p)).drop m = part f m p := by
  apply getD_ext (by rw [List.length_drop, part_length, part_length]; omega)
  intro i hi
  rw [List.length_drop, part_length] at hi
  rw [List.getD_eq_getElem?_getD, List.getElem?_drop, ← List.getD_eq_getElem?_getD, part_getD _ _ _ _ (by omega), part_getD _ _ _ _ (by omega), Nat.zero_add]

theorem part_snoc (f : Nat → Bool) (a n : Nat) : part f a (n + 1) = part f a n ++ [f (a + n)] := by
  unfold part
  rw [List.range_succ, List.map_append]; rfl

theorem infoByte : (Try.prog.info? 5).map (fun i => (i.zero, i.size, i.bytes)) = some (some (.int .u8 0), 1, 1) := by kernel_rfl

/-- A truth as a sign. -/
def signOf (b : Bool) : UInt8 := if b then 49 else 48

def signsOf (bs : List Bool) : List UInt8 := bs.map signOf

theorem signsOf_length (bs : List Bool) : (signsOf bs).length = bs.length := by simp [signsOf]

theorem signsOf_snoc (bs : List Bool) (k : Nat) (h : k < bs.length) : signsOf (bs.take (k + 1)) = signsOf (bs.take k) ++ [signOf (bs.getD k false)] := by
  unfold signsOf
  rw [List.take_succ_eq_append_getElem h, List.map_append, List.getD_eq_getElem?_getD, List.getElem?_eq_getElem h]; rfl

theorem byteCells_snoc (l : List UInt8) (c : UInt8) : Lib.byteCells (l ++ [c]) = Lib.byteCells l ++ [.int .u8 c.toNat] := by simp [Lib.byteCells]

/-- The text of a tail and a ring. -/
def textOf (t r : List Bool) : List UInt8 := signsOf t ++ 40 :: (signsOf r ++ [41])

/-- T is the tidy text of a set. -/
def TidyText (f : Nat → Bool) (T : ByteArray) : Prop := ∃ m q, Tidy f m q ∧ m ≤ 60 ∧ q ≤ 60 ∧ T = ⟨(textOf (part f 0 m) (part f m q)).toArray⟩

/-- What is answered where a set is made: its tidy text, or none if that is too long. -/
def Made (f : Nat → Bool) (T : ByteArray) (b : Bool) : Prop :=
  (b = true ∧ TidyText f T) ∨ (b = false ∧ T = ⟨#[]⟩ ∧ ∃ m q, Tidy f m q ∧ ¬ (m ≤ 60 ∧ q ≤ 60))

theorem made_unique {f : Nat → Bool} {T U : ByteArray} {b c : Bool} (h : Made f T b) (k : Made f U c) : T = U ∧ b = c := by
  rcases h with ⟨rfl, m, q, ht, hm, hq, rfl⟩ | ⟨rfl, rfl, m, q, ht, hn⟩ <;> rcases k with ⟨rfl, m', q', ht', hm', hq', rfl⟩ | ⟨rfl, rfl, m', q', ht', hn'⟩ <;> obtain ⟨rfl, rfl⟩ := tidy_unique ht ht'
  · exact ⟨rfl, rfl⟩
  · exact (hn' ⟨hm, hq⟩).elim
  · exact (hn ⟨hm', hq'⟩).elim
  · exact ⟨rfl, rfl⟩

def MadeEnd (f : Nat → Bool) (e : Ending) : Prop := ∃ T b, e = .returned (.tuple #[.string T, .bool b]) ∧ Made f T b

/-- What a function answers that makes a set where its arguments are good. -/
def MakeIs (ok : Bool) (f : Nat → Bool) (T : ByteArray) (b : Bool) : Prop := (ok = true → Made f T b) ∧ (ok = false → T = ⟨#[]⟩ ∧ b = false)

theorem makeIs_unique {ok : Bool} {f : Nat → Bool} {T U : ByteArray} {b c : Bool} (h : MakeIs ok f T b) (k : MakeIs ok f U c) : T = U ∧ b = c := by
  cases ok
  · obtain ⟨rfl, rfl⟩ := h.2 rfl
    obtain ⟨rfl, rfl⟩ := k.2 rfl
    exact ⟨rfl, rfl⟩
  · exact made_unique (h.1 rfl) (k.1 rfl)

def MakeEnd (ok : Bool) (f : Nat → Bool) (e : Ending) : Prop := ∃ T b, e = .returned (.tuple #[.string T, .bool b]) ∧ MakeIs ok f T b

theorem makeEnd_on {f : Nat → Bool} {T : ByteArray} {b : Bool} (h : Made f T b) : MakeEnd true f (.returned (.tuple #[.string T, .bool b])) := ⟨T, b, rfl, And.intro (fun _ => h) (fun h => by cases h)⟩

theorem makeIs_off {f : Nat → Bool} {ok : Bool} (h : ok = false) : MakeIs ok f ⟨#[]⟩ false :=
  And.intro (fun h2 => absurd (h.symm.trans h2) (by decide)) (fun _ => ⟨rfl, rfl⟩)
theorem makeEnd_off {f : Nat → Bool} {ok : Bool} (h : ok = false) : MakeEnd ok f (.returned (.tuple #[.string ⟨#[]⟩, .bool false])) := ⟨⟨#[]⟩, false, rfl, makeIs_off h⟩

end Go.Proofs.Ytojjfkabepkhdaa
