/-
  The rests of a set, and quotients; answers that are numbers, of rests; what is told of two rests, and texts that are compared: plain facts.
-/
import Derived.Test.YtiphooodijbhiaaToldMath
import Derived.Test.YtiphooodijbhiaaMakeMath
namespace Go.Proofs.Ytiphooodijbhiaa
open Go.RowKit

theorem down_tidy {f : Nat → Bool} {m q : Nat} (h : Tidy f m q) (i : Nat) : Tidy (downF f i) (m - i) q := by
  refine ⟨h.pos, fun n hn => ?_, fun d hd => ?_, ?_⟩
  · unfold downF
    rw [show n + q + i = n + i + q from by omega]
    exact h.per (n + i) (by omega)
  · obtain ⟨h0, N, hN⟩ := hd
    refine h.ring d ⟨h0, N + i, fun n hn => ?_⟩
    have := hN (n - i) (by omega)
    unfold downF at this
    rw [show n - i + d + i = n + d from by omega, show n - i + i = n from by omega] at this
    exact this
  · by_cases hm : m - i = 0
    · exact .inl hm
    · right
      rcases h.tail with h0 | h0
      · omega
      · unfold downF
        rw [show m - i - 1 + i = m - 1 from by omega, show m - i - 1 + q + i = m - 1 + q from by omega]
        exact h0

theorem down_diff {f : Nat → Bool} {m q i j : Nat} (h : Tidy f m q) (hij : i < j) (hj : j < m + q) : downF f i ≠ downF f j := by
  intro e
  have hd : ∀ x, i ≤ x → f (x + (j - i)) = f x := fun x hx => by
    have := congrFun e (x - i)
    unfold downF at this
    rw [show x - i + i = x from by omega, show x - i + j = x + (j - i) from by omega] at this
    exact this.symm
  have hq := h.ring (j - i) ⟨by omega, i, hd⟩
  obtain ⟨_, h2⟩ := least_divides (by omega) hd h.isPer h.ring
  rcases h.tail with h0 | h0
  · omega
  · by_cases hm : i < m
    · exact h0 (h2 (m - 1) (by omega)).symm
    · omega

/-- The place of the rest by k. -/
def placeF (m q k : Nat) : Nat := if k < m then k else m + (k - m) % q
theorem place_lt {m q : Nat} (hq : 0 < q) (k : Nat) : placeF m q k < m + q := by
  unfold placeF
  have := Nat.mod_lt (k - m) hq
  split <;> omega
theorem place_self {m q k : Nat} (h : k < m + q) : placeF m q k = k := by
  unfold placeF
  split
  · rfl
  · rw [Nat.mod_eq_of_lt (by omega)]; omega
theorem down_place {f : Nat → Bool} {m q : Nat} (h : Tidy f m q) (k : Nat) : downF f (placeF m q k) = downF f k := by
  unfold placeF
  split
  · rfl
  · funext n
    unfold downF
    have e := Nat.div_add_mod (k - m) q
    have := per_rounds h.per ((k - m) / q) (n + (m + (k - m) % q)) (by omega)
    rw [← this]
    congr 1
    rw [Nat.mul_comm] at e
    omega
theorem down_same {f : Nat → Bool} {m q : Nat} (h : Tidy f m q) (i j : Nat) : downF f i = downF f j ↔ placeF m q i = placeF m q j := by
  rw [← down_place h i, ← down_place h j]
  constructor
  · intro e
    rcases Nat.lt_trichotomy (placeF m q i) (placeF m q j) with k | k | k
    · exact absurd e (down_diff h k (place_lt h.pos _))
    · exact k
    · exact absurd e.symm (down_diff h k (place_lt h.pos _))
  · intro e; rw [e]

/-- The parts of the tidy text of a rest. -/
def tailT (f : Nat → Bool) (m i : Nat) : ByteArray := ⟨(signsOf (part (downF f i) 0 (m - i))).toArray⟩
def ringT (f : Nat → Bool) (m q i : Nat) : ByteArray := ⟨(signsOf (part (downF f i) (m - i) q)).toArray⟩
def restV (f : Nat → Bool) (m q i : Nat) : Value := .agg #[.string (tailT f m i), .string (ringT f m q i)]
theorem tailT_size (f : Nat → Bool) (m i : Nat) : (tailT f m i).size = m - i := by
  rw [← size_eq]
  show (signsOf (part (downF f i) 0 (m - i))).length = _
  rw [signsOf_length, part_length]
theorem ringT_size (f : Nat → Bool) (m q i : Nat) : (ringT f m q i).size = q := by
  rw [← size_eq]
  show (signsOf (part (downF f i) (m - i) q)).length = _
  rw [signsOf_length, part_length]
theorem tailT_sb (f : Nat → Bool) (m i : Nat) : sb (tailT f m i).data.toList = part (downF f i) 0 (m - i) := sb_signsOf _
theorem ringT_sb (f : Nat → Bool) (m q i : Nat) : sb (ringT f m q i).data.toList = part (downF f i) (m - i) q := sb_signsOf _
theorem rest_has {f : Nat → Bool} {m q : Nat} (h : Tidy f m q) (i : Nat) : hasB (sb (tailT f m i).data.toList) (sb (ringT f m q i).data.toList) = downF f i := by
  rw [tailT_sb, ringT_sb]
  exact hasB_part h.pos (down_tidy h i).per
theorem restV_same {f : Nat → Bool} {m q : Nat} (h : Tidy f m q) (i j : Nat) : restV f m q i = restV f m q j ↔ downF f i = downF f j := by
  constructor
  · intro e
    unfold restV at e
    injection e with e
    have e1 : tailT f m i = tailT f m j := by
      have := congrArg (fun a => a[0]?) e
      simp at this
      exact this
    have e2 : ringT f m q i = ringT f m q j := by
      have := congrArg (fun a => a[1]?) e
      simp at this
      exact this
    rw [← rest_has h i, ← rest_has h j, e1, e2]
  · intro e
    have hm : m - i = m - j := (tidy_unique (down_tidy h i) (e ▸ down_tidy h j)).1
    unfold restV tailT ringT
    rw [e, hm]
theorem restV_place {f : Nat → Bool} {m q : Nat} (h : Tidy f m q) (i : Nat) : restV f m q i = restV f m q (placeF m q i) := (restV_same h _ _).2 (down_place h i).symm

/-- What holds once, holds early. -/
theorem once_early {h : Nat → Bool} {M P : Nat} (hP : 0 < P) (hh : ∀ k, M ≤ k → h (k + P) = h k) : ∀ k, h k = true → ∃ j, j < M + P ∧ h j = true := by
  intro k
  induction k using Nat.strongRecOn with
  | _ k ih =>
    intro hk
    by_cases hlt : k < M + P
    · exact ⟨k, hlt, hk⟩
    · refine ih (k - P) (by omega) ?_
      have := hh (k - P) (by omega)
      rw [show k - P + P = k from by omega] at this
      rw [← this]; exact hk

/-- The quotient by some number. -/
noncomputable def someQ (f g : Nat → Bool) (n : Nat) : Bool := @decide (∃ k, g k = true ∧ f (n + k) = true) (Classical.propDecidable _)
theorem someQ_iff {f g : Nat → Bool} {n : Nat} : someQ f g n = true ↔ ∃ k, g k = true ∧ f (n + k) = true := by
  unfold someQ
  exact @decide_eq_true_iff _ (Classical.propDecidable _)
/-- The quotient by each number. -/
noncomputable def allQ (f g : Nat → Bool) (n : Nat) : Bool := !someQ (fun n => !f n) g n
theorem allQ_iff {f g : Nat → Bool} {n : Nat} : allQ f g n = true ↔ ∀ k, g k = true → f (n + k) = true := by
  unfold allQ
  constructor
  · intro h k hk
    cases hf : f (n + k)
    · have : someQ (fun n => !f n) g n = true := someQ_iff.2 ⟨k, hk, by rw [hf]; rfl⟩
      rw [this] at h; cases h
    · rfl
  · intro h
    cases hs : someQ (fun n => !f n) g n
    · rfl
    · obtain ⟨k, h1, h2⟩ := someQ_iff.1 hs
      rw [h k h1] at h2; cases h2
theorem someQ_round {f g : Nat → Bool} {m p : Nat} (hf : ∀ n, m ≤ n → f (n + p) = f n) (n : Nat) (hn : m ≤ n) : someQ f g (n + p) = someQ f g n := by
  have key : (∃ k, g k = true ∧ f (n + p + k) = true) ↔ ∃ k, g k = true ∧ f (n + k) = true := by
    have e : ∀ k, f (n + p + k) = f (n + k) := fun k => by
      rw [show n + p + k = n + k + p from by omega]; exact hf _ (by omega)
    simp only [e]
  cases h : someQ f g n
  · cases h2 : someQ f g (n + p)
    · rfl
    · rw [someQ_iff.2 (key.1 (someQ_iff.1 h2))] at h; cases h
  · exact someQ_iff.2 (key.2 (someQ_iff.1 h))
/-- The first numbers of the second set will do. -/
theorem someQ_early {f g : Nat → Bool} {M P : Nat} (hP : 0 < P) (hf : ∀ k, M ≤ k → f (k + P) = f k) (hg : ∀ k, M ≤ k → g (k + P) = g k) (n : Nat) :
    someQ f g n = true ↔ ∃ k, k < M + P ∧ g k = true ∧ f (n + k) = true := by
  rw [someQ_iff]
  constructor
  · rintro ⟨k, h1, h2⟩
    obtain ⟨j, hj, h3⟩ := once_early (h := fun k => g k && f (n + k)) hP (fun k hk => by
      show (g (k + P) && f (n + (k + P))) = (g k && f (n + k))
      rw [hg k hk, show n + (k + P) = n + k + P from by omega, hf (n + k) (by omega)]) k (by show (g k && f (n + k)) = true; rw [h1, h2]; rfl)
    rw [Bool.and_eq_true] at h3
    exact ⟨j, hj, h3⟩
  · rintro ⟨k, _, h⟩; exact ⟨k, h⟩
theorem tidy_per {g : Nat → Bool} {m p : Nat} (hp : 0 < p) (hper : ∀ n, m ≤ n → g (n + p) = g n) : ∃ m' q', Tidy g m' q' ∧ m' ≤ m ∧ q' ≤ p := by
  obtain ⟨q, hq, hl⟩ := least_per _ (show Per g p from ⟨hp, _, hper⟩)
  obtain ⟨_, h2⟩ := least_divides hp hper hq hl
  have key : ∀ k, (∀ n, k ≤ n → g (n + q) = g n) → ∃ m, m ≤ k ∧ Tidy g m q := by
    intro k
    induction k with
    | zero => intro h; exact ⟨0, Nat.le_refl _, hq.1, h, hl, .inl rfl⟩
    | succ k ih =>
      intro h
      by_cases hk : g k = g (k + q)
      · obtain ⟨m, hm, ht⟩ := ih (fun n hn => by
          rcases Nat.eq_or_lt_of_le hn with e | e
          · rw [← e]; exact hk.symm
          · exact h n e)
        exact ⟨m, by omega, ht⟩
      · exact ⟨k + 1, Nat.le_refl _, hq.1, h, hl, .inr hk⟩
  obtain ⟨m', hm, ht⟩ := key _ h2
  exact ⟨m', q, ht, hm, hl _ ⟨hp, _, hper⟩⟩

/-- What is answered where there is a number: ok tells whether there is one, P which. -/
def NumIs (ok : Bool) (P : Nat → Prop) (e : Ending) : Prop := ∃ n : Nat, e = .returned (.tuple #[.int .i64 n, .bool ok]) ∧ (ok = true → P n) ∧ (ok = false → n = 0)
def ManyIs (f : Nat → Bool) (n : Nat) : Prop := ∃ m q, Tidy f m q ∧ n = m + q
def RoundIs (f : Nat → Bool) (n : Nat) : Prop := ∃ m, Tidy f m n
def FirstIs (f : Nat → Bool) (k n : Nat) : Prop := ∃ m q, Tidy f m q ∧ n = placeF m q k
theorem numIs_unique {ok : Bool} {P : Nat → Prop} (hP : ∀ a b, P a → P b → a = b) {a b : Nat} (h1 : (ok = true → P a) ∧ (ok = false → a = 0)) (h2 : (ok = true → P b) ∧ (ok = false → b = 0)) : a = b := by
  cases ok
  · rw [h1.2 rfl, h2.2 rfl]
  · exact hP a b (h1.1 rfl) (h2.1 rfl)
theorem many_unique {f : Nat → Bool} : ∀ a b, ManyIs f a → ManyIs f b → a = b := by
  rintro a b ⟨m, q, h, rfl⟩ ⟨m', q', h', rfl⟩
  obtain ⟨rfl, rfl⟩ := tidy_unique h h'
  rfl
theorem round_unique {f : Nat → Bool} : ∀ a b, RoundIs f a → RoundIs f b → a = b := by
  rintro a b ⟨m, h⟩ ⟨m', h'⟩
  exact (tidy_unique h h').2
theorem first_unique {f : Nat → Bool} {k : Nat} : ∀ a b, FirstIs f k a → FirstIs f k b → a = b := by
  rintro a b ⟨m, q, h, rfl⟩ ⟨m', q', h', rfl⟩
  obtain ⟨rfl, rfl⟩ := tidy_unique h h'
  rfl

/-- What is told of two rests. -/
def TwinIs (ok : Bool) (f : Nat → Bool) (i k : Nat) (e : Ending) : Prop := ∃ b, e = .returned (.bool b) ∧ (ok = true → (b = true ↔ downF f i = downF f k)) ∧ (ok = false → b = false)
theorem bytes_beq (T U : ByteArray) : (T.toList == U.toList) = decide (T = U) := by
  rw [Go.Lib.toList_data, Go.Lib.toList_data]
  by_cases h : T = U
  · subst h; simp
  · rw [decide_eq_false h]
    cases e : (T.data.toList == U.data.toList)
    · rfl
    · have e := eq_of_beq e
      exact absurd (by cases T; cases U; simp at e; rw [e]) h
theorem twinIs_off {ok : Bool} {f : Nat → Bool} {i k : Nat} {e : Ending} (h : ok = false) (he : e = .returned (.bool false)) : TwinIs ok f i k e :=
  ⟨false, he, And.intro (fun h2 => absurd (h.symm.trans h2) (by decide)) (fun _ => rfl)⟩
theorem twinIs_unique {ok : Bool} {f : Nat → Bool} {i k : Nat} {a b : Bool} (h1 : (ok = true → (a = true ↔ downF f i = downF f k)) ∧ (ok = false → a = false)) (h2 : (ok = true → (b = true ↔ downF f i = downF f k)) ∧ (ok = false → b = false)) : a = b := by
  cases ok
  · rw [h1.2 rfl, h2.2 rfl]
  · have e := (h1.1 rfl).trans (h2.1 rfl).symm
    cases a <;> cases b <;> simp at e <;> rfl

end Go.Proofs.Ytiphooodijbhiaa
