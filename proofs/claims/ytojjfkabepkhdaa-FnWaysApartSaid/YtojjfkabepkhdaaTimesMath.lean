/-
  Sums of two sets, as functions from numbers to truths, and when they come round; small sets: plain facts. A set added to itself again and again: plain facts.
-/
import Derived.Test.YtojjfkabepkhdaaMakeMath
import Derived.Test.YtojjfkabepkhdaaToldMath
set_option linter.unusedSimpArgs false
set_option linter.unusedVariables false
namespace Go.Proofs.Ytojjfkabepkhdaa
open Go.RowKit

/-- Is n a sum by x? With d, not of two equal numbers. -/
def sumT (d : Bool) (f g : Nat → Bool) (n x : Nat) : Bool := f x && (g (n - x) && (!d || decide (x ≠ n - x)))
/-- The sum of f and g; with d, of different numbers. -/
def sumG (d : Bool) (f g : Nat → Bool) (n : Nat) : Bool := someF (sumT d f g n) 0 (n + 1)
theorem sumT_iff {d : Bool} {f g : Nat → Bool} {n x : Nat} : sumT d f g n x = true ↔ f x = true ∧ g (n - x) = true ∧ (d = true → x ≠ n - x) := by
  unfold sumT
  rw [Bool.and_eq_true, Bool.and_eq_true, Bool.or_eq_true, decide_eq_true_iff]
  cases d <;> simp
theorem sumG_iff {d : Bool} {f g : Nat → Bool} {n : Nat} : sumG d f g n = true ↔ ∃ x y, x + y = n ∧ f x = true ∧ g y = true ∧ (d = true → x ≠ y) := by
  unfold sumG
  rw [someF_iff]
  constructor
  · rintro ⟨i, hi, h⟩
    rw [Nat.zero_add, sumT_iff] at h
    exact ⟨i, n - i, by omega, h.1, h.2.1, h.2.2⟩
  · rintro ⟨x, y, rfl, h1, h2, h3⟩
    refine ⟨x, by omega, ?_⟩
    rw [Nat.zero_add, sumT_iff, show x + y - x = y from by omega]
    exact ⟨h1, h2, h3⟩
theorem bool_iff {a b : Bool} (h : a = true ↔ b = true) : a = b := by
  cases a <;> cases b <;> simp at h ⊢
theorem sum_round {f g : Nat → Bool} {m p : Nat} (hp : 0 < p) (hf : ∀ n, m ≤ n → f (n + p) = f n) (hg : ∀ n, m ≤ n → g (n + p) = g n) (n : Nat) (hn : 2 * m + p ≤ n) : sumG false f g (n + p) = sumG false f g n := by
  apply bool_iff
  rw [sumG_iff, sumG_iff]
  constructor
  · rintro ⟨x, y, e, h1, h2, _⟩
    by_cases hx : m + p ≤ x
    · refine ⟨x - p, y, by omega, ?_, h2, by simp⟩
      rw [← hf (x - p) (by omega), show x - p + p = x from by omega]; exact h1
    · refine ⟨x, y - p, by omega, h1, ?_, by simp⟩
      rw [← hg (y - p) (by omega), show y - p + p = y from by omega]; exact h2
  · rintro ⟨x, y, e, h1, h2, _⟩
    by_cases hx : m ≤ x
    · exact ⟨x + p, y, by omega, by rw [hf x hx]; exact h1, h2, by simp⟩
    · exact ⟨x, y + p, by omega, h1, by rw [hg y (by omega)]; exact h2, by simp⟩
theorem sumD_round {f : Nat → Bool} {m p : Nat} (hp : 0 < p) (hf : ∀ n, m ≤ n → f (n + p) = f n) (n : Nat) (hn : 2 * m + 3 * p ≤ n) : sumG true f f (n + p) = sumG true f f n := by
  have up : ∀ x, m ≤ x → f x = true → f (x + p) = true := fun x hx h => by rw [hf x hx]; exact h
  have dn : ∀ x, m + p ≤ x → f x = true → f (x - p) = true := fun x hx h => by
    rw [← hf (x - p) (by omega), show x - p + p = x from by omega]; exact h
  apply bool_iff
  rw [sumG_iff, sumG_iff]
  constructor
  · rintro ⟨x, y, e, h1, h2, h3⟩
    have h3 := h3 rfl
    by_cases hx : m + p ≤ x
    · by_cases he : x - p = y
      · exact ⟨x, y - p, by omega, h1, dn y (by omega) h2, fun _ => by omega⟩
      · exact ⟨x - p, y, by omega, dn x hx h1, h2, fun _ => he⟩
    · exact ⟨x, y - p, by omega, h1, dn y (by omega) h2, fun _ => by omega⟩
  · rintro ⟨x, y, e, h1, h2, h3⟩
    have h3 := h3 rfl
    by_cases hx : m ≤ x
    · by_cases he : x + p = y
      · exact ⟨x, y + p, by omega, h1, up y (by omega) h2, fun _ => by omega⟩
      · exact ⟨x + p, y, by omega, up x hx h1, h2, fun _ => he⟩
    · exact ⟨x, y + p, by omega, h1, up y (by omega) h2, fun _ => by omega⟩
theorem sumG_comm (f g : Nat → Bool) : sumG false f g = sumG false g f := by
  funext n
  apply bool_iff
  rw [sumG_iff, sumG_iff]
  constructor
  · rintro ⟨x, y, e, h1, h2, _⟩; exact ⟨y, x, by omega, h2, h1, by simp⟩
  · rintro ⟨x, y, e, h1, h2, _⟩; exact ⟨y, x, by omega, h2, h1, by simp⟩

/-- Has a set a tidy tail and ring of 8 signs at most? -/
def Small (f : Nat → Bool) : Prop := ∃ m q, Tidy f m q ∧ m ≤ 8 ∧ q ≤ 8
noncomputable def smallS (s : ByteArray) : Bool := okS s && @decide (Small (fS s)) (Classical.propDecidable _)
theorem smallS_iff {s : ByteArray} : smallS s = true ↔ okS s = true ∧ Small (fS s) := by
  unfold smallS
  rw [Bool.and_eq_true, @decide_eq_true_iff _ (Classical.propDecidable _)]
theorem smallS_off {s : ByteArray} (h : okS s = false) : smallS s = false := by unfold smallS; rw [h]; rfl
theorem smallS_not {s : ByteArray} {m q : Nat} (h : Tidy (fS s) m q) (h2 : ¬ (m ≤ 8 ∧ q ≤ 8)) : smallS s = false := by
  cases e : smallS s
  · rfl
  · obtain ⟨_, m', q', ht, h3⟩ := smallS_iff.1 e
    obtain ⟨rfl, rfl⟩ := tidy_unique h ht
    exact absurd h3 h2
theorem smallS_on {s : ByteArray} {m q : Nat} (ho : okS s = true) (h : Tidy (fS s) m q) (h2 : m ≤ 8 ∧ q ≤ 8) : smallS s = true := smallS_iff.2 ⟨ho, m, q, h, h2⟩
/-- Only 0. -/
def zeroOnly (n : Nat) : Bool := decide (n = 0)
theorem tidy_zeroOnly : Tidy zeroOnly 1 1 :=
  ⟨by decide, fun n hn => by unfold zeroOnly; rw [decide_eq_false (by omega), decide_eq_false (by omega)], fun d hd => hd.1, .inr (by decide)⟩
theorem tidyText_zeroOnly : TidyText zeroOnly ⟨#[49, 40, 48, 41]⟩ := ⟨1, 1, tidy_zeroOnly, by decide, by decide, by decide⟩

/-- T is what k sums with s leave, each of them told. -/
def ChainIs (s : ByteArray) : Nat → ByteArray → Prop
  | 0, T => T = ⟨#[49, 40, 48, 41]⟩
  | k + 1, T => ∃ U, ChainIs s k U ∧ MakeIs (smallS U && smallS s) (sumG false (fS U) (fS s)) T true
theorem makeIs_told {ok : Bool} {f : Nat → Bool} {T : ByteArray} (h : MakeIs ok f T true) : ok = true ∧ TidyText f T := by
  cases ok
  · exact absurd (h.2 rfl).2 (by decide)
  · rcases h.1 rfl with ⟨_, h2⟩ | ⟨h2, _⟩
    · exact ⟨rfl, h2⟩
    · cases h2
theorem chain_size {s : ByteArray} {k : Nat} {T : ByteArray} (h : ChainIs s k T) : T.size ≤ 1048576 := by
  cases k with
  | zero => rw [show T = _ from h]; decide
  | succ k =>
    obtain ⟨U, _, h2⟩ := h
    have h3 := (makeIs_told h2).2.told.ok
    have h4 := setT_le h3
    have h5 := setR_le h3
    rw [set_size h3]; omega
theorem chain_unique {s : ByteArray} : ∀ {k : Nat} {T U : ByteArray}, ChainIs s k T → ChainIs s k U → T = U := by
  intro k
  induction k with
  | zero => intro T U h h2; rw [show T = _ from h, show U = _ from h2]
  | succ k ih =>
    rintro T U ⟨V, h1, h2⟩ ⟨W, h3, h4⟩
    obtain rfl := ih h1 h3
    exact (makeIs_unique h2 h4).1
theorem chain_less {s : ByteArray} {i : Nat} : ∀ {k : Nat} {T : ByteArray}, ChainIs s k T → i < k → ∃ U V, ChainIs s i U ∧ MakeIs (smallS U && smallS s) (sumG false (fS U) (fS s)) V true := by
  intro k
  induction k with
  | zero => intro T _ h; omega
  | succ k ih =>
    rintro T ⟨U, h1, h2⟩ h
    by_cases e : i = k
    · subst e; exact ⟨U, T, h1, h2⟩
    · exact ih h1 (by omega)
/-- What SumTimes answers. -/
def TimesIs (s : ByteArray) (k : Int) (T : ByteArray) (b : Bool) : Prop :=
  ((smallS s && inR k 0 6) = true → (b = true ∧ ChainIs s k.toNat T) ∨ (b = false ∧ T = ⟨#[]⟩ ∧ ∃ i U V, i < k.toNat ∧ ChainIs s i U ∧ MakeIs (smallS U && smallS s) (sumG false (fS U) (fS s)) V false)) ∧
  ((smallS s && inR k 0 6) = false → b = false ∧ T = ⟨#[]⟩)
theorem times_clash {s : ByteArray} {k i : Nat} {T U V : ByteArray} (h : ChainIs s k T) (hi : i < k) (hU : ChainIs s i U) (hm : MakeIs (smallS U && smallS s) (sumG false (fS U) (fS s)) V false) : False := by
  obtain ⟨U', V', h1, h2⟩ := chain_less h hi
  obtain rfl := chain_unique h1 hU
  exact absurd (makeIs_unique h2 hm).2 (by decide)
theorem times_unique {s : ByteArray} {k : Int} {T U : ByteArray} {b c : Bool} (h : TimesIs s k T b) (h2 : TimesIs s k U c) : T = U ∧ b = c := by
  cases e : (smallS s && inR k 0 6)
  · obtain ⟨rfl, rfl⟩ := h.2 e
    obtain ⟨rfl, rfl⟩ := h2.2 e
    exact ⟨rfl, rfl⟩
  · rcases h.1 e with ⟨rfl, h3⟩ | ⟨rfl, rfl, i, X, Y, h3, h4, h5⟩ <;> rcases h2.1 e with ⟨rfl, k3⟩ | ⟨rfl, rfl, j, X', Y', k3, k4, k5⟩
    · exact ⟨chain_unique h3 k3, rfl⟩
    · exact (times_clash h3 k3 k4 k5).elim
    · exact (times_clash k3 h3 h4 h5).elim
    · exact ⟨rfl, rfl⟩
def TimesEnd (s : ByteArray) (k : Int) (e : Ending) : Prop := ∃ T b, e = .returned (.tuple #[.string T, .bool b]) ∧ TimesIs s k T b
theorem times_off {s : ByteArray} {k : Int} (h : (smallS s && inR k 0 6) = false) : TimesEnd s k (.returned (.tuple #[.string ⟨#[]⟩, .bool false])) :=
  ⟨_, _, rfl, (fun x => by rw [h] at x; cases x), fun _ => ⟨rfl, rfl⟩⟩
theorem times_done {s : ByteArray} {k : Nat} {T : ByteArray} (h : (smallS s && inR (k : Int) 0 6) = true) (hc : ChainIs s k T) : TimesEnd s k (.returned (.tuple #[.string T, .bool true])) :=
  ⟨_, _, rfl, fun _ => .inl ⟨rfl, hc⟩, fun x => by rw [h] at x; cases x⟩
theorem times_fails {s : ByteArray} {k i : Nat} {U V : ByteArray} (h : (smallS s && inR (k : Int) 0 6) = true) (hi : i < k) (hc : ChainIs s i U) (hm : MakeIs (smallS U && smallS s) (sumG false (fS U) (fS s)) V false) :
    TimesEnd s k (.returned (.tuple #[.string ⟨#[]⟩, .bool false])) :=
  ⟨_, _, rfl, fun _ => .inr ⟨rfl, rfl, i, U, V, hi, hc, hm⟩, fun x => by rw [h] at x; cases x⟩

end Go.Proofs.Ytojjfkabepkhdaa
