/-
  A set added to itself again and again: plain facts.
-/
import Derived.Test.YtonphojjlilcnaaSumMath
set_option linter.unusedVariables false
set_option linter.unusedSimpArgs false
namespace Go.Proofs.Ytonphojjlilcnaa

/-- T is what k sums with s leave, each of them told. -/
def ChainIs (s : ByteArray) : Nat → ByteArray → Prop
  | 0, T => T = ⟨#[49, 40, 48, 41]⟩
  | k + 1, T => ∃ U, ChainIs s k U ∧ MakeIs (smallS U && smallS s) (sumG false (fS U) (fS s)) T true
theorem makeIs_told {ok : Bool} {f : Nat → Bool} {T : ByteArray} (h : MakeIs ok f T true) : ok = true ∧ TidyText f T := by
  cases ok
  · exact absurd (h.2 rfl).2 (by decide)
  · rcases h.1 rfl with ⟨_, h2⟩ | ⟨h2, _⟩
    · exact ⟨rfl, h2⟩
    · cases h2
theorem chain_size {s : ByteArray} {k : Nat} {T : ByteArray} (h : ChainIs s k T) : T.size ≤ 1048576 := by
  cases k with
  | zero => rw [show T = _ from h]; decide
  | succ k =>
    obtain ⟨U, _, h2⟩ := h
    have h3 := (makeIs_told h2).2.told.ok
    have h4 := setT_le h3
    have h5 := setR_le h3
    rw [set_size h3]; omega
theorem chain_unique {s : ByteArray} : ∀ {k : Nat} {T U : ByteArray}, ChainIs s k T → ChainIs s k U → T = U := by
  intro k
  induction k with
  | zero => intro T U h h2; rw [show T = _ from h, show U = _ from h2]
  | succ k ih =>
    rintro T U ⟨V, h1, h2⟩ ⟨W, h3, h4⟩
    obtain rfl := ih h1 h3
    exact (makeIs_unique h2 h4).1
theorem chain_less {s : ByteArray} {i : Nat} : ∀ {k : Nat} {T : ByteArray}, ChainIs s k T → i < k → ∃ U V, ChainIs s i U ∧ MakeIs (smallS U && smallS s) (sumG false (fS U) (fS s)) V true := by
  intro k
  induction k with
  | zero => intro T _ h; omega
  | succ k ih =>
    rintro T ⟨U, h1, h2⟩ h
    by_cases e : i = k
    · subst e; exact ⟨U, T, h1, h2⟩
    · exact ih h1 (by omega)
/-- What SumTimes answers. -/
def TimesIs (s : ByteArray) (k : Int) (T : ByteArray) (b : Bool) : Prop :=
  ((smallS s && inR k 0 6) = true → (b = true ∧ ChainIs s k.toNat T) ∨ (b = false ∧ T = ⟨#[]⟩ ∧ ∃ i U V, i < k.toNat ∧ ChainIs s i U ∧ MakeIs (smallS U && smallS s) (sumG false (fS U) (fS s)) V false)) ∧
  ((smallS s && inR k 0 6) = false → b = false ∧ T = ⟨#[]⟩)
theorem times_clash {s : ByteArray} {k i : Nat} {T U V : ByteArray} (h : ChainIs s k T) (hi : i < k) (hU : ChainIs s i U) (hm : MakeIs (smallS U && smallS s) (sumG false (fS U) (fS s)) V false) : False := by
  obtain ⟨U', V', h1, h2⟩ := chain_less h hi
  obtain rfl := chain_unique h1 hU
  exact absurd (makeIs_unique h2 hm).2 (by decide)
theorem times_unique {s : ByteArray} {k : Int} {T U : ByteArray} {b c : Bool} (h : TimesIs s k T b) (h2 : TimesIs s k U c) : T = U ∧ b = c := by
  cases e : (smallS s && inR k 0 6)
  · obtain ⟨rfl, rfl⟩ := h.2 e
    obtain ⟨rfl, rfl⟩ := h2.2 e
    exact ⟨rfl, rfl⟩
  · rcases h.1 e with ⟨rfl, h3⟩ | ⟨rfl, rfl, i, X, Y, h3, h4, h5⟩ <;> rcases h2.1 e with ⟨rfl, k3⟩ | ⟨rfl, rfl, j, X', Y', k3, k4, k5⟩
    · exact ⟨chain_unique h3 k3, rfl⟩
    · exact (times_clash h3 k3 k4 k5).elim
    · exact (times_clash k3 h3 h4 h5).elim
    · exact ⟨rfl, rfl⟩
def TimesEnd (s : ByteArray) (k : Int) (e : Ending) : Prop := ∃ T b, e = .returned (.tuple #[.string T, .bool b]) ∧ TimesIs s k T b
theorem times_off {s : ByteArray} {k : Int} (h : (smallS s && inR k 0 6) = false) : TimesEnd s k (.returned (.tuple #[.string ⟨#[]⟩, .bool false])) :=
  ⟨_, _, rfl, (fun x => by rw [h] at x; cases x), fun _ => ⟨rfl, rfl⟩⟩
theorem times_done {s : ByteArray} {k : Nat} {T : ByteArray} (h : (smallS s && inR (k : Int) 0 6) = true) (hc : ChainIs s k T) : TimesEnd s k (.returned (.tuple #[.string T, .bool true])) :=
  ⟨_, _, rfl, fun _ => .inl ⟨rfl, hc⟩, fun x => by rw [h] at x; cases x⟩
theorem times_fails {s : ByteArray} {k i : Nat} {U V : ByteArray} (h : (smallS s && inR (k : Int) 0 6) = true) (hi : i < k) (hc : ChainIs s i U) (hm : MakeIs (smallS U && smallS s) (sumG false (fS U) (fS s)) V false) :
    TimesEnd s k (.returned (.tuple #[.string ⟨#[]⟩, .bool false])) :=
  ⟨_, _, rfl, fun _ => .inr ⟨rfl, rfl, i, U, V, hi, hc, hm⟩, fun x => by rw [h] at x; cases x⟩

end Go.Proofs.Ytonphojjlilcnaa
