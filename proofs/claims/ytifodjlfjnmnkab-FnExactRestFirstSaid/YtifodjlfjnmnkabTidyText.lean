/-
  Truths as signs: plain facts. The tidy text of a set, and what is answered where a set is made: plain facts.
-/
import Derived.Test.YtifodjlfjnmnkabLessMath
import Derived.Lib.Builder
namespace Go.Proofs.Ytifodjlfjnmnkab
open Go.RowKit

theorem infoByte : (Try.prog.info? 5).map (fun i => (i.zero, i.size, i.bytes)) = some (some (.int .u8 0), 1, 1) := by kernel_rfl

/-- A truth as a sign. -/
def signOf (b : Bool) : UInt8 := if b then 49 else 48

def signsOf (bs : List Bool) : List UInt8 := bs.map signOf

theorem signsOf_length (bs : List Bool) : (signsOf bs).length = bs.length := by simp [signsOf]

theorem signsOf_snoc (bs : List Bool) (k : Nat) (h : k < bs.length) : signsOf (bs.take (k + 1)) = signsOf (bs.take k) ++ [signOf (bs.getD k false)] := by
  unfold signsOf
  rw [List.take_succ_eq_append_getElem h, List.map_append, List.getD_eq_getElem?_getD, List.getElem?_eq_getElem h]; rfl

theorem byteCells_snoc (l : List UInt8) (c : UInt8) : Lib.byteCells (l ++ [c]) = Lib.byteCells l ++ [.int .u8 c.toNat] := by simp [Lib.byteCells]

/-- The text of a tail and a ring. -/
def textOf (t r : List Bool) : List UInt8 := signsOf t ++ 40 :: (signsOf r ++ [41])

/-- T is the tidy text of a set. -/
def TidyText (f : Nat → Bool) (T : ByteArray) : Prop := ∃ m q, Tidy f m q ∧ m ≤ 60 ∧ q ≤ 60 ∧ T = ⟨(textOf (part f 0 m) (part f m q)).toArray⟩

/-- What is answered where a set is made: its tidy text, or none if that is too long. -/
def Made (f : Nat → Bool) (T : ByteArray) (b : Bool) : Prop :=
  (b = true ∧ TidyText f T) ∨ (b = false ∧ T = ⟨#[]⟩ ∧ ∃ m q, Tidy f m q ∧ ¬ (m ≤ 60 ∧ q ≤ 60))

theorem made_unique {f : Nat → Bool} {T U : ByteArray} {b c : Bool} (h : Made f T b) (k : Made f U c) : T = U ∧ b = c := by
  rcases h with ⟨rfl, m, q, ht, hm, hq, rfl⟩ | ⟨rfl, rfl, m, q, ht, hn⟩ <;> rcases k with ⟨rfl, m', q', ht', hm', hq', rfl⟩ | ⟨rfl, rfl, m', q', ht', hn'⟩ <;> obtain ⟨rfl, rfl⟩ := tidy_unique ht ht'
  · exact ⟨rfl, rfl⟩
  · exact (hn' ⟨hm, hq⟩).elim
  · exact (hn ⟨hm', hq'⟩).elim
  · exact ⟨rfl, rfl⟩

def MadeEnd (f : Nat → Bool) (e : Ending) : Prop := ∃ T b, e = .returned (.tuple #[.string T, .bool b]) ∧ Made f T b

/-- What a function answers that makes a set where its arguments are good. -/
def MakeIs (ok : Bool) (f : Nat → Bool) (T : ByteArray) (b : Bool) : Prop := (ok = true → Made f T b) ∧ (ok = false → T = ⟨#[]⟩ ∧ b = false)

theorem makeIs_unique {ok : Bool} {f : Nat → Bool} {T U : ByteArray} {b c : Bool} (h : MakeIs ok f T b) (k : MakeIs ok f U c) : T = U ∧ b = c := by
  cases ok
  · obtain ⟨rfl, rfl⟩ := h.2 rfl
    obtain ⟨rfl, rfl⟩ := k.2 rfl
    exact ⟨rfl, rfl⟩
  · exact made_unique (h.1 rfl) (k.1 rfl)

def MakeEnd (ok : Bool) (f : Nat → Bool) (e : Ending) : Prop := ∃ T b, e = .returned (.tuple #[.string T, .bool b]) ∧ MakeIs ok f T b

theorem makeEnd_on {f : Nat → Bool} {T : ByteArray} {b : Bool} (h : Made f T b) : MakeEnd true f (.returned (.tuple #[.string T, .bool b])) := ⟨T, b, rfl, And.intro (fun _ => h) (fun h => by cases h)⟩

theorem makeIs_off {f : Nat → Bool} {ok : Bool} (h : ok = false) : MakeIs ok f ⟨#[]⟩ false :=
  And.intro (fun h2 => absurd (h.symm.trans h2) (by decide)) (fun _ => ⟨rfl, rfl⟩)
theorem makeEnd_off {f : Nat → Bool} {ok : Bool} (h : ok = false) : MakeEnd ok f (.returned (.tuple #[.string ⟨#[]⟩, .bool false])) := ⟨⟨#[]⟩, false, rfl, makeIs_off h⟩

end Go.Proofs.Ytifodjlfjnmnkab
