/-
  A term's text as a string; one byte that is made a string: what the walks of both sides share.
-/
import Derived.Test.YtiphooodijbhiaaTermSem
import Derived.Test.YtiphooodijbhiaaHasMath
import Derived.Test.YtiphooodijbhiaaSetDef
import Derived.Laws.BytesString
set_option linter.unusedVariables false
set_option linter.unusedSimpArgs false
namespace Go.Proofs.Ytiphooodijbhiaa
open Go.RowKit

/-- A term's text, as a string. -/
def tmS (t : Tm) : ByteArray := ⟨(tmText t).toArray⟩

theorem tmS_size (t : Tm) : (tmS t).size = (tmText t).length := by show (tmText t).toArray.size = _; simp
/-- One byte that is made a string. -/
theorem conv_byte (W : World) (g : Nat) (c : UInt8) (h : W.cell? ⟨g, 0, none⟩ = some (.int .u8 c.toNat)) :
    (convert 22 9 (.slice (some ⟨g, 0, none⟩) 1 1)).run Try.prog W = .ok (.string ⟨#[c]⟩) W := by
  refine run_convert_bytes_back W _ _ 5 ⟨g, 0, none⟩ 1 [c] Try.underlying22 Try.underlying5 Try.underlying9 ?_
  intro j hj
  obtain rfl : j = 0 := by simpa using hj
  exact h

theorem text_cat (a : ByteArray) (t : Tm) {l : List UInt8} (h : a.data.toList ++ tmText t = l) : a ++ tmS t = ⟨l.toArray⟩ := by
  apply ByteArray.ext
  apply Array.ext'
  rw [← h, ByteArray.data_append, Array.toList_append]
  rfl
theorem text_pair_eq (l r : Tm) (c : UInt8) : (⟨#[40]⟩ ++ tmS l ++ ⟨#[c]⟩ ++ tmS r ++ ⟨#[41]⟩ : ByteArray) = tmS (.pair l c r) := by
  apply ByteArray.ext
  apply Array.ext'
  simp [ByteArray.data_append, tmS, tmText]
theorem tmS_toList (t : Tm) : (tmS t).toList = tmText t := by rw [Lib.toList_data]; show (tmText t).toArray.toList = _; simp
theorem list_off {X : ByteArray} {l : List UInt8} (h : ¬ X.toList = l) : (X.toList == l) = false := by simpa using h

theorem size_one {X : ByteArray} {c : UInt8} {l : List UInt8} (h : X.toList = c :: l) : 0 < X.size := by
  rw [Lib.toList_data] at h
  rw [← size_eq, h]; simp
theorem first_one {X : ByteArray} {c : UInt8} {l : List UInt8} (h : X.toList = c :: l) : X[0]'(size_one h) = c := by
  rw [Lib.toList_data] at h
  have h0 : 0 < X.size := by rw [← size_eq, h]; simp
  show X.data.toList[0]'(by simpa using h0) = c
  simp only [h]; rfl
/-- What a tidy term's text begins with, if it is no single `0` or `1`. -/
theorem tidyStar_text {u : Tm} (ho : tmOk u = true) (h0 : ¬ tmText u = [48]) (h1 : ¬ tmText u = [49]) : (∃ x, u = .star x) ∨ (tidyStar u = .star u ∧ ∃ c l, tmText u = c :: l ∧ c ≠ 42) := by
  cases u with
  | sign c =>
    rcases one_cases ho with rfl | rfl | rfl
    · exact absurd rfl h0
    · exact absurd rfl h1
    · exact .inr ⟨rfl, _, _, rfl, by decide⟩
  | star x => exact .inl ⟨x, rfl⟩
  | times d x =>
    rw [tmOk, Bool.and_eq_true] at ho
    exact .inr ⟨rfl, _, _, rfl, by rcases dig_cases ho.1 with rfl | rfl | rfl | rfl <;> decide⟩
  | pair l s r => exact .inr ⟨rfl, _, _, rfl, by decide⟩
theorem tidyStar_one {u : Tm} (h : tmText u = [48] ∨ tmText u = [49]) : tidyStar u = .sign 49 := by
  rcases h with h | h
  · rw [text_single h]; rfl
  · rw [text_single h]; rfl

end Go.Proofs.Ytiphooodijbhiaa
