/-
  What the walks of chapter 2's promises share.
-/
import Derived.Test.YtcljchngjaodgaaTidyOfI
import Derived.Test.YtcljchngjaodgaaDrawMake
import Derived.Test.YtcljchngjaodgaaRowBytes
import Derived.Test.YtcljchngjaodgaaSetHasI
import Derived.Test.YtcljchngjaodgaaMakeMath
namespace Go.Proofs.Ytcljchngjaodgaa
open Go.RowKit

theorem makeIs_true {ok : Bool} {f : Nat → Bool} {T : ByteArray} (h : MakeIs ok f T true) : ok = true ∧ TidyText f T := by
  cases ok
  · have := (h.2 rfl).2; cases this
  · rcases h.1 rfl with ⟨_, h⟩ | ⟨h, _⟩
    · exact ⟨rfl, h⟩
    · cases h
theorem setHas_nat {s : ByteArray} (h : okS s = true) (n : Nat) : setHas s (n : Int) = fS s n := by
  unfold setHas; rw [h, Bool.true_and, hasI_nat]; rfl
theorem tidy_self {f : Nat → Bool} {T : ByteArray} (h : TidyText f T) : TidyOf T T := by
  have ht := h.told
  exact .inl ⟨ht.ok, by rw [ht.set]; exact h⟩
theorem told_size {T : ByteArray} (h : okS T = true) : T.size ≤ 1048576 := by
  rw [set_size h]
  have h1 := setT_le h
  have h2 := setR_le h
  omega
theorem makeIs_size {ok : Bool} {f : Nat → Bool} {T : ByteArray} {b : Bool} (h : MakeIs ok f T b) : T.size ≤ 1048576 := by
  cases ok
  · obtain ⟨rfl, _⟩ := h.2 rfl; decide
  · rcases h.1 rfl with ⟨_, h⟩ | ⟨_, rfl, _⟩
    · exact told_size h.told.ok
    · decide
theorem and_both {a b : Bool} (h : (a && b) = true) : a = true ∧ b = true := by cases a <;> cases b <;> simp at h <;> exact ⟨rfl, rfl⟩
theorem and_left {a b : Bool} (h : (a && b) = true) : a = true := (and_both h).1
theorem and_right {a b : Bool} (h : (a && b) = true) : b = true := (and_both h).2
theorem tidyText_there {s : ByteArray} (h : okS s = true) : ∃ T, TidyText (fS s) T := by
  obtain ⟨m, q, ht, hm, hq⟩ := tidy_there h
  exact ⟨_, m, q, ht, hm, hq, rfl⟩

end Go.Proofs.Ytcljchngjaodgaa
