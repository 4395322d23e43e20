/-
  What a machine takes has a tidy text: a plain fact.
-/
import Derived.Test.YtiphooodijbhiaaMachMath
import Derived.Test.YtiphooodijbhiaaLoose
namespace Go.Proofs.Ytiphooodijbhiaa

theorem mach_tidy {l : List Nat} {s p q : Nat} (e : Nat) (hc : Comes (afterN l s) p q) (hpq : p + q ≤ 32) : ∃ m r, Tidy (takesF l s e) m r ∧ m ≤ 60 ∧ r ≤ 60 := by
  have hper := takes_round hc e
  obtain ⟨m, r, h⟩ := tidy_round hc.pos hper
  have hb := hasB_part (f := takesF l s e) (m := p) hc.pos hper
  have := tidy_le_any (t := part (takesF l s e) 0 p) (r := part (takesF l s e) p q) (by rw [part_length]; exact hc.pos) (by rw [hb]; exact h)
  rw [part_length, part_length] at this
  exact ⟨m, r, h, by omega, by omega⟩

end Go.Proofs.Ytiphooodijbhiaa
