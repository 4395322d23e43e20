/-
  What spec.l1Read answers.
-/
import Derived.Test.YtifodjlfjnmnkabSetDef
import Derived.Test.YtifodjlfjnmnkabRead
namespace Go.Proofs.Ytifodjlfjnmnkab
open Go.RowKit

theorem read_on (s : ByteArray) (w : World) (hs : s.size ≤ 1048576) (hok : okS s = true) :
    Calls Try.prog 17 #[.string s] w fun e w' =>
      ∃ a1 n1 c1 a2 n2 c2, e = .returned (.tuple #[.agg #[.slice a1 n1 c1, .slice a2 n2 c2], .bool true]) ∧ Below w.heap.size w w' ∧ IsRead w' s a1 n1 a2 n2 := by
  have hok' : setOk s.data.toList = true := hok
  refine (read_yes s w hs hok').mono ?_
  rintro e w' ⟨a1, c1, a2, c2, rfl, hb, h1, h2⟩
  exact ⟨_, _, _, _, _, _, rfl, hb, reads_own h1 rfl, reads_own h2 rfl, tail_le hok', ring_le hok', ring_pos hok'⟩

theorem read_off (s : ByteArray) (w : World) (hs : s.size ≤ 1048576) (hok : okS s = false) :
    Calls Try.prog 17 #[.string s] w fun e w' =>
      ∃ a1 n1 c1 a2 n2 c2, e = .returned (.tuple #[.agg #[.slice a1 n1 c1, .slice a2 n2 c2], .bool false]) ∧ Below w.heap.size w w' := read_no s w hs hok

/-- The same, and what no memory has no room. -/
theorem read_room (s : ByteArray) (w : World) (hs : s.size ≤ 1048576) (hok : okS s = true) :
    Calls Try.prog 17 #[.string s] w fun e w' =>
      ∃ a1 n1 c1 a2 n2 c2, e = .returned (.tuple #[.agg #[.slice a1 n1 c1, .slice a2 n2 c2], .bool true]) ∧ Below w.heap.size w w' ∧ IsRead w' s a1 n1 a2 n2 ∧ (a1 = none → c1 = 0) ∧ n1 ≤ c1 ∧ c1 ≤ maxLen ∧ n2 ≤ c2 ∧ c2 ≤ maxLen := by
  have hok' : setOk s.data.toList = true := hok
  refine (read_yes s w hs hok').mono ?_
  rintro e w' ⟨a1, c1, a2, c2, rfl, hb, h1, h2⟩
  refine ⟨_, _, _, _, _, _, rfl, hb, ⟨reads_own h1 rfl, reads_own h2 rfl, tail_le hok', ring_le hok', ring_pos hok'⟩, fun hn => ?_, (own_cap h1).1, (own_cap h1).2, (own_cap h2).1, (own_cap h2).2⟩
  rcases h1.2 with ⟨hv, _⟩ | ⟨g, cap, cur, hv, _⟩
  · injection hv
  · subst hn; injection hv with ha _ _; cases ha

/-- The same, and where it lies. -/
theorem read_from (s : ByteArray) (w : World) (hs : s.size ≤ 1048576) (hok : okS s = true) :
    Calls Try.prog 17 #[.string s] w fun e w' =>
      ∃ a1 n1 c1 a2 n2 c2, e = .returned (.tuple #[.agg #[.slice a1 n1 c1, .slice a2 n2 c2], .bool true]) ∧ Below w.heap.size w w' ∧ IsRead w' s a1 n1 a2 n2 ∧ (∀ b, a1 = some b → w.heap.size ≤ b.block) ∧ (∀ b, a2 = some b → w.heap.size ≤ b.block) := by
  have hok' : setOk s.data.toList = true := hok
  refine (read_yes s w hs hok').mono ?_
  rintro e w' ⟨a1, c1, a2, c2, rfl, hb, h1, h2⟩
  exact ⟨_, _, _, _, _, _, rfl, hb, ⟨reads_own h1 rfl, reads_own h2 rfl, tail_le hok', ring_le hok', ring_pos hok'⟩, fun b hb => (h1.lt b.block (by rw [hb]; rfl)).1, fun b hb => (h2.lt b.block (by rw [hb]; rfl)).1⟩

end Go.Proofs.Ytifodjlfjnmnkab
