/-
  What spec.l1Read lays, as spec.l1Less wants it.
-/
import Derived.Test.YtonphojjlilcnaaReadS
import Derived.Test.YtonphojjlilcnaaLess
namespace Go.Proofs.Ytonphojjlilcnaa
open Go.RowKit

theorem read_less (s : ByteArray) (w : World) (hs : s.size ≤ 1048576) (hok : okS s = true) :
    Calls Try.prog 77 #[.string s] w fun e w' =>
      ∃ a1 n1 c1 a2 n2 c2, e = .returned (.tuple #[.agg #[.slice a1 n1 c1, .slice a2 n2 c2], .bool true]) ∧ Below w.heap.size w w' ∧ LessIn w' (setT s) (setR s) a1 n1 c1 a2 n2 c2 := by
  have hok' : setOk s.data.toList = true := hok
  refine (read_yes s w hs hok').mono ?_
  rintro e w' ⟨a1, c1, a2, c2, rfl, hb, h1, h2⟩
  exact ⟨_, _, _, _, _, _, rfl, hb, reads_own h1 rfl, reads_own h2 rfl, (own_cap h1).1, (own_cap h2).1, (own_cap h1).2, (own_cap h2).2, Nat.le_trans (tail_le hok') (by decide), Nat.le_trans (ring_le hok') (by decide), ring_pos hok'⟩

/-- l1Less on a set text. -/
theorem less_on (s : ByteArray) (a1 : Option Addr) (n1 c1 : Nat) (a2 : Option Addr) (n2 c2 : Nat) (w : World) (h : LessIn w (setT s) (setR s) a1 n1 c1 a2 n2 c2) :
    Calls Try.prog 78 #[.agg #[.slice a1 n1 c1, .slice a2 n2 c2]] w (LessPost (fS s) w) := less_any _ (setT s) (setR s) a1 n1 c1 a2 n2 c2 w rfl h

end Go.Proofs.Ytonphojjlilcnaa
