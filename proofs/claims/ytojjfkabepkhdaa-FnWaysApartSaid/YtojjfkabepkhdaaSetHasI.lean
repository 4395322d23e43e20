/-
  The walk of SetHas, of the program.
-/
import Derived.Test.YtojjfkabepkhdaaHasI
namespace Go.Proofs.Ytojjfkabepkhdaa
open Go.RowKit

/-- What SetHas answers. -/
def setHas (s : ByteArray) (n : Int) : Bool := okS s && hasI (setT s) (setR s) n

set_option maxHeartbeats 400000 in
theorem implSetHas (s : ByteArray) (n m : Int) (w : World) (hs : s.size ≤ 1048576) (hn : n ≤ 9223372036854775807) (hL : LibAt m w) :
    Calls Try.prog 33 #[.string s, .int .i64 n] w fun e w' => e = .returned (.bool (setHas s n)) ∧ Below w.heap.size w w' := by
  cases h : okS s
  · have H : Hid (setHas s n = false) := Lib.hid (by unfold setHas; rw [h]; rfl)
    go_enter Try.func33, Try.ntmps33
    go_wp2_with fail
    refine (split_off s m _ hs hL h).mono ?_
    rintro e w1 ⟨rfl, hb⟩
    go_wp2
    go_ret
    exact ⟨ret_bool H.out.symm, (hb.alloc hb.size _)⟩
  · have H : Hid (setHas s n = hasI (setT s) (setR s) n) := Lib.hid (by unfold setHas; rw [h]; rfl)
    go_enter Try.func33, Try.ntmps33
    go_wp2_with fail
    refine (split_on s m _ hs hL h).mono ?_
    rintro e w1 ⟨T, R, rfl, hb, hsp⟩
    go_wp2_with fail
    refine (has_on s T R n _ hsp hn).mono ?_
    rintro e w2 ⟨rfl, hb2⟩
    go_wp2
    go_ret
    exact ⟨ret_bool H.out.symm, (hb.alloc hb.size _).trans (hb2.mono (by have := hb.size; simp; omega))⟩

end Go.Proofs.Ytojjfkabepkhdaa
