/-
  The walks of SetHas, of the program, of the model, and of the law that holds them against each other.
-/
import Derived.Test.YtndpkmgjmpfgdaaCore
namespace Go.Proofs.Ytndpkmgjmpfgdaa
open Go.RowKit

/-- What SetHas answers. -/
def setHas (s : ByteArray) (n : Int) : Bool := okS s && hasI (setT s) (setR s) n

set_option maxHeartbeats 400000 in
theorem implSetHas (s : ByteArray) (n m : Int) (w : World) (hs : s.size ≤ 1048576) (hn : n ≤ 9223372036854775807) (hL : LibAt m w) :
    Calls Try.prog 20 #[.string s, .int .i64 n] w fun e w' => e = .returned (.bool (setHas s n)) ∧ Below w.heap.size w w' := by
  cases h : okS s
  · have H : Hid (setHas s n = false) := Lib.hid (by unfold setHas; rw [h]; rfl)
    go_enter Try.func20, Try.ntmps20
    go_wp2_with fail
    refine (split_off s m _ hs hL h).mono ?_
    rintro e w1 ⟨rfl, hb⟩
    go_wp2
    go_ret
    exact ⟨ret_bool H.out.symm, (hb.alloc hb.size _)⟩
  · have H : Hid (setHas s n = hasI (setT s) (setR s) n) := Lib.hid (by unfold setHas; rw [h]; rfl)
    go_enter Try.func20, Try.ntmps20
    go_wp2_with fail
    refine (split_on s m _ hs hL h).mono ?_
    rintro e w1 ⟨T, R, rfl, hb, hsp⟩
    go_wp2_with fail
    refine (has_on s T R n _ hsp hn).mono ?_
    rintro e w2 ⟨rfl, hb2⟩
    go_wp2
    go_ret
    exact ⟨ret_bool H.out.symm, (hb.alloc hb.size _).trans (hb2.mono (by have := hb.size; simp; omega))⟩

set_option maxHeartbeats 400000 in
theorem specSetHas (s : ByteArray) (n : Int) (w : World) (hs : s.size ≤ 1048576) (hn : n ≤ 9223372036854775807) :
    Calls Try.prog 21 #[.string s, .int .i64 n] w fun e w' => e = .returned (.bool (setHas s n)) ∧ Below w.heap.size w w' := by
  cases h : okS s
  · have H : Hid (setHas s n = false) := Lib.hid (by unfold setHas; rw [h]; rfl)
    go_enter Try.func21, Try.ntmps21
    go_wp2_with fail
    refine (read_off s _ hs h).mono ?_
    rintro e w1 ⟨a1, n1, c1, a2, n2, c2, rfl, hb⟩
    go_wp2
    go_ret
    exact ⟨ret_bool H.out.symm, (hb.alloc hb.size _)⟩
  · by_cases h0 : n < 0
    · have H : Hid (setHas s n = false) := Lib.hid (by unfold setHas; rw [h, hasI_neg _ _ _ h0]; rfl)
      go_enter Try.func21, Try.ntmps21
      go_wp2_with fail
      refine (read_on s _ hs h).mono ?_
      rintro e w1 ⟨a1, n1, c1, a2, n2, c2, rfl, hb, _⟩
      go_wp2
      go_ret
      exact ⟨ret_bool H.out.symm, (hb.alloc hb.size _)⟩
    · obtain ⟨k, rfl⟩ := Int.eq_ofNat_of_zero_le (show 0 ≤ n by omega)
      have H : Hid (setHas s k = hasI (setT s) (setR s) k) := Lib.hid (by unfold setHas; rw [h]; rfl)
      go_enter Try.func21, Try.ntmps21
      go_wp2_with fail
      refine (read_on s _ hs h).mono ?_
      rintro e w1 ⟨a1, n1, c1, a2, n2, c2, rfl, hb, hr⟩
      go_wp2_with fail
      refine (l1Has_on s a1 a2 n1 c1 n2 c2 k _ (hr.alloc _) (by omega)).mono ?_
      rintro e w2 ⟨rfl, hb2⟩
      go_wp2
      go_ret
      exact ⟨ret_bool H.out.symm, (hb.alloc hb.size _).trans (hb2.mono (by have := hb.size; simp; omega))⟩

end Go.Proofs.Ytndpkmgjmpfgdaa
