/-
  The walk of StarHas, of the program.
-/
import Derived.Test.YtojjfkabepkhdaaStarOfI
import Derived.Test.YtojjfkabepkhdaaHasVal
set_option linter.unusedVariables false
set_option linter.unusedSimpArgs false
namespace Go.Proofs.Ytojjfkabepkhdaa
open Go.RowKit

theorem starRow_has (f : Nat → Bool) (n : Nat) (h : n < 2001) : starRow f 2001 (2001 + n) = starB f n := by
  unfold starRow behind
  rw [decide_eq_true (by omega), Bool.true_and, show 2001 + n - 2001 = n from by omega, starB_less h]

set_option maxHeartbeats 400000 in
theorem implHas_off (s : ByteArray) (n m : Int) (w : World) (hs : s.size ≤ 1048576) (hL : LibAt m w) (h : (smallS s && inR n 0 2000) = false) :
    Calls Try.prog 22 #[.string s, .int .i64 n] w fun e w' => e = .returned (.bool false) ∧ Below w.heap.size w w' := by
  have hor : smallS s = false ∨ (smallS s = true ∧ inR n 0 2000 = false) := by
    cases h1 : smallS s
    · exact .inl rfl
    · rw [h1, Bool.true_and] at h; exact .inr ⟨rfl, h⟩
  clear h
  go_enter Try.func22, Try.ntmps22
  go_wp2_with fail
  refine (smallSet_any s m _ hs hL).mono ?_
  rintro e w1 ⟨⟨T, R, rfl, hsp⟩, hb⟩
  have HB1 := Lib.hid (hb.alloc hb.size (.cells #[.string T, .string R] 41))
  clear hsp hb
  rcases hor with h1 | ⟨h1, h2⟩
  · rw [h1]
    go_wp2
    go_ret
    exact ⟨rfl, HB1.out⟩
  · rw [h1]
    have HI := Lib.hid h2
    clear h2
    go_wp2_with fail
    refine (between_out n 0 2000 _ HI.out).mono ?_
    rintro e w2 ⟨rfl, rfl⟩
    go_wp2
    go_ret
    exact ⟨rfl, HB1.out⟩

set_option maxHeartbeats 400000 in
theorem implHas_on (s : ByteArray) (n : Nat) (m : Int) (w : World) (hs : s.size ≤ 1048576) (hL : LibAt m w) (h1 : smallS s = true) (hn : n ≤ 2000) :
    Calls Try.prog 22 #[.string s, .int .i64 n] w fun e w' => e = .returned (.bool (starB (fS s) n)) ∧ Below w.heap.size w w' := by
  have hki : inR (n : Int) 0 2000 = true := by unfold inR; rw [decide_eq_true (by omega), decide_eq_true (by omega)]; rfl
  have HI := Lib.hid hki
  clear hki
  go_enter Try.func22, Try.ntmps22
  go_wp2_with fail
  refine (smallSet_any s m _ hs hL).mono ?_
  rintro e w1 ⟨⟨T, R, rfl, hsp⟩, hb⟩
  have HB1 := Lib.hid (hb.alloc hb.size (.cells #[.string T, .string R] 41))
  have HSP := Lib.hid (hsp h1)
  clear hsp hb
  rw [h1]
  go_wp2_with fail
  refine (between_in n 0 2000 _ HI.out).mono ?_
  rintro e w2 ⟨rfl, rfl⟩
  go_wp2_with fail
  refine (starOf_any (fS s) T R _ HSP.out.parts).mono ?_
  rintro e w3 ⟨G, a, c, rfl, hrow, hown, hG, hb3⟩
  have c1 := hrow.cell (i := 2001 + n) (by omega)
  rw [starRow_has (fS s) n (by omega)] at c1
  have HB3 := Lib.hid (HB1.out.trans (hb3.mono HB1.out.size))
  clear hrow hown hG hb3
  go_wp2
  go_ret
  exact ⟨rfl, HB3.out⟩

theorem implHas (s : ByteArray) (n m : Int) (w : World) (hs : s.size ≤ 1048576) (hL : LibAt m w) :
    Calls Try.prog 22 #[.string s, .int .i64 n] w fun e w' => e = .returned (.bool (starHasV s n)) ∧ Below w.heap.size w w' := by
  cases h : (smallS s && inR n 0 2000)
  · rw [starHas_off h]; exact implHas_off s n m w hs hL h
  · have h' := h
    rw [Bool.and_eq_true] at h
    rcases inR_cases n 0 2000 with ⟨_, k1, k2⟩ | ⟨h3, _⟩
    · obtain ⟨n, rfl⟩ := Int.eq_ofNat_of_zero_le (show 0 ≤ n by omega)
      have := implHas_on s n m w hs hL h.1 (by omega)
      unfold starHasV
      rw [h', Bool.true_and]; exact this
    · rw [h.2] at h3; cases h3

end Go.Proofs.Ytojjfkabepkhdaa
