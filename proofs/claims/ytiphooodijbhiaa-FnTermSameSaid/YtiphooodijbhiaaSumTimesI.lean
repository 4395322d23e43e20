/-
  The walk of SumTimes, of the program.
-/
import Derived.Test.YtiphooodijbhiaaSumOfAny
import Derived.Test.YtiphooodijbhiaaTimesMath
set_option linter.unusedVariables false
set_option linter.unusedSimpArgs false
namespace Go.Proofs.Ytiphooodijbhiaa
open Go.RowKit

set_option maxHeartbeats 400000 in
theorem implTimes_off (s : ByteArray) (k m : Int) (w : World) (hs : s.size ≤ 1048576) (hL : LibAt m w) (h : (smallS s && inR k 0 6) = false) :
    Calls Try.prog 191 #[.string s, .int .i64 k] w fun e w' => TimesEnd s k e ∧ Below w.heap.size w w' := by
  have HE := Lib.hid h
  have hor : smallS s = false ∨ (smallS s = true ∧ inR k 0 6 = false) := by
    cases h1 : smallS s
    · exact .inl rfl
    · rw [h1, Bool.true_and] at h; exact .inr ⟨rfl, h⟩
  clear h
  go_enter Try.func191, Try.ntmps191
  go_wp2_with fail
  refine (smallSet_any s m _ hs hL).mono ?_
  rintro e w1 ⟨⟨T, R, rfl, hsp⟩, hb⟩
  have HB1 := Lib.hid (hb.alloc hb.size (.cells #[.string T, .string R] 84))
  clear hsp hb
  rcases hor with h1 | ⟨h1, h2⟩
  · rw [h1]
    go_wp2
    go_ret2
    exact ⟨times_off HE.out, HB1.out⟩
  · rw [h1]
    have HI := Lib.hid h2
    clear h2
    go_wp2_with fail
    refine (between_out k 0 6 _ HI.out).mono ?_
    rintro e w2 ⟨rfl, rfl⟩
    go_wp2
    go_ret2
    exact ⟨times_off HE.out, HB1.out⟩

set_option maxHeartbeats 1000000 in
theorem implTimes_on (s : ByteArray) (k : Nat) (m : Int) (w : World) (hs : s.size ≤ 1048576) (hL : LibAt m w) (h1 : smallS s = true) (hk : k ≤ 6) :
    Calls Try.prog 191 #[.string s, .int .i64 k] w fun e w' => TimesEnd s k e ∧ Below w.heap.size w w' := by
  have hki : inR (k : Int) 0 6 = true := by unfold inR; rw [decide_eq_true (by omega), decide_eq_true (by omega)]; rfl
  have HI := Lib.hid hki
  have HE : Hid ((smallS s && inR (k : Int) 0 6) = true) := Lib.hid (by rw [h1, hki]; rfl)
  have HL := Lib.hid hL
  clear hki hL
  go_enter Try.func191, Try.ntmps191
  go_wp2_with fail
  refine (smallSet_any s m _ hs HL.out).mono ?_
  rintro e w1 ⟨⟨T, R, rfl, hsp⟩, hb⟩
  have HB1 := Lib.hid (hb.alloc hb.size (.cells #[.string T, .string R] 84))
  clear hsp hb
  rw [h1]
  go_wp2_with fail
  refine (between_in k 0 6 _ HI.out).mono ?_
  rintro e w2 ⟨rfl, rfl⟩
  go_wp2
  go_loopw [8, 22] (fun v i wr => ∃ j : Nat, ∃ U, j ≤ k ∧ i = .int .i64 j ∧ v = .string U ∧ ChainIs s j U ∧ Below w.heap.size w wr) (fun _ i _ => k - (intOf i).toNat)
  case atStart => exact ⟨0, _, Nat.zero_le _, rfl, rfl, rfl, HB1.out⟩
  case round =>
    obtain ⟨j, U, hj, rfl, rfl, hc, hb⟩ := hrel
    have HC := Lib.hid hc
    have HB := Lib.hid hb
    clear hc hb
    by_cases hlt : j < k
    · go_wp2_with fail
      refine (implSum U s m _ (chain_size HC.out) hs (HL.out.below HB.out)).mono ?_
      rintro e w3 ⟨⟨V, b, rfl, hm⟩, hb3⟩
      have HM := Lib.hid hm
      have HB3 := Lib.hid (HB.out.trans (hb3.mono HB.out.size))
      clear hm hb3
      cases b
      · go_wp2
        go_ret2
        exact ⟨times_fails HE.out hlt HC.out HM.out, HB3.out⟩
      · go_wp2
        go_roundw
        case rel => exact ⟨j + 1, V, by omega, by go_num, rfl, ⟨U, HC.out, HM.out⟩, HB3.out⟩
        case measure => simp [intOf]; omega
    · obtain rfl : j = k := by omega
      go_wp2
      go_ret2
      exact ⟨times_done HE.out HC.out, HB.out⟩

theorem implTimes (s : ByteArray) (k m : Int) (w : World) (hs : s.size ≤ 1048576) (hL : LibAt m w) :
    Calls Try.prog 191 #[.string s, .int .i64 k] w fun e w' => TimesEnd s k e ∧ Below w.heap.size w w' := by
  cases h : (smallS s && inR k 0 6)
  · exact implTimes_off s k m w hs hL h
  · rw [Bool.and_eq_true] at h
    rcases inR_cases k 0 6 with ⟨_, k1, k2⟩ | ⟨h3, _⟩
    · obtain ⟨k, rfl⟩ := Int.eq_ofNat_of_zero_le (show 0 ≤ k by omega)
      exact implTimes_on s k m w hs hL h.1 (by omega)
    · rw [h.2] at h3; cases h3

end Go.Proofs.Ytiphooodijbhiaa
