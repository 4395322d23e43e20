/-
  What the model's SumTimes answers.
-/
import Derived.Test.YtiphooodijbhiaaSpecSumOf
import Derived.Test.YtiphooodijbhiaaInS
import Derived.Test.YtiphooodijbhiaaTimesMath
set_option linter.unusedVariables false
set_option linter.unusedSimpArgs false
namespace Go.Proofs.Ytiphooodijbhiaa
open Go.RowKit

set_option maxHeartbeats 400000 in
theorem specTimes_off (s : ByteArray) (k : Int) (w : World) (hs : s.size ≤ 1048576) (h : (smallS s && inR k 0 6) = false) :
    Calls Try.prog 117 #[.string s, .int .i64 k] w fun e w' => TimesEnd s k e ∧ Below w.heap.size w w' := by
  have HE := Lib.hid h
  have hor : smallS s = false ∨ (smallS s = true ∧ (k < 0 ∨ 6 < k)) := by
    cases h1 : smallS s
    · exact .inl rfl
    · rw [h1, Bool.true_and] at h
      rcases inR_cases k 0 6 with ⟨h2, _⟩ | ⟨_, h2⟩
      · rw [h2] at h; cases h
      · exact .inr ⟨rfl, h2⟩
  clear h
  go_enter Try.func117, Try.ntmps117
  go_wp2_with fail
  refine (l4Small_any s _ hs).mono ?_
  rintro e w1 ⟨a1, n1, c1, a2, n2, c2, rfl, hb, hA⟩
  have HB1 := Lib.hid hb
  clear hb hA
  rcases hor with h1 | ⟨h1, h2⟩
  · rw [h1]
    go_wp2
    go_ret2
    exact ⟨times_off HE.out, by first | exact HB1.out | exact HB1.out.alloc HB1.out.size _⟩
  · rw [h1]
    go_wp2_with fail
    refine (l6In_no k 0 6 _ h2 (by decide)).mono ?_
    rintro e w2 ⟨rfl, rfl⟩
    clear h2
    go_wp2
    go_ret2
    exact ⟨times_off HE.out, by first | exact HB1.out | exact HB1.out.alloc HB1.out.size _⟩

set_option maxHeartbeats 1000000 in
theorem specTimes_on (s : ByteArray) (k : Nat) (w : World) (hs : s.size ≤ 1048576) (h1 : smallS s = true) (hk : k ≤ 6) :
    Calls Try.prog 117 #[.string s, .int .i64 k] w fun e w' => TimesEnd s k e ∧ Below w.heap.size w w' := by
  have HE : Hid ((smallS s && inR (k : Int) 0 6) = true) := Lib.hid (by rw [h1]; unfold inR; rw [decide_eq_true (by omega), decide_eq_true (by omega)]; rfl)
  go_enter Try.func117, Try.ntmps117
  go_wp2_with fail
  refine (l4Small_any s _ hs).mono ?_
  rintro e w1 ⟨a1, n1, c1, a2, n2, c2, rfl, hb, hA⟩
  have HB1 := Lib.hid hb
  clear hb hA
  rw [h1]
  go_wp2_with fail
  refine (l6In_yes k 0 6 _ (by omega) (by omega)).mono ?_
  rintro e w2 ⟨rfl, rfl⟩
  go_wp2
  go_loopw [8, 9] (fun v i wr => ∃ j : Nat, ∃ U, j ≤ k ∧ i = .int .i64 j ∧ v = .string U ∧ ChainIs s j U ∧ Below w.heap.size w wr) (fun _ i _ => k - (intOf i).toNat)
  case atStart => exact ⟨0, _, Nat.zero_le _, rfl, rfl, rfl, by first | exact HB1.out | exact HB1.out.alloc HB1.out.size _⟩
  case round =>
    obtain ⟨j, U, hj, rfl, rfl, hc, hb⟩ := hrel
    have HC := Lib.hid hc
    have HB := Lib.hid hb
    clear hc hb
    by_cases hlt : j < k
    · go_wp2_with fail
      refine (specSum U s _ (chain_size HC.out) hs).mono ?_
      rintro e w3 ⟨⟨V, b, rfl, hm⟩, hb3⟩
      have HM := Lib.hid hm
      have HB3 := Lib.hid (HB.out.trans (hb3.mono HB.out.size))
      clear hm hb3
      cases b
      · go_wp2
        go_ret2
        exact ⟨times_fails HE.out hlt HC.out HM.out, HB3.out⟩
      · go_wp2
        go_roundw
        case rel => exact ⟨j + 1, V, by omega, by go_num, rfl, ⟨U, HC.out, HM.out⟩, HB3.out⟩
        case measure => simp [intOf]; omega
    · obtain rfl : j = k := by omega
      go_wp2
      go_ret2
      exact ⟨times_done HE.out HC.out, HB.out⟩

theorem specTimes (s : ByteArray) (k : Int) (w : World) (hs : s.size ≤ 1048576) :
    Calls Try.prog 117 #[.string s, .int .i64 k] w fun e w' => TimesEnd s k e ∧ Below w.heap.size w w' := by
  cases h : (smallS s && inR k 0 6)
  · exact specTimes_off s k w hs h
  · rw [Bool.and_eq_true] at h
    rcases inR_cases k 0 6 with ⟨_, k1, k2⟩ | ⟨h3, _⟩
    · obtain ⟨k, rfl⟩ := Int.eq_ofNat_of_zero_le (show 0 ≤ k by omega)
      exact specTimes_on s k w hs h.1 (by omega)
    · rw [h.2] at h3; cases h3

end Go.Proofs.Ytiphooodijbhiaa
