/-
  What the model's SumOf and SumTimes answer.
-/
import Derived.Test.YtonphojjlilcnaaSumS
import Derived.Test.YtonphojjlilcnaaInS
import Derived.Test.YtonphojjlilcnaaTimesMath
set_option linter.unusedVariables false
set_option linter.unusedSimpArgs false
namespace Go.Proofs.Ytonphojjlilcnaa
open Go.RowKit

set_option maxHeartbeats 400000 in
theorem specSum (s t : ByteArray) (w : World) (hs : s.size ≤ 1048576) (ht : t.size ≤ 1048576) :
    Calls Try.prog 17 #[.string s, .string t] w fun e w' => MakeEnd (smallS s && smallS t) (sumG false (fS s) (fS t)) e ∧ Below w.heap.size w w' := by
  go_enter Try.func17, Try.ntmps17
  go_wp2_with fail
  refine (l4Small_any s _ hs).mono ?_
  rintro e w1 ⟨a1, n1, c1, a2, n2, c2, rfl, hb, hA⟩
  have HB1 := Lib.hid hb
  have HA := Lib.hid hA
  clear hb hA
  go_wp2_with fail
  refine (l4Small_any t _ ht).mono ?_
  rintro e w2 ⟨b1, m1, d1, b2, m2, d2, rfl, hb2, hB⟩
  have HB2 := Lib.hid (below_second HB1.out hb2 (.cells #[.slice b1 m1 d1, .slice b2 m2 d2] 59))
  have HB := Lib.hid hB
  cases h1 : smallS s
  · cases h2 : smallS t
    · clear hb2 hB
      go_wp2
      go_ret2
      exact ⟨makeEnd_off (by rw [h1]; rfl), HB2.out⟩
    · clear hb2 hB
      go_wp2
      go_ret2
      exact ⟨makeEnd_off (by rw [h1]; rfl), HB2.out⟩
  · cases h2 : smallS t
    · clear hb2 hB
      go_wp2
      go_ret2
      exact ⟨makeEnd_off (by rw [h1, h2]; rfl), HB2.out⟩
    · obtain ⟨e1, e2⟩ := boxes_later hb2 ((Below.refl (w2.alloc (.cells #[.slice b1 m1 d1, .slice b2 m2 d2] 59)).heap.size (w2.alloc (.cells #[.slice b1 m1 d1, .slice b2 m2 d2] 59))))
      have HA2 := Lib.hid ((((HA.out h1).alloc (.cells #[.slice a1 n1 c1, .slice a2 n2 c2] 59)).below hb2 (Nat.le_refl _)).alloc (.cells #[.slice b1 m1 d1, .slice b2 m2 d2] 59))
      have HB3 := Lib.hid ((HB.out h2).alloc (.cells #[.slice b1 m1 d1, .slice b2 m2 d2] 59))
      obtain ⟨⟨q0, q1⟩, q2, q3⟩ := And.intro e1 e2
      have HOK : Hid ((smallS s && smallS t) = true) := Lib.hid (by rw [h1, h2]; rfl)
      clear hb2 hB h1 h2
      go_wp2_with fail
      refine (l4Sum_any false (fS s) (fS t) a1 n1 c1 a2 n2 c2 b1 m1 d1 b2 m2 d2 _ HA2.out HB3.out (fun x => by cases x)).mono ?_
      rintro e w3 ⟨⟨U, b, rfl, hm⟩, hb3⟩
      have HM := Lib.hid hm
      have HB4 := Lib.hid (HB2.out.trans (hb3.mono HB2.out.size))
      clear hm hb3
      go_wp2
      go_ret2
      rw [HOK.out]
      exact ⟨makeEnd_on HM.out, HB4.out⟩

set_option maxHeartbeats 400000 in
theorem specTimes_off (s : ByteArray) (k : Int) (w : World) (hs : s.size ≤ 1048576) (h : (smallS s && inR k 0 6) = false) :
    Calls Try.prog 21 #[.string s, .int .i64 k] w fun e w' => TimesEnd s k e ∧ Below w.heap.size w w' := by
  have HE := Lib.hid h
  have hor : smallS s = false ∨ (smallS s = true ∧ (k < 0 ∨ 6 < k)) := by
    cases h1 : smallS s
    · exact .inl rfl
    · rw [h1, Bool.true_and] at h
      rcases inR_cases k 0 6 with ⟨h2, _⟩ | ⟨_, h2⟩
      · rw [h2] at h; cases h
      · exact .inr ⟨rfl, h2⟩
  clear h
  go_enter Try.func21, Try.ntmps21
  go_wp2_with fail
  refine (l4Small_any s _ hs).mono ?_
  rintro e w1 ⟨a1, n1, c1, a2, n2, c2, rfl, hb, hA⟩
  have HB1 := Lib.hid hb
  clear hb hA
  rcases hor with h1 | ⟨h1, h2⟩
  · rw [h1]
    go_wp2
    go_ret2
    exact ⟨times_off HE.out, by first | exact HB1.out | exact HB1.out.alloc HB1.out.size _⟩
  · rw [h1]
    go_wp2_with fail
    refine (l6In_no k 0 6 _ h2 (by decide)).mono ?_
    rintro e w2 ⟨rfl, rfl⟩
    clear h2
    go_wp2
    go_ret2
    exact ⟨times_off HE.out, by first | exact HB1.out | exact HB1.out.alloc HB1.out.size _⟩

set_option maxHeartbeats 1000000 in
theorem specTimes_on (s : ByteArray) (k : Nat) (w : World) (hs : s.size ≤ 1048576) (h1 : smallS s = true) (hk : k ≤ 6) :
    Calls Try.prog 21 #[.string s, .int .i64 k] w fun e w' => TimesEnd s k e ∧ Below w.heap.size w w' := by
  have HE : Hid ((smallS s && inR (k : Int) 0 6) = true) := Lib.hid (by rw [h1]; unfold inR; rw [decide_eq_true (by omega), decide_eq_true (by omega)]; rfl)
  go_enter Try.func21, Try.ntmps21
  go_wp2_with fail
  refine (l4Small_any s _ hs).mono ?_
  rintro e w1 ⟨a1, n1, c1, a2, n2, c2, rfl, hb, hA⟩
  have HB1 := Lib.hid hb
  clear hb hA
  rw [h1]
  go_wp2_with fail
  refine (l6In_yes k 0 6 _ (by omega) (by omega)).mono ?_
  rintro e w2 ⟨rfl, rfl⟩
  go_wp2
  go_loopw [8, 9] (fun v i wr => ∃ j : Nat, ∃ U, j ≤ k ∧ i = .int .i64 j ∧ v = .string U ∧ ChainIs s j U ∧ Below w.heap.size w wr) (fun _ i _ => k - (intOf i).toNat)
  case atStart => exact ⟨0, _, Nat.zero_le _, rfl, rfl, rfl, by first | exact HB1.out | exact HB1.out.alloc HB1.out.size _⟩
  case round =>
    obtain ⟨j, U, hj, rfl, rfl, hc, hb⟩ := hrel
    have HC := Lib.hid hc
    have HB := Lib.hid hb
    clear hc hb
    by_cases hlt : j < k
    · go_wp2_with fail
      refine (specSum U s _ (chain_size HC.out) hs).mono ?_
      rintro e w3 ⟨⟨V, b, rfl, hm⟩, hb3⟩
      have HM := Lib.hid hm
      have HB3 := Lib.hid (HB.out.trans (hb3.mono HB.out.size))
      clear hm hb3
      cases b
      · go_wp2
        go_ret2
        exact ⟨times_fails HE.out hlt HC.out HM.out, HB3.out⟩
      · go_wp2
        go_roundw
        case rel => exact ⟨j + 1, V, by omega, by go_num, rfl, ⟨U, HC.out, HM.out⟩, HB3.out⟩
        case measure => simp [intOf]; omega
    · obtain rfl : j = k := by omega
      go_wp2
      go_ret2
      exact ⟨times_done HE.out HC.out, HB.out⟩

theorem specTimes (s : ByteArray) (k : Int) (w : World) (hs : s.size ≤ 1048576) :
    Calls Try.prog 21 #[.string s, .int .i64 k] w fun e w' => TimesEnd s k e ∧ Below w.heap.size w w' := by
  cases h : (smallS s && inR k 0 6)
  · exact specTimes_off s k w hs h
  · rw [Bool.and_eq_true] at h
    rcases inR_cases k 0 6 with ⟨_, k1, k2⟩ | ⟨h3, _⟩
    · obtain ⟨k, rfl⟩ := Int.eq_ofNat_of_zero_le (show 0 ≤ k by omega)
      exact specTimes_on s k w hs h.1 (by omega)
    · rw [h.2] at h3; cases h3

end Go.Proofs.Ytonphojjlilcnaa
