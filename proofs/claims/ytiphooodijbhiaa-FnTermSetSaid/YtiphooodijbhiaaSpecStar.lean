/-
  What the model's StarOf, StarPlus and StarHas answer.
-/
import Derived.Test.YtiphooodijbhiaaLeastS
import Derived.Test.YtiphooodijbhiaaStarS
import Derived.Test.YtiphooodijbhiaaMarks
import Derived.Test.YtiphooodijbhiaaInS
set_option linter.unusedVariables false
set_option linter.unusedSimpArgs false
namespace Go.Proofs.Ytiphooodijbhiaa
open Go.RowKit

theorem made_zeroOnly {f : Nat → Bool} (h : f = zeroOnly) : Made f ⟨#[49, 40, 48, 41]⟩ true := by rw [h]; exact .inl ⟨rfl, tidyText_zeroOnly⟩

set_option maxRecDepth 100000 in
set_option maxHeartbeats 400000 in
theorem l4Whole_any (f : Nat → Bool) (a1 : Option Addr) (n1 c1 : Nat) (a2 : Option Addr) (n2 c2 : Nat) (w : World) (hA : SmallIn w f a1 n1 a2 n2) :
    Calls Try.prog 135 #[.agg #[.slice a1 n1 c1, .slice a2 n2 c2]] w fun e w' => MadeEnd (starB f) e ∧ Below w.heap.size w w' := by
  have HA := Lib.hid (hA.alloc (.cells #[.slice a1 n1 c1, .slice a2 n2 c2] 75))
  have HB0 := Lib.hid ((Below.refl w.heap.size w).alloc (Nat.le_refl _) (.cells #[.slice a1 n1 c1, .slice a2 n2 c2] 75))
  have HS := Lib.hid hA.small
  clear hA
  go_enter Try.func135, Try.ntmps135
  go_wp2_with fail
  refine (l4Least_any f a1 n1 c1 a2 n2 c2 _ HA.out).mono ?_
  rintro e w1 ⟨k, rfl, hb, hk⟩
  have HB1 := Lib.hid (HB0.out.trans (hb.mono HB0.out.size))
  rcases hk with ⟨rfl, hno⟩ | hk
  · have HM := Lib.hid (made_zeroOnly (star_none hno))
    clear hno hb
    go_wp2
    go_ret2
    exact ⟨⟨_, _, rfl, HM.out⟩, HB1.out⟩
  · have h15 := hk.small HS.out
    have h0 := hk.pos
    have HP := Lib.hid (fun n (hn : 2400 ≤ n) => hk.star HS.out n (by omega))
    obtain ⟨q0, q1⟩ := box_later hb
    have HA1 := Lib.hid (HA.out.below hb (Nat.le_refl _))
    have hki : ¬ (k : Int) = 0 := by omega
    obtain ⟨N, hN⟩ : ∃ N, 2400 + k = N := ⟨_, rfl⟩
    have hNi : (2400 : Int) + (k : Int) = (N : Int) := by omega
    have HN := Lib.hid hN
    have hN5 : N ≤ 5000 := by omega
    clear hk hb hN
    go_wp2_with fail
    refine (l4Star_any f a1 n1 c1 a2 n2 c2 N _ HA1.out hN5).mono ?_
    rintro e w2 ⟨G, rfl, hG, hrow, hb2⟩
    have HB2 := Lib.hid (HB1.out.trans (hb2.mono HB1.out.size))
    have hown := hrow.own (B := 0) (Nat.zero_le _) (by omega)
    rw [← HN.out] at hown
    have hcall := fill_any (starB f) 2400 k (2400 + k) 0 _ w2 hown h0 (by omega) (by omega) HP.out
    rw [HN.out] at hcall
    clear hrow hb2 hown
    go_wp2_with fail
    refine hcall.mono ?_
    rintro e w3 ⟨⟨U, b, rfl, hm⟩, hb3⟩
    have HM := Lib.hid hm
    have HB3 := Lib.hid (HB2.out.trans (hb3.mono HB2.out.size))
    clear hm hb3 hcall
    go_wp2
    go_ret2
    exact ⟨⟨U, b, rfl, HM.out⟩, HB3.out⟩

set_option maxHeartbeats 400000 in
theorem specStar (s : ByteArray) (w : World) (hs : s.size ≤ 1048576) :
    Calls Try.prog 116 #[.string s] w fun e w' => MakeEnd (smallS s) (starB (fS s)) e ∧ Below w.heap.size w w' := by
  go_enter Try.func116, Try.ntmps116
  go_wp2_with fail
  refine (l4Small_any s _ hs).mono ?_
  rintro e w1 ⟨a1, n1, c1, a2, n2, c2, rfl, hb, hA⟩
  have HB1 := Lib.hid (hb.alloc hb.size (.cells #[.slice a1 n1 c1, .slice a2 n2 c2] 75))
  have HA := Lib.hid hA
  clear hb hA
  cases h1 : smallS s
  · have HOK := Lib.hid h1
    clear h1
    go_wp2
    go_ret2
    exact ⟨makeEnd_off HOK.out, HB1.out⟩
  · have HOK := Lib.hid h1
    have HA2 := Lib.hid ((HA.out h1).alloc (.cells #[.slice a1 n1 c1, .slice a2 n2 c2] 75))
    clear h1
    go_wp2_with fail
    refine (l4Whole_any (fS s) a1 n1 c1 a2 n2 c2 _ HA2.out).mono ?_
    rintro e w3 ⟨⟨U, b, rfl, hm⟩, hb3⟩
    have HM := Lib.hid hm
    have HB4 := Lib.hid (HB1.out.trans (hb3.mono HB1.out.size))
    clear hm hb3
    go_wp2
    go_ret2
    rw [HOK.out]
    exact ⟨makeEnd_on HM.out, HB4.out⟩

end Go.Proofs.Ytiphooodijbhiaa
