/-
  What the model's StarOf, StarPlus and StarHas answer.
-/
import Derived.Test.YtcacdgojibojgadStarS
import Derived.Test.YtcacdgojibojgadMarks
import Derived.Test.YtcacdgojibojgadInS
set_option linter.unusedVariables false
set_option linter.unusedSimpArgs false
namespace Go.Proofs.Ytcacdgojibojgad
open Go.RowKit

/-- A block of truths that is known whole is a row of the call's own. -/
theorem BRow.own {w : World} {g N B : Nat} {c : Nat → Bool} (h : BRow w g N c) (hB : B ≤ g) (hN : N ≤ 1000000) : w.ownsRow B 4 1 (.slice (some ⟨g, 0, none⟩) N N) N ((part c 0 N).map Value.bool) := by
  obtain ⟨cur, h1, h2, h3⟩ := h
  refine ⟨by rw [List.length_map, part_length, Nat.mul_one], .inr ⟨g, N, cur, rfl, hB, h1, Nat.le_refl _, by unfold maxLen; omega, by omega, ?_⟩⟩
  apply List.ext_getElem?
  intro i
  rcases Nat.lt_or_ge i N with k | k
  · rw [List.getElem?_take_of_lt (by omega), Array.getElem?_toList, h3 i k, List.getElem?_map]
    unfold part
    rw [List.getElem?_map, List.getElem?_range k]
    show _ = some (Value.bool (c (0 + i)))
    rw [Nat.zero_add]
  · rw [List.getElem?_eq_none (by rw [List.length_take, Array.length_toList]; omega), List.getElem?_eq_none (by rw [List.length_map, part_length]; exact k)]

/-- The least number of a set that is greater than 0, or 0 if there is none. -/
def LeastV (f : Nat → Bool) (k : Nat) : Prop := (k = 0 ∧ ∀ x, 0 < x → f x = false) ∨ LeastIs f k

set_option maxHeartbeats 400000 in
theorem l4Least_any (f : Nat → Bool) (a1 : Option Addr) (n1 c1 : Nat) (a2 : Option Addr) (n2 c2 : Nat) (w : World) (hA : SmallIn w f a1 n1 a2 n2) :
    Calls Try.prog 56 #[.agg #[.slice a1 n1 c1, .slice a2 n2 c2]] w fun e w' => ∃ k : Nat, e = .returned (.int .i64 k) ∧ Below w.heap.size w w' ∧ LeastV f k := by
  have HA := Lib.hid (hA.alloc (.cells #[.slice a1 n1 c1, .slice a2 n2 c2] 56))
  have HB0 := Lib.hid ((Below.refl w.heap.size w).alloc (Nat.le_refl _) (.cells #[.slice a1 n1 c1, .slice a2 n2 c2] 56))
  have HS := Lib.hid hA.small
  clear hA
  go_enter Try.func56, Try.ntmps56
  go_wp2
  go_loopw [3] (fun i wr => ∃ n : Nat, 1 ≤ n ∧ n ≤ 21 ∧ i = .int .i64 n ∧ (∀ x, 0 < x → x < n → f x = false) ∧ Below (w.alloc (.cells #[.slice a1 n1 c1, .slice a2 n2 c2] 56)).heap.size (w.alloc (.cells #[.slice a1 n1 c1, .slice a2 n2 c2] 56)) wr) (fun i _ => 21 - (intOf i).toNat)
  case atStart => exact ⟨1, by decide, by decide, rfl, fun x h1 h2 => by omega, Below.refl _ _⟩
  case round =>
    obtain ⟨n, h1, h2, rfl, hall, hb⟩ := hrel
    obtain ⟨q0, q1⟩ := box_later hb
    have HAll := Lib.hid hall
    have HB := Lib.hid hb
    clear hall hb
    by_cases hlt : n ≤ 20
    · have hcall := small_has (c1 := c1) (c2 := c2) n (HA.out.below HB.out (Nat.le_refl _)) (by omega)
      cases hf : f n
      · rw [hf] at hcall
        have HF := Lib.hid hf
        clear hf
        go_wp2_with fail
        refine hcall.mono ?_
        rintro e w3 ⟨rfl, hb3⟩
        have HB3 := Lib.hid (HB.out.trans (hb3.mono HB.out.size))
        clear hb3 hcall
        go_wp2
        go_roundw
        case rel => exact ⟨n + 1, by omega, by omega, by go_num, fun x k1 k2 => by
          by_cases e : x = n
          · rw [e]; exact HF.out
          · exact HAll.out x k1 (by omega), HB3.out⟩
        case measure => simp [intOf]; omega
      · rw [hf] at hcall
        have HF := Lib.hid hf
        clear hf
        go_wp2_with fail
        refine hcall.mono ?_
        rintro e w3 ⟨rfl, hb3⟩
        have HB3 := Lib.hid (HB0.out.trans ((HB.out.trans (hb3.mono HB.out.size)).mono HB0.out.size))
        clear hb3 hcall
        go_wp2
        go_ret
        exact ⟨n, rfl, HB3.out, .inr ⟨by omega, HF.out, fun x k1 k2 => by
          rcases Nat.lt_or_ge x n with e | e
          · rw [HAll.out x k1 e] at k2; cases k2
          · exact e⟩⟩
    · obtain rfl : n = 21 := by omega
      have HB3 := Lib.hid (HB0.out.trans (HB.out.mono HB0.out.size))
      go_wp2
      go_ret
      refine ⟨0, rfl, HB3.out, .inl ⟨rfl, ?_⟩⟩
      rcases least_or f with ⟨k, hk⟩ | hno
      · have := hk.small HS.out
        have h3 := HAll.out k hk.pos (by omega)
        rw [hk.is] at h3; cases h3
      · exact hno

theorem made_zeroOnly {f : Nat → Bool} (h : f = zeroOnly) : Made f ⟨#[49, 40, 48, 41]⟩ true := by rw [h]; exact .inl ⟨rfl, tidyText_zeroOnly⟩

set_option maxRecDepth 100000 in
set_option maxHeartbeats 400000 in
theorem l4Whole_any (f : Nat → Bool) (a1 : Option Addr) (n1 c1 : Nat) (a2 : Option Addr) (n2 c2 : Nat) (w : World) (hA : SmallIn w f a1 n1 a2 n2) :
    Calls Try.prog 55 #[.agg #[.slice a1 n1 c1, .slice a2 n2 c2]] w fun e w' => MadeEnd (starB f) e ∧ Below w.heap.size w w' := by
  have HA := Lib.hid (hA.alloc (.cells #[.slice a1 n1 c1, .slice a2 n2 c2] 56))
  have HB0 := Lib.hid ((Below.refl w.heap.size w).alloc (Nat.le_refl _) (.cells #[.slice a1 n1 c1, .slice a2 n2 c2] 56))
  have HS := Lib.hid hA.small
  clear hA
  go_enter Try.func55, Try.ntmps55
  go_wp2_with fail
  refine (l4Least_any f a1 n1 c1 a2 n2 c2 _ HA.out).mono ?_
  rintro e w1 ⟨k, rfl, hb, hk⟩
  have HB1 := Lib.hid (HB0.out.trans (hb.mono HB0.out.size))
  rcases hk with ⟨rfl, hno⟩ | hk
  · have HM := Lib.hid (made_zeroOnly (star_none hno))
    clear hno hb
    go_wp2
    go_ret2
    exact ⟨⟨_, _, rfl, HM.out⟩, HB1.out⟩
  · have h15 := hk.small HS.out
    have h0 := hk.pos
    have HP := Lib.hid (fun n (hn : 2400 ≤ n) => hk.star HS.out n (by omega))
    obtain ⟨q0, q1⟩ := box_later hb
    have HA1 := Lib.hid (HA.out.below hb (Nat.le_refl _))
    have hki : ¬ (k : Int) = 0 := by omega
    obtain ⟨N, hN⟩ : ∃ N, 2400 + k = N := ⟨_, rfl⟩
    have hNi : (2400 : Int) + (k : Int) = (N : Int) := by omega
    have HN := Lib.hid hN
    have hN5 : N ≤ 5000 := by omega
    clear hk hb hN
    go_wp2_with fail
    refine (l4Star_any f a1 n1 c1 a2 n2 c2 N _ HA1.out hN5).mono ?_
    rintro e w2 ⟨G, rfl, hG, hrow, hb2⟩
    have HB2 := Lib.hid (HB1.out.trans (hb2.mono HB1.out.size))
    have hown := hrow.own (B := 0) (Nat.zero_le _) (by omega)
    rw [← HN.out] at hown
    have hcall := fill_any (starB f) 2400 k (2400 + k) 0 _ w2 hown h0 (by omega) (by omega) HP.out
    rw [HN.out] at hcall
    clear hrow hb2 hown
    go_wp2_with fail
    refine hcall.mono ?_
    rintro e w3 ⟨⟨U, b, rfl, hm⟩, hb3⟩
    have HM := Lib.hid hm
    have HB3 := Lib.hid (HB2.out.trans (hb3.mono HB2.out.size))
    clear hm hb3 hcall
    go_wp2
    go_ret2
    exact ⟨⟨U, b, rfl, HM.out⟩, HB3.out⟩

set_option maxHeartbeats 400000 in
theorem specStar (s : ByteArray) (w : World) (hs : s.size ≤ 1048576) :
    Calls Try.prog 23 #[.string s] w fun e w' => MakeEnd (smallS s) (starB (fS s)) e ∧ Below w.heap.size w w' := by
  go_enter Try.func23, Try.ntmps23
  go_wp2_with fail
  refine (l4Small_any s _ hs).mono ?_
  rintro e w1 ⟨a1, n1, c1, a2, n2, c2, rfl, hb, hA⟩
  have HB1 := Lib.hid (hb.alloc hb.size (.cells #[.slice a1 n1 c1, .slice a2 n2 c2] 56))
  have HA := Lib.hid hA
  clear hb hA
  cases h1 : smallS s
  · have HOK := Lib.hid h1
    clear h1
    go_wp2
    go_ret2
    exact ⟨makeEnd_off HOK.out, HB1.out⟩
  · have HOK := Lib.hid h1
    have HA2 := Lib.hid ((HA.out h1).alloc (.cells #[.slice a1 n1 c1, .slice a2 n2 c2] 56))
    clear h1
    go_wp2_with fail
    refine (l4Whole_any (fS s) a1 n1 c1 a2 n2 c2 _ HA2.out).mono ?_
    rintro e w3 ⟨⟨U, b, rfl, hm⟩, hb3⟩
    have HM := Lib.hid hm
    have HB4 := Lib.hid (HB1.out.trans (hb3.mono HB1.out.size))
    clear hm hb3
    go_wp2
    go_ret2
    rw [HOK.out]
    exact ⟨makeEnd_on HM.out, HB4.out⟩

end Go.Proofs.Ytcacdgojibojgad
