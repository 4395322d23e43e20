/-
  The walk of the model's l4Least: the least number greater than 0 of a small set.
-/
import Derived.Test.YtiphooodijbhiaaStarS
import Derived.Test.YtiphooodijbhiaaMarks
import Derived.Test.YtiphooodijbhiaaInS
set_option linter.unusedVariables false
set_option linter.unusedSimpArgs false
namespace Go.Proofs.Ytiphooodijbhiaa
open Go.RowKit

/-- A block of truths that is known whole is a row of the call's own. -/
theorem BRow.own {w : World} {g N B : Nat} {c : Nat → Bool} (h : BRow w g N c) (hB : B ≤ g) (hN : N ≤ 1000000) : w.ownsRow B 4 1 (.slice (some ⟨g, 0, none⟩) N N) N ((part c 0 N).map Value.bool) := by
  obtain ⟨cur, h1, h2, h3⟩ := h
  refine ⟨by rw [List.length_map, part_length, Nat.mul_one], .inr ⟨g, N, cur, rfl, hB, h1, Nat.le_refl _, by unfold maxLen; omega, by omega, ?_⟩⟩
  apply List.ext_getElem?
  intro i
  rcases Nat.lt_or_ge i N with k | k
  · rw [List.getElem?_take_of_lt (by omega), Array.getElem?_toList, h3 i k, List.getElem?_map]
    unfold part
    rw [List.getElem?_map, List.getElem?_range k]
    show _ = some (Value.bool (c (0 + i)))
    rw [Nat.zero_add]
  · rw [List.getElem?_eq_none (by rw [List.length_take, Array.length_toList]; omega), List.getElem?_eq_none (by rw [List.length_map, part_length]; exact k)]

/-- The least number of a set that is greater than 0, or 0 if there is none. -/
def LeastV (f : Nat → Bool) (k : Nat) : Prop := (k = 0 ∧ ∀ x, 0 < x → f x = false) ∨ LeastIs f k

set_option maxHeartbeats 400000 in
theorem l4Least_any (f : Nat → Bool) (a1 : Option Addr) (n1 c1 : Nat) (a2 : Option Addr) (n2 c2 : Nat) (w : World) (hA : SmallIn w f a1 n1 a2 n2) :
    Calls Try.prog 145 #[.agg #[.slice a1 n1 c1, .slice a2 n2 c2]] w fun e w' => ∃ k : Nat, e = .returned (.int .i64 k) ∧ Below w.heap.size w w' ∧ LeastV f k := by
  have HA := Lib.hid (hA.alloc (.cells #[.slice a1 n1 c1, .slice a2 n2 c2] 75))
  have HB0 := Lib.hid ((Below.refl w.heap.size w).alloc (Nat.le_refl _) (.cells #[.slice a1 n1 c1, .slice a2 n2 c2] 75))
  have HS := Lib.hid hA.small
  clear hA
  go_enter Try.func145, Try.ntmps145
  go_wp2
  go_loopw [3] (fun i wr => ∃ n : Nat, 1 ≤ n ∧ n ≤ 21 ∧ i = .int .i64 n ∧ (∀ x, 0 < x → x < n → f x = false) ∧ Below (w.alloc (.cells #[.slice a1 n1 c1, .slice a2 n2 c2] 75)).heap.size (w.alloc (.cells #[.slice a1 n1 c1, .slice a2 n2 c2] 75)) wr) (fun i _ => 21 - (intOf i).toNat)
  case atStart => exact ⟨1, by decide, by decide, rfl, fun x h1 h2 => by omega, Below.refl _ _⟩
  case round =>
    obtain ⟨n, h1, h2, rfl, hall, hb⟩ := hrel
    obtain ⟨q0, q1⟩ := box_later hb
    have HAll := Lib.hid hall
    have HB := Lib.hid hb
    clear hall hb
    by_cases hlt : n ≤ 20
    · have hcall := small_has (c1 := c1) (c2 := c2) n (HA.out.below HB.out (Nat.le_refl _)) (by omega)
      cases hf : f n
      · rw [hf] at hcall
        have HF := Lib.hid hf
        clear hf
        go_wp2_with fail
        refine hcall.mono ?_
        rintro e w3 ⟨rfl, hb3⟩
        have HB3 := Lib.hid (HB.out.trans (hb3.mono HB.out.size))
        clear hb3 hcall
        go_wp2
        go_roundw
        case rel => exact ⟨n + 1, by omega, by omega, by go_num, fun x k1 k2 => by
          by_cases e : x = n
          · rw [e]; exact HF.out
          · exact HAll.out x k1 (by omega), HB3.out⟩
        case measure => simp [intOf]; omega
      · rw [hf] at hcall
        have HF := Lib.hid hf
        clear hf
        go_wp2_with fail
        refine hcall.mono ?_
        rintro e w3 ⟨rfl, hb3⟩
        have HB3 := Lib.hid (HB0.out.trans ((HB.out.trans (hb3.mono HB.out.size)).mono HB0.out.size))
        clear hb3 hcall
        go_wp2
        go_ret
        exact ⟨n, rfl, HB3.out, .inr ⟨by omega, HF.out, fun x k1 k2 => by
          rcases Nat.lt_or_ge x n with e | e
          · rw [HAll.out x k1 e] at k2; cases k2
          · exact e⟩⟩
    · obtain rfl : n = 21 := by omega
      have HB3 := Lib.hid (HB0.out.trans (HB.out.mono HB0.out.size))
      go_wp2
      go_ret
      refine ⟨0, rfl, HB3.out, .inl ⟨rfl, ?_⟩⟩
      rcases least_or f with ⟨k, hk⟩ | hno
      · have := hk.small HS.out
        have h3 := HAll.out k hk.pos (by omega)
        rw [hk.is] at h3; cases h3
      · exact hno

end Go.Proofs.Ytiphooodijbhiaa
