/-
  The walks of SolveLeast and SolveMost, of the model.
-/
import Derived.Test.YtiphooodijbhiabEquMath
import Derived.Test.YtiphooodijbhiabSpecStar
import Derived.Test.YtiphooodijbhiabSpecSumOf
set_option linter.unusedVariables false
set_option linter.unusedSimpArgs false
namespace Go.Proofs.Ytiphooodijbhiab
open Go.RowKit

theorem makeIs_size {ok : Bool} {f : Nat → Bool} {T : ByteArray} {b : Bool} (h : MakeIs ok f T b) : T.size ≤ 1048576 := by
  cases b
  · have : T = ⟨#[]⟩ := by
      cases ok
      · exact (h.2 rfl).1
      · rcases h.1 rfl with ⟨e, _⟩ | ⟨_, e, _⟩
        · cases e
        · exact e
    rw [this]; decide
  · have := set_size (makeIs_told h).2.told.ok
    have h1 := setT_le (makeIs_told h).2.told.ok
    have h2 := setR_le (makeIs_told h).2.told.ok
    omega

set_option maxHeartbeats 1000000 in
theorem specLeast (s t : ByteArray) (w : World) (hs : s.size ≤ 1048576) (ht : t.size ≤ 1048576) :
    Calls Try.prog 23 #[.string s, .string t] w fun e w' => MakeEnd (leastOk s t) (lowF (fS s) (fS t)) e ∧ Below w.heap.size w w' := by
  go_enter Try.func23, Try.ntmps23
  go_wp2_with fail
  refine (l4Small_any s _ hs).mono ?_
  rintro e w1 ⟨a1, n1, c1, a2, n2, c2, rfl, hb1, _⟩
  go_wp2_with fail
  refine (l4Small_any t _ ht).mono ?_
  rintro e w2 ⟨b1, m1, d1, b2, m2, d2, rfl, hb2, _⟩
  have hb3 := below_step (hb1.alloc hb1.size (.cells #[.slice a1 n1 c1, .slice a2 n2 c2] 77)) hb2
  have HB2 := Lib.hid (hb3.alloc hb3.size (.cells #[.slice b1 m1 d1, .slice b2 m2 d2] 77))
  clear hb1 hb2 hb3
  cases hp : smallS s
  · have HO : Hid (leastOk s t = false) := Lib.hid (by unfold leastOk; rw [hp]; rfl)
    clear hp
    cases hq : smallS t
    all_goals
      clear hq
      go_wp2
      go_ret2
      exact ⟨makeEnd_off HO.out, HB2.out⟩
  · cases hq : smallS t
    · have HO : Hid (leastOk s t = false) := Lib.hid (by unfold leastOk; rw [hq, Bool.and_false])
      clear hp hq
      go_wp2
      go_ret2
      exact ⟨makeEnd_off HO.out, HB2.out⟩
    · clear hp hq
      go_wp2_with fail
      refine (specStar s _ hs).mono ?_
      rintro e w3 ⟨⟨T, b, rfl, hm⟩, hb3⟩
      have HM := Lib.hid hm
      have HB3 := Lib.hid (below_step HB2.out hb3)
      have hsz := makeIs_size hm
      clear hm hb3
      cases b
      · have HO := Lib.hid (least_off (t := t) HM.out rfl)
        go_wp2
        go_ret2
        exact ⟨makeEnd_off HO.out, HB3.out⟩
      · go_wp2_with fail
        refine (specSum T t _ hsz ht).mono ?_
        rintro e w4 ⟨⟨U, c, rfl, hm4⟩, hb4⟩
        have HM4 := Lib.hid (least_is HM.out hm4)
        have HB4 := Lib.hid (below_step HB3.out hb4)
        clear hm4 hb4
        go_wp2
        go_ret2
        exact ⟨⟨U, c, rfl, HM4.out⟩, HB4.out⟩

set_option maxHeartbeats 1000000 in
theorem specMost (s t : ByteArray) (w : World) (hs : s.size ≤ 1048576) (ht : t.size ≤ 1048576) :
    Calls Try.prog 35 #[.string s, .string t] w fun e w' => MakeEnd (mostOk s t) (mostF (fS s) (fS t)) e ∧ Below w.heap.size w w' := by
  go_enter Try.func35, Try.ntmps35
  go_wp2_with fail
  refine (l4Small_any s _ hs).mono ?_
  rintro e w1 ⟨a1, n1, c1, a2, n2, c2, rfl, hb1, hA⟩
  have hA2 := fun h => (hA h).alloc (.cells #[.slice a1 n1 c1, .slice a2 n2 c2] 77)
  go_wp2_with fail
  refine (l4Small_any t _ ht).mono ?_
  rintro e w2 ⟨b1, m1, d1, b2, m2, d2, rfl, hb2, _⟩
  have hb3 := below_step (hb1.alloc hb1.size (.cells #[.slice a1 n1 c1, .slice a2 n2 c2] 77)) hb2
  have HB2 := Lib.hid (hb3.alloc hb3.size (.cells #[.slice b1 m1 d1, .slice b2 m2 d2] 77))
  have hA3 := fun h => ((hA2 h).below hb2 (Nat.le_refl _)).alloc (.cells #[.slice b1 m1 d1, .slice b2 m2 d2] 77)
  obtain ⟨q0, q1⟩ := box_later (hb2.alloc hb2.size (.cells #[.slice b1 m1 d1, .slice b2 m2 d2] 77))
  clear hb1 hb2 hb3 hA hA2
  cases hp : smallS s
  · have HO : Hid (mostOk s t = false) := Lib.hid (by unfold mostOk; rw [hp]; rfl)
    clear hp hA3
    cases hq : smallS t
    all_goals
      clear hq
      go_wp2
      go_ret2
      exact ⟨makeEnd_off HO.out, HB2.out⟩
  · have HA := Lib.hid (hA3 hp)
    cases hq : smallS t
    · have HO : Hid (mostOk s t = false) := Lib.hid (by unfold mostOk; rw [hp, hq]; rfl)
      clear hp hq hA3
      go_wp2
      go_ret2
      exact ⟨makeEnd_off HO.out, HB2.out⟩
    · have HP := Lib.hid hp
      have HQ := Lib.hid hq
      clear hp hq hA3
      have hcall := small_has (c1 := c1) (c2 := c2) 0 HA.out (by omega)
      cases h0 : fS s 0
      · rw [h0] at hcall
        have HZ := Lib.hid h0
        clear h0
        go_wp2_with fail
        refine hcall.mono ?_
        rintro e w3 ⟨rfl, hb3⟩
        have HB3 := Lib.hid (below_step HB2.out hb3)
        clear hb3 hcall
        go_wp2_with fail
        refine (specLeast s t _ hs ht).mono ?_
        rintro e w4 ⟨⟨U, c, rfl, hm4⟩, hb4⟩
        have HM4 := Lib.hid (most_low (fun _ _ => HZ.out) hm4)
        have HB4 := Lib.hid (below_step HB3.out hb4)
        clear hm4 hb4
        go_wp2
        go_ret2
        exact ⟨⟨U, c, rfl, HM4.out⟩, HB4.out⟩
      · rw [h0] at hcall
        have HM := Lib.hid (most_all HP.out HQ.out h0)
        clear h0
        go_wp2_with fail
        refine hcall.mono ?_
        rintro e w3 ⟨rfl, hb3⟩
        have HB3 := Lib.hid (below_step HB2.out hb3)
        clear hb3 hcall
        go_wp2
        go_ret2
        exact ⟨⟨_, _, rfl, HM.out⟩, HB3.out⟩

end Go.Proofs.Ytiphooodijbhiab
