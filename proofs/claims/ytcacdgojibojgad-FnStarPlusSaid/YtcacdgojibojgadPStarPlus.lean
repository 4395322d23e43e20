/-
  The walk of the law FnStarPlus.
-/
import Derived.Test.YtcacdgojibojgadPSumBase
import Derived.Test.YtcacdgojibojgadSpecPlus
import Derived.Test.YtcacdgojibojgadStarPlusI
import Derived.Test.YtcacdgojibojgadEitherI
import Derived.Test.YtcacdgojibojgadSetOne
set_option linter.unusedVariables false
set_option linter.unusedSimpArgs false
namespace Go.Proofs.Ytcacdgojibojgad
open Go.RowKit

theorem ask_zero {s : ByteArray} (h : okS s = true) (m : Int) (W : World) (hs : s.size ≤ 1048576) (hL : LibAt m W) :
    Calls Try.prog 15 #[.string s, .int .i64 0] W fun e w' => e = .returned (.bool (fS s 0)) ∧ Below W.heap.size W w' := ask_set h 0 m W hs (by decide) hL
theorem plus_star {f : Nat → Bool} {T V X : ByteArray} {ok ok2 : Bool} (h : fS T = plusF f) (hV : MakeIs ok (fun n => fS T n || fS ⟨#[49, 40, 48, 41]⟩ n) V true) (hX : MakeIs ok2 (starB f) X true) : V = X := by
  have h1 := (makeIs_told hV).2
  have h2 := (makeIs_told hX).2
  have e : (fun n => fS T n || fS ⟨#[49, 40, 48, 41]⟩ n) = starB f := by
    rw [h, show fS ⟨#[49, 40, 48, 41]⟩ = zeroOnly from tidyText_zeroOnly.told.set]
    funext n
    unfold plusF zeroOnly
    by_cases e : n = 0
    · rw [if_pos e, decide_eq_true e, e, starB_zero, Bool.or_true]
    · rw [if_neg e, decide_eq_false e, Bool.or_false]
  rw [e] at h1
  exact tidyText_same h1 h2

set_option maxRecDepth 100000 in
set_option maxHeartbeats 4000000 in
theorem pStarPlus (a : Option Addr) (n c : Nat) (zs : List Int) (w : World) (hr : IsRow .u8 w a n c zs) (m : Int) (hg : 0 < w.heap.size) (hm : w.cell? ⟨0, 0, none⟩ = some (.int .i64 m)) :
    Calls Try.prog 6 #[.slice a n c] w fun e w' => e = .returned (.bool true) ∧ Below w.heap.size w w' := by
  by_cases hn : n ≤ 1048576
  · have hL : LibAt m w := ⟨hg, hm⟩
    clear hg hm
    have hB := Lib.hid hr.bytes
    have hC := Lib.hid hr.cap
    clear hr
    go_enter Try.func6, Try.ntmps6
    go_wp2_with fail
    refine (drawStarPlus a n c _ hB.out hn hC.out).mono ?_
    rintro e w1 ⟨s, rfl, hs, hb1⟩
    have HB1 := Lib.hid hb1
    have HL1 := Lib.hid (hL.below hb1)
    clear hb1
    go_wp2_with fail
    refine (implPlus s m _ (by omega) HL1.out).mono ?_
    rintro e w2 ⟨⟨T, b, rfl, hm2⟩, hx2⟩
    have HB2 := Lib.hid (below_step HB1.out hx2)
    have HL2 := Lib.hid (HL1.out.below hx2)
    have HM := Lib.hid hm2
    clear hx2 hm2
    go_wp2_with fail
    refine (specPlus s _ (by omega)).mono ?_
    rintro e w3 ⟨⟨U, c, rfl, hm3⟩, hx3⟩
    have HB3 := Lib.hid (below_step HB2.out hx3)
    have HL3 := Lib.hid (HL2.out.below hx3)
    obtain ⟨rfl, rfl⟩ := makeIs_unique HM.out hm3
    clear hx3 hm3
    cases b
    · go_wp2
      go_ret
      exact ⟨ret_bool (by simp), HB3.out⟩
    · obtain ⟨hok, hT⟩ := makeIs_told HM.out
      have HT := Lib.hid hT
      have HO := Lib.hid hT.told.ok
      have HF := Lib.hid hT.told.set
      have hTs := told_size hT.told.ok
      have HS1 := Lib.hid (small_ok hok)
      have HR := Lib.hid (one_read w3)
      have HB3 := Lib.hid (HB3.out.alloc HB3.out.size (.cells #[.int .i64 0] 3))
      have HL3 := Lib.hid (HL3.out.below ((Below.refl _ _).alloc (Nat.le_refl _) (.cells #[.int .i64 0] 3)))
      go_wp2_with fail
      refine (implOf_on (some ⟨w3.heap.size, 0, none⟩) 1 1 [0] ⟨#[49, 40, 48, 41]⟩ _ HR.out (by decide) (by decide) tidy_one).mono ?_
      rintro e w4 ⟨rfl, hx4⟩
      have HB4 := Lib.hid (below_step HB3.out hx4)
      have HL4 := Lib.hid (HL3.out.below hx4)
      clear hx4
      go_wp2_with fail
      refine (implEither T ⟨#[49, 40, 48, 41]⟩ m _ hTs (by decide) HL4.out).mono ?_
      rintro e w5 ⟨⟨V, p, rfl, hm5⟩, hx5⟩
      have HB5 := Lib.hid (below_step HB4.out hx5)
      have HL5 := Lib.hid (HL4.out.below hx5)
      have HU := Lib.hid hm5
      clear hx5 hm5
      go_wp2_with fail
      refine (implStar s m _ (by omega) HL5.out).mono ?_
      rintro e w6 ⟨⟨X, q, rfl, hm6⟩, hx6⟩
      have HB6 := Lib.hid (below_step HB5.out hx6)
      have HL6 := Lib.hid (HL5.out.below hx6)
      have HV : Hid (p = true → q = true → V = X) := Lib.hid (fun h1 h2 => by subst h1; subst h2; exact plus_star HF.out HU.out hm6)
      clear hx6 hm6
      have e0 := ask_zero HO.out m
      have e1 := ask_zero HS1.out m
      rw [show fS T 0 = fS s 0 by rw [HF.out]; rfl] at e0
      clear HM hT
      cases p
      · go_wp2_with fail
        refine (e0 _ hTs HL6.out).mono ?_
        rintro e w7 ⟨rfl, hx7⟩
        have HB7 := Lib.hid (below_step HB6.out hx7)
        have HL7 := Lib.hid (HL6.out.below hx7)
        clear hx7
        go_wp2_with fail
        refine (e1 _ (by omega) HL7.out).mono ?_
        rintro e w8 ⟨rfl, hx8⟩
        have HB8 := Lib.hid (below_step HB7.out hx8)
        clear hx8
        go_wp2
        go_ret
        exact ⟨ret_bool (by simp), HB8.out⟩
      · cases q
        · go_wp2_with fail
          refine (e0 _ hTs HL6.out).mono ?_
          rintro e w7 ⟨rfl, hx7⟩
          have HB7 := Lib.hid (below_step HB6.out hx7)
          have HL7 := Lib.hid (HL6.out.below hx7)
          clear hx7
          go_wp2_with fail
          refine (e1 _ (by omega) HL7.out).mono ?_
          rintro e w8 ⟨rfl, hx8⟩
          have HB8 := Lib.hid (below_step HB7.out hx8)
          clear hx8
          go_wp2
          go_ret
          exact ⟨ret_bool (by simp), HB8.out⟩
        · obtain rfl := HV.out rfl rfl
          go_wp2_with fail
          refine (e0 _ hTs HL6.out).mono ?_
          rintro e w7 ⟨rfl, hx7⟩
          have HB7 := Lib.hid (below_step HB6.out hx7)
          have HL7 := Lib.hid (HL6.out.below hx7)
          clear hx7
          go_wp2_with fail
          refine (e1 _ (by omega) HL7.out).mono ?_
          rintro e w8 ⟨rfl, hx8⟩
          have HB8 := Lib.hid (below_step HB7.out hx8)
          clear hx8
          go_wp2
          go_ret
          exact ⟨ret_bool (by simp), HB8.out⟩
  · have hd : (1048576 : Int) < (n : Int) := by omega
    go_enter Try.func6, Try.ntmps6
    go_wp2
    go_ret
    exact ⟨rfl, Below.refl _ _⟩
end Go.Proofs.Ytcacdgojibojgad
