/-
  The walk of the law FnSolveIs.
-/
import Derived.Test.YtiphooodijbhiabPSolveBase
import Derived.Test.YtiphooodijbhiabSpecIs
import Derived.Test.YtiphooodijbhiabSolveIsI
import Derived.Test.YtiphooodijbhiabBelowI
set_option linter.unusedVariables false
set_option linter.unusedSimpArgs false
namespace Go.Proofs.Ytiphooodijbhiab
open Go.RowKit

theorem isW_true {s t x : ByteArray} (h : isW s t x = true) : smallS s = true ∧ smallS t = true ∧ smallS x = true ∧ dueF (fS s) (fS t) (fS x) = fS x := by
  unfold isW at h
  rw [Bool.and_eq_true, Bool.and_eq_true, Bool.and_eq_true] at h
  exact ⟨h.1.1.1, h.1.1.2, h.1.2, isV_iff.1 h.2⟩
theorem low_below {s t x T : ByteArray} (h3 : smallS x = true) (hd : dueF (fS s) (fS t) (fS x) = fS x) (hT : okS T = true) (hF : fS T = lowF (fS s) (fS t)) : BelowIs T x true :=
  .yes hT (small_ok h3) fun n => by
    show (fS T n && !fS x n) = false
    rw [hF]
    cases e : lowF (fS s) (fS t) n
    · rfl
    · rw [is_low hd n e]; rfl
theorem is_below {s t x V : ByteArray} (h3 : smallS x = true) (hd : dueF (fS s) (fS t) (fS x) = fS x) (hV : okS V = true) (hF : fS V = mostF (fS s) (fS t)) : BelowIs x V true :=
  .yes (small_ok h3) hV fun n => by
    show (fS x n && !fS V n) = false
    rw [hF]
    cases e : fS x n
    · rfl
    · cases e0 : fS s 0
      · rw [most_is_low e0, low_is e0 hd n e]; rfl
      · rw [most_is_all e0]; rfl
theorem is_above {s t x : ByteArray} (h2 : smallS t = true) (h3 : smallS x = true) (hd : dueF (fS s) (fS t) (fS x) = fS x) : BelowIs t x true :=
  .yes (small_ok h2) (small_ok h3) fun n => by
    show (fS t n && !fS x n) = false
    cases e : fS t n
    · rfl
    · rw [← hd]; unfold dueF; rw [e]; rfl

set_option maxRecDepth 100000 in
set_option maxHeartbeats 4000000 in
theorem pSolveIs (a : Option Addr) (n c : Nat) (zs : List Int) (w : World) (hr : IsRow .u8 w a n c zs) (m : Int) (hg : 0 < w.heap.size) (hm : w.cell? ⟨0, 0, none⟩ = some (.int .i64 m)) :
    Calls Try.prog 6 #[.slice a n c] w fun e w' => e = .returned (.bool true) ∧ Below w.heap.size w w' := by
  by_cases hn : n ≤ 1048576
  · have hL : LibAt m w := ⟨hg, hm⟩
    clear hg hm
    have hB := Lib.hid hr.bytes
    have hC := Lib.hid hr.cap
    clear hr
    go_enter Try.func6, Try.ntmps6
    go_wp2_with fail
    refine (drawSolveIs a n c _ hB.out hn hC.out).mono ?_
    rintro e w1 ⟨s, t, x, rfl, hs, ht, hx, hb1⟩
    have HB1 := Lib.hid hb1
    have HL1 := Lib.hid (hL.below hb1)
    clear hb1
    go_wp2_with fail
    refine (implSolveIs s t x m _ (by omega) (by omega) (by omega) HL1.out).mono ?_
    rintro e w2 ⟨rfl, hx2⟩
    have HB2 := Lib.hid (below_step HB1.out hx2)
    have HL2 := Lib.hid (HL1.out.below hx2)
    clear hx2
    go_wp2_with fail
    refine (specSolveIs s t x _ (by omega) (by omega) (by omega)).mono ?_
    rintro e w3 ⟨rfl, hx3⟩
    have HB3 := Lib.hid (below_step HB2.out hx3)
    have HL3 := Lib.hid (HL2.out.below hx3)
    clear hx3
    cases hv : isW s t x
    · go_wp2
      go_ret
      exact ⟨ret_bool (by simp), HB3.out⟩
    · obtain ⟨h1, h2, h3, h4⟩ := isW_true hv
      have HS1 := Lib.hid h1
      have HS2 := Lib.hid h2
      have HS3 := Lib.hid h3
      have HD := Lib.hid h4
      clear hv h1 h2 h3 h4
      go_wp2_with fail
      refine (implLeast s t m _ (by omega) (by omega) HL3.out).mono ?_
      rintro e w4 ⟨⟨T, p, rfl, hm4⟩, hx4⟩
      have HB4 := Lib.hid (below_step HB3.out hx4)
      have HL4 := Lib.hid (HL3.out.below hx4)
      have HT := Lib.hid hm4
      have hTs := makeIs_sizeI hm4
      clear hm4
      clear hx4
      go_wp2_with fail
      refine (implMost s t m _ (by omega) (by omega) HL4.out).mono ?_
      rintro e w5 ⟨⟨V, q, rfl, hm5⟩, hx5⟩
      have HB5 := Lib.hid (below_step HB4.out hx5)
      have HL5 := Lib.hid (HL4.out.below hx5)
      have HV := Lib.hid hm5
      have hVs := makeIs_sizeI hm5
      clear hm5
      clear hx5
      cases p
      · cases q
        · go_wp2_with fail
          refine (implBelow t x m true _ (by omega) (by omega) HL5.out (is_above HS2.out HS3.out HD.out)).mono ?_
          rintro e w6 ⟨rfl, hx6⟩
          have HB6 := Lib.hid (below_step HB5.out hx6)
          have HL6 := Lib.hid (HL5.out.below hx6)
          clear hx6
          go_wp2
          go_ret
          exact ⟨ret_bool (by simp), HB6.out⟩
        · obtain ⟨_, _, hV, hVf, _⟩ := most_told HV.out
          go_wp2_with fail
          refine (implBelow x V m true _ (by omega) hVs HL5.out (is_below HS3.out HD.out hV hVf)).mono ?_
          rintro e w6 ⟨rfl, hx6⟩
          have HB6 := Lib.hid (below_step HB5.out hx6)
          have HL6 := Lib.hid (HL5.out.below hx6)
          clear hx6
          go_wp2_with fail
          refine (implBelow t x m true _ (by omega) (by omega) HL6.out (is_above HS2.out HS3.out HD.out)).mono ?_
          rintro e w7 ⟨rfl, hx7⟩
          have HB7 := Lib.hid (below_step HB6.out hx7)
          have HL7 := Lib.hid (HL6.out.below hx7)
          clear hx7
          go_wp2
          go_ret
          exact ⟨ret_bool (by simp), HB7.out⟩
      · obtain ⟨_, _, _, hT, hTf, _⟩ := least_told HT.out
        go_wp2_with fail
        refine (implBelow T x m true _ hTs (by omega) HL5.out (low_below HS3.out HD.out hT hTf)).mono ?_
        rintro e w6 ⟨rfl, hx6⟩
        have HB6 := Lib.hid (below_step HB5.out hx6)
        have HL6 := Lib.hid (HL5.out.below hx6)
        clear hx6
        cases q
        · go_wp2_with fail
          refine (implBelow t x m true _ (by omega) (by omega) HL6.out (is_above HS2.out HS3.out HD.out)).mono ?_
          rintro e w7 ⟨rfl, hx7⟩
          have HB7 := Lib.hid (below_step HB6.out hx7)
          have HL7 := Lib.hid (HL6.out.below hx7)
          clear hx7
          go_wp2
          go_ret
          exact ⟨ret_bool (by simp), HB7.out⟩
        · obtain ⟨_, _, hV, hVf, _⟩ := most_told HV.out
          go_wp2_with fail
          refine (implBelow x V m true _ (by omega) hVs HL6.out (is_below HS3.out HD.out hV hVf)).mono ?_
          rintro e w7 ⟨rfl, hx7⟩
          have HB7 := Lib.hid (below_step HB6.out hx7)
          have HL7 := Lib.hid (HL6.out.below hx7)
          clear hx7
          go_wp2_with fail
          refine (implBelow t x m true _ (by omega) (by omega) HL7.out (is_above HS2.out HS3.out HD.out)).mono ?_
          rintro e w8 ⟨rfl, hx8⟩
          have HB8 := Lib.hid (below_step HB7.out hx8)
          have HL8 := Lib.hid (HL7.out.below hx8)
          clear hx8
          go_wp2
          go_ret
          exact ⟨ret_bool (by simp), HB8.out⟩
  · have hd : (1048576 : Int) < (n : Int) := by omega
    go_enter Try.func6, Try.ntmps6
    go_wp2
    go_ret
    exact ⟨rfl, Below.refl _ _⟩

end Go.Proofs.Ytiphooodijbhiab
