/-
  The walk of the law FnSolveMost.
-/
import Derived.Test.YtiphooodijbhiabPSolveBase
import Derived.Test.YtiphooodijbhiabSpecSolve
import Derived.Test.YtiphooodijbhiabSameI
set_option linter.unusedVariables false
set_option linter.unusedSimpArgs false
namespace Go.Proofs.Ytiphooodijbhiab
open Go.RowKit

set_option maxRecDepth 100000 in
set_option maxHeartbeats 4000000 in
theorem pSolveMost (a : Option Addr) (n c : Nat) (zs : List Int) (w : World) (hr : IsRow .u8 w a n c zs) (m : Int) (hg : 0 < w.heap.size) (hm : w.cell? ⟨0, 0, none⟩ = some (.int .i64 m)) :
    Calls Try.prog 8 #[.slice a n c] w fun e w' => e = .returned (.bool true) ∧ Below w.heap.size w w' := by
  by_cases hn : n ≤ 1048576
  · have hL : LibAt m w := ⟨hg, hm⟩
    clear hg hm
    have hB := Lib.hid hr.bytes
    have hC := Lib.hid hr.cap
    clear hr
    go_enter Try.func8, Try.ntmps8
    go_wp2_with fail
    refine (drawSolveMost a n c _ hB.out hn hC.out).mono ?_
    rintro e w1 ⟨s, t, rfl, hs, ht, hb1⟩
    have HB1 := Lib.hid hb1
    have HL1 := Lib.hid (hL.below hb1)
    clear hb1
    go_wp2_with fail
    refine (implMost s t m _ (by omega) (by omega) HL1.out).mono ?_
    rintro e w2 ⟨⟨T, b, rfl, hm2⟩, hx2⟩
    have HB2 := Lib.hid (below_step HB1.out hx2)
    have HL2 := Lib.hid (HL1.out.below hx2)
    have HM := Lib.hid hm2
    clear hm2
    clear hx2
    go_wp2_with fail
    refine (specMost s t _ (by omega) (by omega)).mono ?_
    rintro e w3 ⟨⟨U, c, rfl, hm3⟩, hx3⟩
    have HB3 := Lib.hid (below_step HB2.out hx3)
    have HL3 := Lib.hid (HL2.out.below hx3)
    obtain ⟨rfl, rfl⟩ := makeIs_unique HM.out hm3
    clear hm3
    clear hx3
    cases b
    · go_wp2
      go_ret
      exact ⟨ret_bool (by simp), HB3.out⟩
    · obtain ⟨h1, h2, hT, hTf, hTT⟩ := most_told HM.out
      have hTs := told_size hT
      have HS1 := Lib.hid h1
      have HS2 := Lib.hid h2
      have HT := Lib.hid hT
      have HF := Lib.hid hTf
      have HTT := Lib.hid hTT
      clear h1 h2 hT hTf hTT
      have e0 := ask_set (small_ok HS1.out) 0 m
      cases h0 : fS s 0
      · rw [h0] at e0
        have HZ := Lib.hid h0
        clear h0
        go_wp2_with fail
        refine (e0 _ (by omega) (by omega) HL3.out).mono ?_
        rintro e w4 ⟨rfl, hx4⟩
        have HB4 := Lib.hid (below_step HB3.out hx4)
        have HL4 := Lib.hid (HL3.out.below hx4)
        clear hx4
        go_wp2_with fail
        refine (implLeast s t m _ (by omega) (by omega) HL4.out).mono ?_
        rintro e w5 ⟨⟨V, p, rfl, hm5⟩, hx5⟩
        have HB5 := Lib.hid (below_step HB4.out hx5)
        have HL5 := Lib.hid (HL4.out.below hx5)
        obtain ⟨rfl, rfl⟩ := makeIs_unique HM.out (most_low (fun _ _ => HZ.out) hm5)
        clear hm5
        clear hx5
        go_wp2
        go_ret
        exact ⟨ret_bool (by simp), HB5.out⟩
      · rw [h0] at e0
        have HZ := Lib.hid h0
        clear h0
        go_wp2_with fail
        refine (e0 _ (by omega) (by omega) HL3.out).mono ?_
        rintro e w4 ⟨rfl, hx4⟩
        have HB4 := Lib.hid (below_step HB3.out hx4)
        have HL4 := Lib.hid (HL3.out.below hx4)
        clear hx4
        have HC := Lib.hid (fun W hL => implSame_on T ⟨#[40, 49, 41]⟩ m W hTs (by decide) hL HT.out tidyText_all.told.ok)
        rw [show agreeB (fS T) (fS ⟨#[40, 49, 41]⟩) = true from agree_eq (by rw [HF.out, most_is_all HZ.out]; exact tidyText_all.told.set.symm)] at HC
        go_wp2_with fail
        refine (HC.out _ HL4.out).mono ?_
        rintro e w5 ⟨rfl, hx5⟩
        have HB5 := Lib.hid (below_step HB4.out hx5)
        have HL5 := Lib.hid (HL4.out.below hx5)
        clear hx5
        go_wp2
        go_ret
        exact ⟨ret_bool (by simp), HB5.out⟩
  · have hd : (1048576 : Int) < (n : Int) := by omega
    go_enter Try.func8, Try.ntmps8
    go_wp2
    go_ret
    exact ⟨rfl, Below.refl _ _⟩

end Go.Proofs.Ytiphooodijbhiab
