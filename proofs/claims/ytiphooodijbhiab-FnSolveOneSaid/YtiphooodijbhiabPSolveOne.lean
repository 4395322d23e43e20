/-
  The walk of the law FnSolveOne.
-/
import Derived.Test.YtiphooodijbhiabPSolveBase
import Derived.Test.YtiphooodijbhiabSpecOneLow
import Derived.Test.YtiphooodijbhiabOneLowI
import Derived.Test.YtiphooodijbhiabSolveIsI
import Derived.Test.YtiphooodijbhiabStarHasI
set_option linter.unusedVariables false
set_option linter.unusedSimpArgs false
namespace Go.Proofs.Ytiphooodijbhiab
open Go.RowKit

theorem one_same {s t T V : ByteArray} (h : oneW s t = true) (hT : MakeIs (leastOk s t) (lowF (fS s) (fS t)) T true) (hV : MakeIs (mostOk s t) (mostF (fS s) (fS t)) V true) : T = V := by
  obtain ⟨_, h1, h2, _, _, k1⟩ := least_told hT
  obtain ⟨_, _, _, _, k2⟩ := most_told hV
  have e : mostF (fS s) (fS t) = lowF (fS s) (fS t) := by
    cases h0 : fS s 0
    · exact most_is_low h0
    · rw [most_is_all h0]
      unfold oneW oneV at h
      rw [h1, h2, h0] at h
      simp only [Bool.true_and, Bool.not_true, Bool.false_or, decide_eq_true_eq] at h
      rw [countF_all] at h
      funext n
      exact (low_all (smallS_iff.1 h1).2 (smallS_iff.1 h2).2 h n).symm
  rw [e] at k2
  exact tidyText_same k1 k2
theorem zero_has (s : ByteArray) : starHasV s 0 = smallS s := by
  unfold starHasV
  rw [show inR 0 0 2000 = true from by decide, show (0 : Int).toNat = 0 from rfl, starB_zero]
  simp

set_option maxRecDepth 100000 in
set_option maxHeartbeats 4000000 in
theorem pSolveOne (a : Option Addr) (n c : Nat) (zs : List Int) (w : World) (hr : IsRow .u8 w a n c zs) (m : Int) (hg : 0 < w.heap.size) (hm : w.cell? ⟨0, 0, none⟩ = some (.int .i64 m)) :
    Calls Try.prog 9 #[.slice a n c] w fun e w' => e = .returned (.bool true) ∧ Below w.heap.size w w' := by
  by_cases hn : n ≤ 1048576
  · have hL : LibAt m w := ⟨hg, hm⟩
    clear hg hm
    have hB := Lib.hid hr.bytes
    have hC := Lib.hid hr.cap
    clear hr
    go_enter Try.func9, Try.ntmps9
    go_wp2_with fail
    refine (drawSolveOne a n c _ hB.out hn hC.out).mono ?_
    rintro e w1 ⟨s, t, rfl, hs, ht, hb1⟩
    have HB1 := Lib.hid hb1
    have HL1 := Lib.hid (hL.below hb1)
    clear hb1
    go_wp2_with fail
    refine (implSolveOne s t m _ (by omega) (by omega) HL1.out).mono ?_
    rintro e w2 ⟨rfl, hx2⟩
    have HB2 := Lib.hid (below_step HB1.out hx2)
    have HL2 := Lib.hid (HL1.out.below hx2)
    clear hx2
    go_wp2_with fail
    refine (specSolveOne s t _ (by omega) (by omega)).mono ?_
    rintro e w3 ⟨rfl, hx3⟩
    have HB3 := Lib.hid (below_step HB2.out hx3)
    have HL3 := Lib.hid (HL2.out.below hx3)
    clear hx3
    go_wp2_with fail
    refine (implLeast s t m _ (by omega) (by omega) HL3.out).mono ?_
    rintro e w4 ⟨⟨T, p, rfl, hm4⟩, hx4⟩
    have HB4 := Lib.hid (below_step HB3.out hx4)
    have HL4 := Lib.hid (HL3.out.below hx4)
    have HT := Lib.hid hm4
    clear hm4
    clear hx4
    go_wp2_with fail
    refine (implMost s t m _ (by omega) (by omega) HL4.out).mono ?_
    rintro e w5 ⟨⟨V, q, rfl, hm5⟩, hx5⟩
    have HB5 := Lib.hid (below_step HB4.out hx5)
    have HL5 := Lib.hid (HL4.out.below hx5)
    have HV := Lib.hid hm5
    clear hm5
    clear hx5
    have HEq : Hid (oneW s t = true → p = true → q = true → T = V) := Lib.hid (fun h1 h2 h3 => by subst h2 h3; exact one_same h1 HT.out HV.out)
    have HSm : Hid (smallS s = true → smallS t = true → fS s 0 = false → oneW s t = true) := Lib.hid (fun h1 h2 h3 => by unfold oneW oneV; rw [h1, h2, h3]; rfl)
    have HI := Lib.hid (fun W hL => implSolveIs s t s m W (by omega) (by omega) (by omega) hL)
    have HP1 := Lib.hid (fun W hL => implHas s 0 m W (by omega) hL)
    have HP2 := Lib.hid (fun W hL => implHas t 0 m W (by omega) hL)
    have HE := Lib.hid (fun (h : smallS s = true) W hL => ask_set (small_ok h) 0 m W (by omega) (by omega) hL)
    have hI : isW s t s = true → smallS s = true ∧ smallS t = true := fun h => by unfold isW at h; simp only [Bool.and_eq_true] at h; exact ⟨h.1.1.1, h.1.1.2⟩
    rw [zero_has] at HP1 HP2
    obtain ⟨v, hv⟩ : ∃ v, v = oneW s t := ⟨_, rfl⟩
    obtain ⟨i, hi⟩ : ∃ i, i = isW s t s := ⟨_, rfl⟩
    rw [← hv] at HEq HSm ⊢
    rw [← hi] at HI hI
    clear hv hi
    cases v
    · go_wp2_with fail
      refine (HI.out _ HL5.out).mono ?_
      rintro e w6 ⟨rfl, hx6⟩
      have HB6 := Lib.hid (below_step HB5.out hx6)
      have HL6 := Lib.hid (HL5.out.below hx6)
      clear hx6
      cases i
      · cases hs1 : smallS s
        · rw [hs1] at HP1
          go_wp2_with fail
          refine (HP1.out _ HL6.out).mono ?_
          rintro e w7 ⟨rfl, hx7⟩
          have HB7 := Lib.hid (below_step HB6.out hx7)
          have HL7 := Lib.hid (HL6.out.below hx7)
          clear hx7
          go_wp2
          go_ret
          exact ⟨ret_bool (by simp), HB7.out⟩
        · rw [hs1] at HP1
          go_wp2_with fail
          refine (HP1.out _ HL6.out).mono ?_
          rintro e w7 ⟨rfl, hx7⟩
          have HB7 := Lib.hid (below_step HB6.out hx7)
          have HL7 := Lib.hid (HL6.out.below hx7)
          clear hx7
          cases hs2 : smallS t
          · rw [hs2] at HP2
            go_wp2_with fail
            refine (HP2.out _ HL7.out).mono ?_
            rintro e w8 ⟨rfl, hx8⟩
            have HB8 := Lib.hid (below_step HB7.out hx8)
            have HL8 := Lib.hid (HL7.out.below hx8)
            clear hx8
            go_wp2
            go_ret
            exact ⟨ret_bool (by simp), HB8.out⟩
          · rw [hs2] at HP2
            go_wp2_with fail
            refine (HP2.out _ HL7.out).mono ?_
            rintro e w8 ⟨rfl, hx8⟩
            have HB8 := Lib.hid (below_step HB7.out hx8)
            have HL8 := Lib.hid (HL7.out.below hx8)
            clear hx8
            have e0 := HE.out hs1
            cases h0 : fS s 0
            · rw [h0] at e0
              exact absurd (HSm.out hs1 hs2 h0) (by decide)
            · rw [h0] at e0
              go_wp2_with fail
              refine (e0 _ HL8.out).mono ?_
              rintro e w9 ⟨rfl, hx9⟩
              have HB9 := Lib.hid (below_step HB8.out hx9)
              have HL9 := Lib.hid (HL8.out.below hx9)
              clear hx9
              go_wp2
              go_ret
              exact ⟨ret_bool (by simp), HB9.out⟩
      · obtain ⟨hs1, hs2⟩ := hI rfl
        have e0 := HE.out hs1
        cases h0 : fS s 0
        · rw [h0] at e0
          exact absurd (HSm.out hs1 hs2 h0) (by decide)
        · rw [h0] at e0
          go_wp2_with fail
          refine (e0 _ HL6.out).mono ?_
          rintro e w7 ⟨rfl, hx7⟩
          have HB7 := Lib.hid (below_step HB6.out hx7)
          have HL7 := Lib.hid (HL6.out.below hx7)
          clear hx7
          go_wp2
          go_ret
          exact ⟨ret_bool (by simp), HB7.out⟩
    · cases p
      · go_wp2_with fail
        refine (HI.out _ HL5.out).mono ?_
        rintro e w6 ⟨rfl, hx6⟩
        have HB6 := Lib.hid (below_step HB5.out hx6)
        have HL6 := Lib.hid (HL5.out.below hx6)
        clear hx6
        cases i
        · cases hs1 : smallS s
          · rw [hs1] at HP1
            go_wp2_with fail
            refine (HP1.out _ HL6.out).mono ?_
            rintro e w7 ⟨rfl, hx7⟩
            have HB7 := Lib.hid (below_step HB6.out hx7)
            have HL7 := Lib.hid (HL6.out.below hx7)
            clear hx7
            go_wp2
            go_ret
            exact ⟨ret_bool (by simp), HB7.out⟩
          · rw [hs1] at HP1
            go_wp2_with fail
            refine (HP1.out _ HL6.out).mono ?_
            rintro e w7 ⟨rfl, hx7⟩
            have HB7 := Lib.hid (below_step HB6.out hx7)
            have HL7 := Lib.hid (HL6.out.below hx7)
            clear hx7
            cases hs2 : smallS t
            · rw [hs2] at HP2
              go_wp2_with fail
              refine (HP2.out _ HL7.out).mono ?_
              rintro e w8 ⟨rfl, hx8⟩
              have HB8 := Lib.hid (below_step HB7.out hx8)
              have HL8 := Lib.hid (HL7.out.below hx8)
              clear hx8
              go_wp2
              go_ret
              exact ⟨ret_bool (by simp), HB8.out⟩
            · rw [hs2] at HP2
              go_wp2_with fail
              refine (HP2.out _ HL7.out).mono ?_
              rintro e w8 ⟨rfl, hx8⟩
              have HB8 := Lib.hid (below_step HB7.out hx8)
              have HL8 := Lib.hid (HL7.out.below hx8)
              clear hx8
              have e0 := HE.out hs1
              cases h0 : fS s 0
              · rw [h0] at e0
                go_wp2_with fail
                refine (e0 _ HL8.out).mono ?_
                rintro e w9 ⟨rfl, hx9⟩
                have HB9 := Lib.hid (below_step HB8.out hx9)
                have HL9 := Lib.hid (HL8.out.below hx9)
                clear hx9
                go_wp2
                go_ret
                exact ⟨ret_bool (by simp), HB9.out⟩
              · rw [h0] at e0
                go_wp2_with fail
                refine (e0 _ HL8.out).mono ?_
                rintro e w9 ⟨rfl, hx9⟩
                have HB9 := Lib.hid (below_step HB8.out hx9)
                have HL9 := Lib.hid (HL8.out.below hx9)
                clear hx9
                go_wp2
                go_ret
                exact ⟨ret_bool (by simp), HB9.out⟩
        · obtain ⟨hs1, hs2⟩ := hI rfl
          have e0 := HE.out hs1
          cases h0 : fS s 0
          · rw [h0] at e0
            go_wp2_with fail
            refine (e0 _ HL6.out).mono ?_
            rintro e w7 ⟨rfl, hx7⟩
            have HB7 := Lib.hid (below_step HB6.out hx7)
            have HL7 := Lib.hid (HL6.out.below hx7)
            clear hx7
            go_wp2
            go_ret
            exact ⟨ret_bool (by simp), HB7.out⟩
          · rw [h0] at e0
            go_wp2_with fail
            refine (e0 _ HL6.out).mono ?_
            rintro e w7 ⟨rfl, hx7⟩
            have HB7 := Lib.hid (below_step HB6.out hx7)
            have HL7 := Lib.hid (HL6.out.below hx7)
            clear hx7
            go_wp2
            go_ret
            exact ⟨ret_bool (by simp), HB7.out⟩
      · cases q
        · go_wp2_with fail
          refine (HI.out _ HL5.out).mono ?_
          rintro e w6 ⟨rfl, hx6⟩
          have HB6 := Lib.hid (below_step HB5.out hx6)
          have HL6 := Lib.hid (HL5.out.below hx6)
          clear hx6
          cases i
          · cases hs1 : smallS s
            · rw [hs1] at HP1
              go_wp2_with fail
              refine (HP1.out _ HL6.out).mono ?_
              rintro e w7 ⟨rfl, hx7⟩
              have HB7 := Lib.hid (below_step HB6.out hx7)
              have HL7 := Lib.hid (HL6.out.below hx7)
              clear hx7
              go_wp2
              go_ret
              exact ⟨ret_bool (by simp), HB7.out⟩
            · rw [hs1] at HP1
              go_wp2_with fail
              refine (HP1.out _ HL6.out).mono ?_
              rintro e w7 ⟨rfl, hx7⟩
              have HB7 := Lib.hid (below_step HB6.out hx7)
              have HL7 := Lib.hid (HL6.out.below hx7)
              clear hx7
              cases hs2 : smallS t
              · rw [hs2] at HP2
                go_wp2_with fail
                refine (HP2.out _ HL7.out).mono ?_
                rintro e w8 ⟨rfl, hx8⟩
                have HB8 := Lib.hid (below_step HB7.out hx8)
                have HL8 := Lib.hid (HL7.out.below hx8)
                clear hx8
                go_wp2
                go_ret
                exact ⟨ret_bool (by simp), HB8.out⟩
              · rw [hs2] at HP2
                go_wp2_with fail
                refine (HP2.out _ HL7.out).mono ?_
                rintro e w8 ⟨rfl, hx8⟩
                have HB8 := Lib.hid (below_step HB7.out hx8)
                have HL8 := Lib.hid (HL7.out.below hx8)
                clear hx8
                have e0 := HE.out hs1
                cases h0 : fS s 0
                · rw [h0] at e0
                  go_wp2_with fail
                  refine (e0 _ HL8.out).mono ?_
                  rintro e w9 ⟨rfl, hx9⟩
                  have HB9 := Lib.hid (below_step HB8.out hx9)
                  have HL9 := Lib.hid (HL8.out.below hx9)
                  clear hx9
                  go_wp2
                  go_ret
                  exact ⟨ret_bool (by simp), HB9.out⟩
                · rw [h0] at e0
                  go_wp2_with fail
                  refine (e0 _ HL8.out).mono ?_
                  rintro e w9 ⟨rfl, hx9⟩
                  have HB9 := Lib.hid (below_step HB8.out hx9)
                  have HL9 := Lib.hid (HL8.out.below hx9)
                  clear hx9
                  go_wp2
                  go_ret
                  exact ⟨ret_bool (by simp), HB9.out⟩
          · obtain ⟨hs1, hs2⟩ := hI rfl
            have e0 := HE.out hs1
            cases h0 : fS s 0
            · rw [h0] at e0
              go_wp2_with fail
              refine (e0 _ HL6.out).mono ?_
              rintro e w7 ⟨rfl, hx7⟩
              have HB7 := Lib.hid (below_step HB6.out hx7)
              have HL7 := Lib.hid (HL6.out.below hx7)
              clear hx7
              go_wp2
              go_ret
              exact ⟨ret_bool (by simp), HB7.out⟩
            · rw [h0] at e0
              go_wp2_with fail
              refine (e0 _ HL6.out).mono ?_
              rintro e w7 ⟨rfl, hx7⟩
              have HB7 := Lib.hid (below_step HB6.out hx7)
              have HL7 := Lib.hid (HL6.out.below hx7)
              clear hx7
              go_wp2
              go_ret
              exact ⟨ret_bool (by simp), HB7.out⟩
        · obtain rfl := HEq.out rfl rfl rfl
          go_wp2_with fail
          refine (HI.out _ HL5.out).mono ?_
          rintro e w6 ⟨rfl, hx6⟩
          have HB6 := Lib.hid (below_step HB5.out hx6)
          have HL6 := Lib.hid (HL5.out.below hx6)
          clear hx6
          cases i
          · cases hs1 : smallS s
            · rw [hs1] at HP1
              go_wp2_with fail
              refine (HP1.out _ HL6.out).mono ?_
              rintro e w7 ⟨rfl, hx7⟩
              have HB7 := Lib.hid (below_step HB6.out hx7)
              have HL7 := Lib.hid (HL6.out.below hx7)
              clear hx7
              go_wp2
              go_ret
              exact ⟨ret_bool (by simp), HB7.out⟩
            · rw [hs1] at HP1
              go_wp2_with fail
              refine (HP1.out _ HL6.out).mono ?_
              rintro e w7 ⟨rfl, hx7⟩
              have HB7 := Lib.hid (below_step HB6.out hx7)
              have HL7 := Lib.hid (HL6.out.below hx7)
              clear hx7
              cases hs2 : smallS t
              · rw [hs2] at HP2
                go_wp2_with fail
                refine (HP2.out _ HL7.out).mono ?_
                rintro e w8 ⟨rfl, hx8⟩
                have HB8 := Lib.hid (below_step HB7.out hx8)
                have HL8 := Lib.hid (HL7.out.below hx8)
                clear hx8
                go_wp2
                go_ret
                exact ⟨ret_bool (by simp), HB8.out⟩
              · rw [hs2] at HP2
                go_wp2_with fail
                refine (HP2.out _ HL7.out).mono ?_
                rintro e w8 ⟨rfl, hx8⟩
                have HB8 := Lib.hid (below_step HB7.out hx8)
                have HL8 := Lib.hid (HL7.out.below hx8)
                clear hx8
                have e0 := HE.out hs1
                cases h0 : fS s 0
                · rw [h0] at e0
                  go_wp2_with fail
                  refine (e0 _ HL8.out).mono ?_
                  rintro e w9 ⟨rfl, hx9⟩
                  have HB9 := Lib.hid (below_step HB8.out hx9)
                  have HL9 := Lib.hid (HL8.out.below hx9)
                  clear hx9
                  go_wp2
                  go_ret
                  exact ⟨ret_bool (by simp), HB9.out⟩
                · rw [h0] at e0
                  go_wp2_with fail
                  refine (e0 _ HL8.out).mono ?_
                  rintro e w9 ⟨rfl, hx9⟩
                  have HB9 := Lib.hid (below_step HB8.out hx9)
                  have HL9 := Lib.hid (HL8.out.below hx9)
                  clear hx9
                  go_wp2
                  go_ret
                  exact ⟨ret_bool (by simp), HB9.out⟩
          · obtain ⟨hs1, hs2⟩ := hI rfl
            have e0 := HE.out hs1
            cases h0 : fS s 0
            · rw [h0] at e0
              go_wp2_with fail
              refine (e0 _ HL6.out).mono ?_
              rintro e w7 ⟨rfl, hx7⟩
              have HB7 := Lib.hid (below_step HB6.out hx7)
              have HL7 := Lib.hid (HL6.out.below hx7)
              clear hx7
              go_wp2
              go_ret
              exact ⟨ret_bool (by simp), HB7.out⟩
            · rw [h0] at e0
              go_wp2_with fail
              refine (e0 _ HL6.out).mono ?_
              rintro e w7 ⟨rfl, hx7⟩
              have HB7 := Lib.hid (below_step HB6.out hx7)
              have HL7 := Lib.hid (HL6.out.below hx7)
              clear hx7
              go_wp2
              go_ret
              exact ⟨ret_bool (by simp), HB7.out⟩
  · have hd : (1048576 : Int) < (n : Int) := by omega
    go_enter Try.func9, Try.ntmps9
    go_wp2
    go_ret
    exact ⟨rfl, Below.refl _ _⟩

end Go.Proofs.Ytiphooodijbhiab
