/-
  The walk of the law FnSolveHas.
-/
import Derived.Test.YtiphooodijbhiabPSolveBase
import Derived.Test.YtiphooodijbhiabSpecHasLow
import Derived.Test.YtiphooodijbhiabHasLowI
set_option linter.unusedVariables false
set_option linter.unusedSimpArgs false
namespace Go.Proofs.Ytiphooodijbhiab
open Go.RowKit

theorem hasW_nat {s t : ByteArray} {k : Nat} (h1 : smallS s = true) (h2 : smallS t = true) (hk : k ≤ 500) : hasW s t k = lowF (fS s) (fS t) k := by
  unfold hasW inR
  rw [h1, h2, decide_eq_true (by omega), decide_eq_true (by omega)]; rfl

set_option maxRecDepth 100000 in
set_option maxHeartbeats 4000000 in
theorem pSolveHas (a : Option Addr) (n c : Nat) (zs : List Int) (w : World) (hr : IsRow .u8 w a n c zs) (m : Int) (hg : 0 < w.heap.size) (hm : w.cell? ⟨0, 0, none⟩ = some (.int .i64 m)) :
    Calls Try.prog 7 #[.slice a n c] w fun e w' => e = .returned (.bool true) ∧ Below w.heap.size w w' := by
  by_cases hn : n ≤ 1048576
  · have hL : LibAt m w := ⟨hg, hm⟩
    clear hg hm
    have hB := Lib.hid hr.bytes
    have hC := Lib.hid hr.cap
    clear hr
    go_enter Try.func7, Try.ntmps7
    go_wp2_with fail
    refine (drawSolveHas a n c _ hB.out hn hC.out).mono ?_
    rintro e w1 ⟨s, t, x, rfl, hs, ht, hx, hb1⟩
    have HB1 := Lib.hid hb1
    have HL1 := Lib.hid (hL.below hb1)
    clear hb1
    go_wp2_with fail
    refine (implSolveHas s t x m _ (by omega) (by omega) HL1.out).mono ?_
    rintro e w2 ⟨rfl, hx2⟩
    have HB2 := Lib.hid (below_step HB1.out hx2)
    have HL2 := Lib.hid (HL1.out.below hx2)
    clear hx2
    go_wp2_with fail
    refine (specSolveHas s t x _ (by omega) (by omega)).mono ?_
    rintro e w3 ⟨rfl, hx3⟩
    have HB3 := Lib.hid (below_step HB2.out hx3)
    have HL3 := Lib.hid (HL2.out.below hx3)
    clear hx3
    go_wp2_with fail
    refine (implLeast s t m _ (by omega) (by omega) HL3.out).mono ?_
    rintro e w4 ⟨⟨T, p, rfl, hm4⟩, hx4⟩
    have HB4 := Lib.hid (below_step HB3.out hx4)
    have HL4 := Lib.hid (HL3.out.below hx4)
    have HT := Lib.hid hm4
    have hTs := makeIs_sizeI hm4
    clear hm4
    clear hx4
    cases p
    · cases hasW s t x
      all_goals
        go_wp2
        go_ret
        exact ⟨ret_bool (by simp), HB4.out⟩
    · by_cases hbig : 500 < x
      · cases hasW s t x
        all_goals
          go_wp2
          go_ret
          exact ⟨ret_bool (by simp), HB4.out⟩
      · by_cases hneg : x < 0
        · cases hasW s t x
          all_goals
            go_wp2
            go_ret
            exact ⟨ret_bool (by simp), HB4.out⟩
        · obtain ⟨k, rfl⟩ := Int.eq_ofNat_of_zero_le (show 0 ≤ x by omega)
          obtain ⟨_, h1, h2, hT, hTf, _⟩ := least_told HT.out
          have e0 := ask_set hT k m
          rw [show fS T k = hasW s t k by rw [hTf]; exact (hasW_nat h1 h2 (by omega)).symm] at e0
          clear h1 h2 hT hTf
          obtain ⟨b, hb⟩ : ∃ b, hasW s t k = b := ⟨_, rfl⟩
          rw [hb] at e0
          rw [hb]
          clear hb
          cases b
          · go_wp2_with fail
            refine (e0 _ hTs (by omega) HL4.out).mono ?_
            rintro e w5 ⟨rfl, hx5⟩
            have HB5 := Lib.hid (below_step HB4.out hx5)
            have HL5 := Lib.hid (HL4.out.below hx5)
            clear hx5
            go_wp2
            go_ret
            exact ⟨ret_bool (by simp), HB5.out⟩
          · go_wp2_with fail
            refine (e0 _ hTs (by omega) HL4.out).mono ?_
            rintro e w5 ⟨rfl, hx5⟩
            have HB5 := Lib.hid (below_step HB4.out hx5)
            have HL5 := Lib.hid (HL4.out.below hx5)
            clear hx5
            go_wp2
            go_ret
            exact ⟨ret_bool (by simp), HB5.out⟩
  · have hd : (1048576 : Int) < (n : Int) := by omega
    go_enter Try.func7, Try.ntmps7
    go_wp2
    go_ret
    exact ⟨rfl, Below.refl _ _⟩

end Go.Proofs.Ytiphooodijbhiab
