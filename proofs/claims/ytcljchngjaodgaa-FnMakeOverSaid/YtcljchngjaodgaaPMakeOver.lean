/-
  The walk of the law FnMakeOver.
-/
import Derived.Test.YtcljchngjaodgaaPMakeBase
import Derived.Test.YtcljchngjaodgaaSpecOver
import Derived.Test.YtcljchngjaodgaaMakeOverI
namespace Go.Proofs.Ytcljchngjaodgaa
open Go.RowKit

set_option maxRecDepth 100000 in
set_option maxHeartbeats 4000000 in
theorem pMakeOver (a : Option Addr) (n c : Nat) (zs : List Int) (w : World) (hr : IsRow .u8 w a n c zs) (m : Int) (hg : 0 < w.heap.size) (hm : w.cell? ⟨0, 0, none⟩ = some (.int .i64 m)) :
    Calls Try.prog 11 #[.slice a n c] w fun e w' => e = .returned (.bool true) ∧ Below w.heap.size w w' := by
  by_cases hn : n ≤ 1048576
  · have hL : LibAt m w := ⟨hg, hm⟩
    clear hg hm
    have hB := Lib.hid hr.bytes
    have hC := Lib.hid hr.cap
    clear hr
    go_enter Try.func11, Try.ntmps11
    go_wp2_with fail
    refine (drawMakeOver a n c _ hB.out hn hC.out).mono ?_
    rintro e w1 ⟨s, x, rfl, hs, hx, hb1⟩
    have HB1 := Lib.hid hb1
    have HL1 := Lib.hid (hL.below hb1)
    clear hb1
    go_wp2_with fail
    refine (implOver s x m _ (by omega) HL1.out).mono ?_
    rintro e w2 ⟨⟨T, b, rfl, hm2⟩, hx2⟩
    have HB2 := Lib.hid (below_step HB1.out hx2)
    have HL2 := Lib.hid (HL1.out.below hx2)
    have HM := Lib.hid hm2
    clear hx2 hm2
    go_wp2_with fail
    refine (specOver s x _ (by omega)).mono ?_
    rintro e w3 ⟨⟨U, c, rfl, hm3⟩, hx3⟩
    have HB3 := Lib.hid (below_step HB2.out hx3)
    have HL3 := Lib.hid (HL2.out.below hx3)
    obtain ⟨rfl, rfl⟩ := makeIs_unique HM.out hm3
    clear hx3 hm3
    cases b
    · go_wp2
      go_ret
      exact ⟨ret_bool (by simp), HB3.out⟩
    · obtain ⟨hok, hT⟩ := makeIs_true HM.out
      have HT := Lib.hid hT
      have HO := Lib.hid hT.told.ok
      have HF := Lib.hid hT.told.set
      have hTs := told_size hT.told.ok
      obtain ⟨hoks, hk⟩ := and_both hok
      clear hok
      rcases inR_cases x 1 20 with ⟨_, k1, k2⟩ | ⟨h2, _⟩
      rotate_left
      · rw [h2] at hk; cases hk
      obtain ⟨k, rfl⟩ := Int.eq_ofNat_of_zero_le (show 0 ≤ x by omega)
      rw [Int.toNat_natCast] at HF HT
      clear HM hT hk
      go_wp2
      go_loopw [10] (fun i wr => ∃ z : Nat, i = .int .i64 z ∧ z ≤ 61 ∧ Below w.heap.size w wr ∧ LibAt m wr) (fun i _ => 62 - (intOf i).toNat)
      case atStart => exact ⟨0, rfl, by omega, HB3.out, HL3.out⟩
      case round =>
        obtain ⟨z, rfl, hz, hbz, hLz⟩ := hrel
        have HB0 := Lib.hid hbz
        have HL0 := Lib.hid hLz
        clear hbz hLz
        by_cases hlt : z ≤ 60
        · have hm1 : k * z ≤ 20 * 60 := Nat.mul_le_mul (by omega) hlt
          obtain ⟨v, hv⟩ : ∃ v, v = k * z := ⟨_, rfl⟩
          have hvi : (k : Int) * (z : Int) = (v : Int) := by rw [hv, Int.natCast_mul]
          rw [← hv] at hm1
          have HVV := Lib.hid hv
          clear hv
          go_wp2
          rw [show decide ((z : Int) ≤ 60) = true from decide_eq_true (by omega)]
          go_loopw [11, 12] (fun b i wr => ∃ j : Nat, j ≤ k ∧ b = .bool (someF (fS s) v j) ∧ i = .int .i64 j ∧ Below w.heap.size w wr ∧ LibAt m wr) (fun _ i _ => k - (intOf i).toNat)
          case atStart => exact ⟨0, Nat.zero_le _, rfl, rfl, HB0.out, HL0.out⟩
          case round =>
            obtain ⟨j, hj, rfl, rfl, hbj, hLj⟩ := hrel
            have HB0 := Lib.hid hbj
            have HL0 := Lib.hid hLj
            clear hbj hLj
            by_cases hjk : j < k
            · have hji : (j : Int) < (k : Int) := by omega
              have e1 : setHas s ((v : Int) + (j : Int)) = fS s (v + j) := setHas_nat hoks (v + j)
              cases h6 : someF (fS s) v j
              · cases h7 : fS s (v + j)
                · rw [h7] at e1
                  have H6 := Lib.hid h6
                  have H7 := Lib.hid h7
                  clear h6 h7
                  go_wp2_with fail
                  refine (implSetHas s ((v : Int) + (j : Int)) m _ (by omega) (by omega) HL0.out).mono ?_
                  rintro e w1 ⟨rfl, hx1⟩
                  have HB1 := Lib.hid (below_step HB0.out hx1)
                  have HL1 := Lib.hid (HL0.out.below hx1)
                  clear hx1
                  go_wp2
                  go_roundw
                  case rel => exact ⟨j + 1, by omega, by unfold someF; rw [H6.out, H7.out]; rfl, by go_num, HB1.out, HL1.out⟩
                  case measure => simp [intOf]; omega
                · rw [h7] at e1
                  have H6 := Lib.hid h6
                  have H7 := Lib.hid h7
                  clear h6 h7
                  go_wp2_with fail
                  refine (implSetHas s ((v : Int) + (j : Int)) m _ (by omega) (by omega) HL0.out).mono ?_
                  rintro e w1 ⟨rfl, hx1⟩
                  have HB1 := Lib.hid (below_step HB0.out hx1)
                  have HL1 := Lib.hid (HL0.out.below hx1)
                  clear hx1
                  go_wp2
                  go_roundw
                  case rel => exact ⟨j + 1, by omega, by unfold someF; rw [H6.out, H7.out]; rfl, by go_num, HB1.out, HL1.out⟩
                  case measure => simp [intOf]; omega
              · have H6 := Lib.hid h6
                clear h6
                go_wp2
                go_roundw
                case rel => exact ⟨j + 1, by omega, by unfold someF; rw [H6.out]; rfl, by go_num, HB0.out, HL0.out⟩
                case measure => simp [intOf]; omega
            · obtain rfl : j = k := by omega
              have hji : ¬ (j : Int) < (j : Int) := by omega
              have eX : setHas T (z : Int) = someF (fS s) v j := by rw [setHas_nat HO.out, HF.out]; unfold overF; rw [← HVV.out]
              cases h6 : someF (fS s) v j
              · rw [h6] at eX
                go_wp2_with fail
                refine (implSetHas T z m _ (by omega) (by omega) HL0.out).mono ?_
                rintro e w1 ⟨rfl, hx1⟩
                have HB1 := Lib.hid (below_step HB0.out hx1)
                have HL1 := Lib.hid (HL0.out.below hx1)
                clear hx1
                go_wp2
                go_roundw
                case rel => exact ⟨z + 1, by go_num, by omega, HB1.out, HL1.out⟩
                case measure => simp [intOf]; omega
              · rw [h6] at eX
                go_wp2_with fail
                refine (implSetHas T z m _ (by omega) (by omega) HL0.out).mono ?_
                rintro e w1 ⟨rfl, hx1⟩
                have HB1 := Lib.hid (below_step HB0.out hx1)
                have HL1 := Lib.hid (HL0.out.below hx1)
                clear hx1
                go_wp2
                go_roundw
                case rel => exact ⟨z + 1, by go_num, by omega, HB1.out, HL1.out⟩
                case measure => simp [intOf]; omega
        · obtain rfl : z = 61 := by omega
          go_wp2
          go_ret
          exact ⟨rfl, HB0.out⟩
  · have hd : (1048576 : Int) < (n : Int) := by omega
    go_enter Try.func11, Try.ntmps11
    go_wp2
    go_ret
    exact ⟨rfl, Below.refl _ _⟩
end Go.Proofs.Ytcljchngjaodgaa
