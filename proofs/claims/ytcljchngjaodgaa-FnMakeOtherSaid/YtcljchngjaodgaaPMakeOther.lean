/-
  The walk of the law FnMakeOther.
-/
import Derived.Test.YtcljchngjaodgaaPMakeBase
import Derived.Test.YtcljchngjaodgaaSpecTwo
import Derived.Test.YtcljchngjaodgaaMakeTwoI
namespace Go.Proofs.Ytcljchngjaodgaa
open Go.RowKit

set_option maxRecDepth 100000 in
set_option maxHeartbeats 4000000 in
theorem pMakeOther (a : Option Addr) (n c : Nat) (zs : List Int) (w : World) (hr : IsRow .u8 w a n c zs) (m : Int) (hg : 0 < w.heap.size) (hm : w.cell? ⟨0, 0, none⟩ = some (.int .i64 m)) :
    Calls Try.prog 6 #[.slice a n c] w fun e w' => e = .returned (.bool true) ∧ Below w.heap.size w w' := by
  by_cases hn : n ≤ 1048576
  · have hL : LibAt m w := ⟨hg, hm⟩
    clear hg hm
    have hB := Lib.hid hr.bytes
    have hC := Lib.hid hr.cap
    clear hr
    go_enter Try.func6, Try.ntmps6
    go_wp2_with fail
    refine (drawMakeOther a n c _ hB.out hn hC.out).mono ?_
    rintro e w1 ⟨s, rfl, hs, hb1⟩
    have HB1 := Lib.hid hb1
    have HL1 := Lib.hid (hL.below hb1)
    clear hb1
    go_wp2_with fail
    refine (implOther s m _ (by omega) HL1.out).mono ?_
    rintro e w2 ⟨⟨T, b, rfl, hm2⟩, hx2⟩
    have HB2 := Lib.hid (below_step HB1.out hx2)
    have HL2 := Lib.hid (HL1.out.below hx2)
    have HM := Lib.hid hm2
    clear hx2 hm2
    go_wp2_with fail
    refine (specOther s _ (by omega)).mono ?_
    rintro e w3 ⟨⟨U, c, rfl, hm3⟩, hx3⟩
    have HB3 := Lib.hid (below_step HB2.out hx3)
    have HL3 := Lib.hid (HL2.out.below hx3)
    obtain ⟨rfl, rfl⟩ := makeIs_unique HM.out hm3
    clear hx3 hm3
    cases b
    · go_wp2
      go_ret
      exact ⟨ret_bool (by simp), HB3.out⟩
    · obtain ⟨hok, hT⟩ := makeIs_true HM.out
      have HT := Lib.hid hT
      have HO := Lib.hid hT.told.ok
      have HF := Lib.hid hT.told.set
      have hTs := told_size hT.told.ok
      clear HM hT
      go_wp2
      go_loopw [9] (fun i wr => ∃ z : Nat, i = .int .i64 z ∧ z ≤ 151 ∧ Below w.heap.size w wr ∧ LibAt m wr) (fun i _ => 152 - (intOf i).toNat)
      case atStart => exact ⟨0, rfl, by omega, HB3.out, HL3.out⟩
      case round =>
        obtain ⟨z, rfl, hz, hbz, hLz⟩ := hrel
        have HB0 := Lib.hid hbz
        have HL0 := Lib.hid hLz
        clear hbz hLz
        by_cases hlt : z ≤ 150
        · have eX : setHas T (z : Int) = (!fS s z) := by rw [setHas_nat HO.out, HF.out]
          have e1 : setHas s (z : Int) = fS s z := setHas_nat hok z
          cases h1 : fS s z
          · rw [h1] at eX
            rw [h1] at e1
            replace eX : setHas T (z : Int) = true := eX
            go_wp2_with fail
            refine (implSetHas T z m _ (by omega) (by omega) HL0.out).mono ?_
            rintro e w1 ⟨rfl, hx1⟩
            have HB1 := Lib.hid (below_step HB0.out hx1)
            have HL1 := Lib.hid (HL0.out.below hx1)
            clear hx1
            go_wp2_with fail
            refine (implSetHas s z m _ (by omega) (by omega) HL1.out).mono ?_
            rintro e w2 ⟨rfl, hx2⟩
            have HB2 := Lib.hid (below_step HB1.out hx2)
            have HL2 := Lib.hid (HL1.out.below hx2)
            clear hx2
            go_wp2
            go_roundw
            case rel => exact ⟨z + 1, by go_num, by omega, HB2.out, HL2.out⟩
            case measure => simp [intOf]; omega
          · rw [h1] at eX
            rw [h1] at e1
            replace eX : setHas T (z : Int) = false := eX
            go_wp2_with fail
            refine (implSetHas T z m _ (by omega) (by omega) HL0.out).mono ?_
            rintro e w1 ⟨rfl, hx1⟩
            have HB1 := Lib.hid (below_step HB0.out hx1)
            have HL1 := Lib.hid (HL0.out.below hx1)
            clear hx1
            go_wp2_with fail
            refine (implSetHas s z m _ (by omega) (by omega) HL1.out).mono ?_
            rintro e w2 ⟨rfl, hx2⟩
            have HB2 := Lib.hid (below_step HB1.out hx2)
            have HL2 := Lib.hid (HL1.out.below hx2)
            clear hx2
            go_wp2
            go_roundw
            case rel => exact ⟨z + 1, by go_num, by omega, HB2.out, HL2.out⟩
            case measure => simp [intOf]; omega
        · obtain rfl : z = 151 := by omega
          go_wp2_with fail
          refine (implTidy T T m _ hTs HL0.out (tidy_self HT.out)).mono ?_
          rintro e w1 ⟨rfl, hx1⟩
          have HB1 := Lib.hid (below_step HB0.out hx1)
          have HL1 := Lib.hid (HL0.out.below hx1)
          clear hx1
          have eO := HO.out
          go_wp2
          go_ret
          exact ⟨ret_bool (by simp), HB1.out⟩
  · have hd : (1048576 : Int) < (n : Int) := by omega
    go_enter Try.func6, Try.ntmps6
    go_wp2
    go_ret
    exact ⟨rfl, Below.refl _ _⟩
end Go.Proofs.Ytcljchngjaodgaa
