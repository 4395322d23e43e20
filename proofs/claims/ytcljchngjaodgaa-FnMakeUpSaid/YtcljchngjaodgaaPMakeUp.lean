/-
  The walk of the law FnMakeUp.
-/
import Derived.Test.YtcljchngjaodgaaPMakeBase
import Derived.Test.YtcljchngjaodgaaSpecUp
import Derived.Test.YtcljchngjaodgaaMakeUpI
import Derived.Test.YtcljchngjaodgaaMakeDownI
import Derived.Test.YtcljchngjaodgaaSameI
namespace Go.Proofs.Ytcljchngjaodgaa
open Go.RowKit

theorem up_down {s T V : ByteArray} {k : Nat} (hF : fS T = upF (fS s) k) (hO : okS T = true) (hk : k ≤ 1000) (hV : TidyText (fS s) V) :
    MakeIs (okS T && inR (k : Int) 0 1000) (downF (fS T) (k : Int).toNat) V true := by
  have e : downF (fS T) (k : Int).toNat = fS s := by
    rw [Int.toNat_natCast, hF]
    funext n
    unfold downF upF
    rw [decide_eq_true (by omega), Bool.true_and, show n + k - k = n from by omega]
  have e2 : inR (k : Int) 0 1000 = true := by unfold inR; rw [decide_eq_true (by omega), decide_eq_true (by omega)]; rfl
  rw [e, e2, hO]
  exact ⟨fun _ => .inl ⟨rfl, hV⟩, fun h => by cases h⟩

set_option maxRecDepth 100000 in
set_option maxHeartbeats 4000000 in
theorem pMakeUp (a : Option Addr) (n c : Nat) (zs : List Int) (w : World) (hr : IsRow .u8 w a n c zs) (m : Int) (hg : 0 < w.heap.size) (hm : w.cell? ⟨0, 0, none⟩ = some (.int .i64 m)) :
    Calls Try.prog 7 #[.slice a n c] w fun e w' => e = .returned (.bool true) ∧ Below w.heap.size w w' := by
  by_cases hn : n ≤ 1048576
  · have hL : LibAt m w := ⟨hg, hm⟩
    clear hg hm
    have hB := Lib.hid hr.bytes
    have hC := Lib.hid hr.cap
    clear hr
    go_enter Try.func7, Try.ntmps7
    go_wp2_with fail
    refine (drawMakeUp a n c _ hB.out hn hC.out).mono ?_
    rintro e w1 ⟨s, x, rfl, hs, hx, hb1⟩
    have HB1 := Lib.hid hb1
    have HL1 := Lib.hid (hL.below hb1)
    clear hb1
    go_wp2_with fail
    refine (implUp s x m _ (by omega) HL1.out).mono ?_
    rintro e w2 ⟨⟨T, b, rfl, hm2⟩, hx2⟩
    have HB2 := Lib.hid (below_step HB1.out hx2)
    have HL2 := Lib.hid (HL1.out.below hx2)
    have HM := Lib.hid hm2
    clear hx2 hm2
    go_wp2_with fail
    refine (specUp s x _ (by omega)).mono ?_
    rintro e w3 ⟨⟨U, c, rfl, hm3⟩, hx3⟩
    have HB3 := Lib.hid (below_step HB2.out hx3)
    have HL3 := Lib.hid (HL2.out.below hx3)
    obtain ⟨rfl, rfl⟩ := makeIs_unique HM.out hm3
    clear hx3 hm3
    cases b
    · go_wp2
      go_ret
      exact ⟨ret_bool (by simp), HB3.out⟩
    · obtain ⟨hok, hT⟩ := makeIs_true HM.out
      have HT := Lib.hid hT
      have HO := Lib.hid hT.told.ok
      have HF := Lib.hid hT.told.set
      have hTs := told_size hT.told.ok
      obtain ⟨hoks, hk⟩ := and_both hok
      clear hok
      rcases inR_cases x 0 60 with ⟨_, k1, k2⟩ | ⟨h2, _⟩
      rotate_left
      · rw [h2] at hk; cases hk
      obtain ⟨k, rfl⟩ := Int.eq_ofNat_of_zero_le k1
      rw [Int.toNat_natCast] at HF HT
      obtain ⟨V, hV⟩ := tidyText_there hoks
      have HV := Lib.hid hV
      have HD : Hid (MakeIs (okS T && inR (k : Int) 0 1000) (downF (fS T) (k : Int).toNat) V true) := Lib.hid (up_down HF.out HO.out (by omega) hV)
      have hVs := told_size hV.told.ok
      clear hV
      clear HM hT hk
      go_wp2
      go_loopw [10] (fun i wr => ∃ z : Nat, i = .int .i64 z ∧ z ≤ 151 ∧ Below w.heap.size w wr ∧ LibAt m wr) (fun i _ => 152 - (intOf i).toNat)
      case atStart => exact ⟨0, rfl, by omega, HB3.out, HL3.out⟩
      case round =>
        obtain ⟨z, rfl, hz, hbz, hLz⟩ := hrel
        have HB0 := Lib.hid hbz
        have HL0 := Lib.hid hLz
        clear hbz hLz
        by_cases hlt : z ≤ 150
        · by_cases hzk : k ≤ z
          · obtain ⟨j, rfl⟩ : ∃ j, z = k + j := ⟨z - k, by omega⟩
            have hji : ((k + j : Nat) : Int) - (k : Int) = (j : Int) := by omega
            have hji2 : (k : Int) + (j : Int) - (k : Int) = (j : Int) := by omega
            have hle : (k : Int) ≤ (k : Int) + (j : Int) := by omega
            have eX : setHas T ((k : Int) + (j : Int)) = fS s j := by
              have := setHas_nat HO.out (k + j)
              rw [HF.out] at this
              refine Eq.trans this ?_
              unfold upF
              rw [decide_eq_true (by omega), Bool.true_and, show k + j - k = j from by omega]
            have e1 : setHas s (j : Int) = fS s j := setHas_nat hoks j
            cases h5 : fS s j
            · rw [h5] at eX
              rw [h5] at e1
              go_wp2_with fail
              refine (implSetHas T ((k : Int) + (j : Int)) m _ (by omega) (by omega) HL0.out).mono ?_
              rintro e w1 ⟨rfl, hx1⟩
              have HB1 := Lib.hid (below_step HB0.out hx1)
              have HL1 := Lib.hid (HL0.out.below hx1)
              clear hx1
              go_wp2_with fail
              refine (implSetHas s j m _ (by omega) (by omega) HL1.out).mono ?_
              rintro e w2 ⟨rfl, hx2⟩
              have HB2 := Lib.hid (below_step HB1.out hx2)
              have HL2 := Lib.hid (HL1.out.below hx2)
              clear hx2
              go_wp2
              go_roundw
              case rel => exact ⟨k + j + 1, by go_num, by omega, HB2.out, HL2.out⟩
              case measure => simp [intOf]; omega
            · rw [h5] at eX
              rw [h5] at e1
              go_wp2_with fail
              refine (implSetHas T ((k : Int) + (j : Int)) m _ (by omega) (by omega) HL0.out).mono ?_
              rintro e w1 ⟨rfl, hx1⟩
              have HB1 := Lib.hid (below_step HB0.out hx1)
              have HL1 := Lib.hid (HL0.out.below hx1)
              clear hx1
              go_wp2_with fail
              refine (implSetHas s j m _ (by omega) (by omega) HL1.out).mono ?_
              rintro e w2 ⟨rfl, hx2⟩
              have HB2 := Lib.hid (below_step HB1.out hx2)
              have HL2 := Lib.hid (HL1.out.below hx2)
              clear hx2
              go_wp2
              go_roundw
              case rel => exact ⟨k + j + 1, by go_num, by omega, HB2.out, HL2.out⟩
              case measure => simp [intOf]; omega
          · have hlt2 : (z : Int) < (k : Int) := by omega
            have eX : setHas T (z : Int) = false := by
              rw [setHas_nat HO.out, HF.out]
              unfold upF
              rw [decide_eq_false (by omega), Bool.false_and]
            go_wp2_with fail
            refine (implSetHas T z m _ (by omega) (by omega) HL0.out).mono ?_
            rintro e w1 ⟨rfl, hx1⟩
            have HB1 := Lib.hid (below_step HB0.out hx1)
            have HL1 := Lib.hid (HL0.out.below hx1)
            clear hx1
            go_wp2
            go_roundw
            case rel => exact ⟨z + 1, by go_num, by omega, HB1.out, HL1.out⟩
            case measure => simp [intOf]; omega
        · obtain rfl : z = 151 := by omega
          go_wp2_with fail
          refine (implDown T k m _ hTs HL0.out).mono ?_
          rintro e w1 ⟨⟨W, c, rfl, hm1⟩, hx1⟩
          have HB1 := Lib.hid (below_step HB0.out hx1)
          have HL1 := Lib.hid (HL0.out.below hx1)
          obtain ⟨rfl, rfl⟩ := makeIs_unique HD.out hm1
          clear hx1 hm1
          go_wp2_with fail
          refine (implSame_on V s m _ hVs (by omega) HL1.out HV.out.told.ok hoks).mono ?_
          rintro e w2 ⟨rfl, hx2⟩
          have HB2 := Lib.hid (below_step HB1.out hx2)
          have HL2 := Lib.hid (HL1.out.below hx2)
          clear hx2
          go_wp2
          go_ret
          exact ⟨ret_bool (agree_eq HV.out.told.set), HB2.out⟩
  · have hd : (1048576 : Int) < (n : Int) := by omega
    go_enter Try.func7, Try.ntmps7
    go_wp2
    go_ret
    exact ⟨rfl, Below.refl _ _⟩
end Go.Proofs.Ytcljchngjaodgaa
