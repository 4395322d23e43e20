/-
  The walk of the law on RowsShare: shares are in lowest terms.
-/
import Derived.Test.YtdcedkjoligekaaDrawRowsShare
import Derived.Test.YtdcedkjoligekaaShareS
import Derived.Test.YtdcedkjoligekaaShareI
import Derived.Test.YtdcedkjoligekaaCoverRows
import Derived.Test.YtdcedkjoligekaaRowBytes
namespace Go.Proofs.Ytdcedkjoligekaa
open Go.RowKit
set_option linter.unusedVariables false

theorem share_lowest {rs : List (List Int)} (hb : shareB rs = true) : Nat.gcd (shareX rs) (shareY rs) = 1 := by
  unfold shareX shareY
  rw [hb, if_pos rfl, if_pos rfl]
  exact Nat.coprime_div_gcd_div_gcd (shareG_pos _)
theorem share_bounds {rs : List (List Int)} (hb : shareB rs = true) : 1 ≤ shareY rs ∧ shareY rs ≤ 1000000 ∧ shareX rs ≤ 20000000 ∧ (shareX rs = 0 → shareY rs = 1) := by
  have hb2 := hb
  unfold shareB at hb2
  simp only [Bool.and_eq_true, decide_eq_true_eq] at hb2
  have hl := (goodRows_fits hb2.1).1
  have hM := lcmAll_pos (theRows rs)
  have hT := sumOver_le (lcmAll (theRows rs)) (theRows rs)
  have hT2 : sumOver (lcmAll (theRows rs)) (theRows rs) ≤ 20 * 1000000 := Nat.le_trans hT (Nat.mul_le_mul hl hb2.2)
  have hd := shareG_pos (theRows rs)
  have hdM : shareG (theRows rs) ∣ lcmAll (theRows rs) := Nat.gcd_dvd_right _ _
  have hdT : shareG (theRows rs) ∣ sumOver (lcmAll (theRows rs)) (theRows rs) := Nat.gcd_dvd_left _ _
  unfold shareX shareY
  rw [hb, if_pos rfl, if_pos rfl]
  refine ⟨Nat.div_pos (Nat.le_of_dvd hM hdM) hd, Nat.le_trans (Nat.div_le_self _ _) hb2.2, Nat.le_trans (Nat.div_le_self _ _) (by omega), fun h0 => ?_⟩
  have hT0 : sumOver (lcmAll (theRows rs)) (theRows rs) = 0 := by
    obtain ⟨k, hk⟩ := hdT
    rw [hk, Nat.mul_div_cancel_left _ hd] at h0
    rw [hk, h0, Nat.mul_zero]
  have : shareG (theRows rs) = lcmAll (theRows rs) := by unfold shareG; rw [hT0, Nat.gcd_zero_left]
  rw [this, Nat.div_self hM]
theorem share_cover {rs : List (List Int)} (hb : shareB rs = true) (hc : CoverIs rs) : shareY rs ≤ shareX rs := by
  unfold shareX shareY
  rw [hb, if_pos rfl, if_pos rfl]
  have h := covers_share (going_ok (goodRows_fits hc.1).2) hc.2
  rw [lcmAll_going, sumOver_going] at h
  exact Nat.div_le_div_right h

set_option maxRecDepth 100000 in
set_option maxHeartbeats 4000000 in
theorem pRowsShare (a : Option Addr) (n c : Nat) (zs : List Int) (w : World) (hr : IsRow .u8 w a n c zs) :
    Calls Try.prog 10 #[.slice a n c] w fun e w' => e = .returned (.bool true) ∧ Below w.heap.size w w' := by
  by_cases hn : n ≤ 1048576
  · have HD := Lib.hid (drawRowsShare a n c w hr.bytes hn hr.cap)
    clear hr
    go_enter Try.func10, Try.ntmps10
    go_wp2_with fail
    refine HD.out.mono ?_
    rintro e w1 ⟨a1, m, c1, rs, rfl, hr1, hm, hsh, _, hb1⟩
    have R1 := Lib.hid hr1
    have B1 := Lib.hid hb1
    have hm2 : m ≤ 1048576 := by omega
    have HI := Lib.hid (fun w h => implShare a1 m c1 rs w h hm2 hsh)
    have HJ := Lib.hid (fun w h => specShare a1 m c1 rs w h hm2 hsh)
    have HK := Lib.hid (fun w h => implCover a1 m c1 rs w h hm2 hsh)
    unfold ShareOutI at HI
    unfold ShareOut at HJ
    have HL := Lib.hid (fun hb => share_lowest (rs := rs) hb)
    have HB := Lib.hid (fun hb => share_bounds (rs := rs) hb)
    have HC := Lib.hid (fun hb hc => share_cover (rs := rs) hb hc)
    obtain ⟨X, hX⟩ : ∃ X, X = shareX rs := ⟨_, rfl⟩
    obtain ⟨Y, hY⟩ : ∃ Y, Y = shareY rs := ⟨_, rfl⟩
    obtain ⟨ok, hok⟩ : ∃ ok, ok = shareB rs := ⟨_, rfl⟩
    rw [← hX, ← hY, ← hok] at HI HJ
    rw [← hX, ← hY, ← hok] at HL HB HC
    clear hsh hr1 hb1 hX hY hok
    go_wp2_with fail
    refine (HI.out _ R1.out).mono ?_
    rintro e w2 ⟨rfl, hb2⟩
    have B2 := Lib.hid (B1.out.trans (hb2.mono B1.out.size))
    have R2 := Lib.hid (R1.out.below hb2 (Nat.le_refl _))
    clear hb2
    go_wp2_with fail
    refine (HJ.out _ R2.out).mono ?_
    rintro e w3 ⟨rfl, hb3⟩
    have B3 := Lib.hid (B2.out.trans (hb3.mono B2.out.size))
    have R3 := Lib.hid (R2.out.below hb3 (Nat.le_refl _))
    clear hb3 R2 R1 B1 B2 HI HJ
    cases ok
    · clear HL HB HC
      go_wp2
      go_ret
      exact ⟨rfl, B3.out⟩
    · have hlow := Lib.hid (HL.out rfl)
      obtain ⟨hy1, hy2, hx2, hxy⟩ := HB.out rfl
      have hcov := Lib.hid (HC.out rfl)
      have HXY := Lib.hid hxy
      clear HL HB HC hxy
      go_wp2
      go_loopw [11] (fun i wr => ∃ k : Nat, k + 2 ≤ Y + 2 ∧ i = .int .i64 ((k + 2 : Nat) : Int) ∧ Below w3.heap.size w3 wr) (fun i _ => Y + 2 - (intOf i).toNat)
      case atStart => exact ⟨0, by omega, rfl, Below.refl _ _⟩
      case round =>
        obtain ⟨k, hk, rfl, hB⟩ := hrel
        have HBB := Lib.hid hB
        obtain ⟨d, hd⟩ : ∃ d, d = k + 2 := ⟨_, rfl⟩
        rw [← hd]
        have hd2 : 2 ≤ d := by omega
        have HDD := Lib.hid hd
        clear hB hd
        by_cases hlt : d ≤ Y
        · have f0 : (d : Int) ≠ 0 := by omega
          have f00 : ¬ d = 0 := by omega
          have f1 : (d : Int) ≤ (Y : Int) := by omega
          by_cases hxd : X % d = 0
          · have hyd : Y % d ≠ 0 := fun hyd => by
              have h := Nat.dvd_gcd (Nat.dvd_of_mod_eq_zero hxd) (Nat.dvd_of_mod_eq_zero hyd)
              rw [hlow.out] at h
              have := Nat.le_of_dvd (by decide) h
              omega
            have f2 : (X : Int) % (d : Int) = 0 := by rw [← Int.natCast_emod]; omega
            have f3 : ((Y : Int) % (d : Int) == 0) = false := by rw [beq_eq_false_iff_ne, ← Int.natCast_emod]; omega
            have f4 : (Y : Int) % (d : Int) ≠ 0 := by rw [← Int.natCast_emod]; omega
            clear hxd hyd
            go_wp2
            go_roundw
            case rel => exact ⟨k + 1, by have := HDD.out; omega, congrArg (Value.int .i64) (by have := HDD.out; omega), HBB.out⟩
            case measure => (have := HDD.out; simp [intOf]; omega)
          · have f2 : ((X : Int) % (d : Int) == 0) = false := by rw [beq_eq_false_iff_ne, ← Int.natCast_emod]; omega
            have f4 : (X : Int) % (d : Int) ≠ 0 := by rw [← Int.natCast_emod]; omega
            clear hxd
            go_wp2
            go_roundw
            case rel => exact ⟨k + 1, by have := HDD.out; omega, congrArg (Value.int .i64) (by have := HDD.out; omega), HBB.out⟩
            case measure => (have := HDD.out; simp [intOf]; omega)
        · have f1 : (Y : Int) < (d : Int) := by omega
          have f2 : (1 : Int) ≤ (Y : Int) := by omega
          have f3 : (0 : Int) ≤ (X : Int) := by omega
          have HKK := Lib.hid (HK.out _ (R3.out.below HBB.out (Nat.le_refl _)))
          have f4 : decide ((d : Int) ≤ (Y : Int)) = false := decide_eq_false (by omega)
          by_cases hX0 : 0 < X
          · have f5 : (0 : Int) < (X : Int) := by omega
            go_wp2_with fail
            refine HKK.out.mono ?_
            rintro e w5 ⟨b, rfl, hb, hb5⟩
            have B5 := Lib.hid (B3.out.trans ((HBB.out.trans (hb5.mono HBB.out.size)).mono B3.out.size))
            have HBC := Lib.hid hb
            clear hb hb5
            cases b
            · go_wp2
              go_ret
              exact ⟨rfl, B5.out⟩
            · have hle := hcov.out (HBC.out.1 rfl)
              have f6 : (Y : Int) ≤ (X : Int) := by omega
              clear HBC
              go_wp2
              go_ret
              exact ⟨rfl, B5.out⟩
          · have hX00 : X = 0 := by omega
            have hY1 := HXY.out hX00
            subst hX00
            subst hY1
            have f5 : decide ((0 : Int) < (((0 : Nat) : Nat) : Int)) = false := by decide
            go_wp2_with fail
            refine HKK.out.mono ?_
            rintro e w5 ⟨b, rfl, hb, hb5⟩
            have B5 := Lib.hid (B3.out.trans ((HBB.out.trans (hb5.mono HBB.out.size)).mono B3.out.size))
            cases b
            · clear hb hb5
              go_wp2
              go_ret
              exact ⟨rfl, B5.out⟩
            · have hle := hcov.out (hb.1 rfl)
              omega
  · have hd : (1048576 : Int) < (n : Int) := by omega
    clear hr
    go_enter Try.func10, Try.ntmps10
    go_wp2
    go_ret
    exact ⟨rfl, Below.refl _ _⟩
end Go.Proofs.Ytdcedkjoligekaa
