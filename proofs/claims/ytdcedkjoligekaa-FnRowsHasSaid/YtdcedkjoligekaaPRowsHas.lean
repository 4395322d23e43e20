/-
  The walk of the law on RowsHas: each row counts once.
-/
import Derived.Test.YtdcedkjoligekaaDrawRowsHas
import Derived.Test.YtdcedkjoligekaaRowsHasS
import Derived.Test.YtdcedkjoligekaaInRow
import Derived.Test.YtdcedkjoligekaaRowBytes
namespace Go.Proofs.Ytdcedkjoligekaa
open Go.RowKit
set_option linter.unusedVariables false

set_option maxRecDepth 100000 in
set_option maxHeartbeats 4000000 in
theorem pRowsHas (a : Option Addr) (n c : Nat) (zs : List Int) (w : World) (hr : IsRow .u8 w a n c zs) :
    Calls Try.prog 6 #[.slice a n c] w fun e w' => e = .returned (.bool true) ∧ Below w.heap.size w w' := by
  by_cases hn : n ≤ 1048576
  · have HD := Lib.hid (drawRowsHas a n c w hr.bytes hn hr.cap)
    clear hr
    go_enter Try.func6, Try.ntmps6
    go_wp2_with fail
    refine HD.out.mono ?_
    rintro e w1 ⟨a1, m, c1, rs, x, rfl, hxr, hr1, hm, hsh, hsm, hb1⟩
    have R1 := Lib.hid hr1
    have B1 := Lib.hid hb1
    have hm2 : m ≤ 1048576 := by omega
    have HI := Lib.hid (fun w h => implRowsHas a1 m c1 rs x w h hm2 hsh)
    have HJ := Lib.hid (fun w h => specRowsHas a1 m c1 rs x w h hm2 hsh)
    obtain ⟨X, hX⟩ : ∃ X, X = hasMany rs x := ⟨_, rfl⟩
    obtain ⟨ok, hok⟩ : ∃ ok, ok = hasOk rs x := ⟨_, rfl⟩
    rw [← hX, ← hok] at HI HJ
    have HX := Lib.hid hX
    have HOK := Lib.hid hok
    clear hsh hsm hr1 hb1 hX hok
    go_wp2_with fail
    refine (HI.out _ R1.out).mono ?_
    rintro e w2 ⟨rfl, hb2⟩
    have B2 := Lib.hid (B1.out.trans (hb2.mono B1.out.size))
    have R2 := Lib.hid (R1.out.below hb2 (Nat.le_refl _))
    clear hb2
    go_wp2_with fail
    refine (HJ.out _ R2.out).mono ?_
    rintro e w3 ⟨rfl, hb3⟩
    have B3 := Lib.hid (B2.out.trans (hb3.mono B2.out.size))
    have R3 := Lib.hid (R2.out.below hb3 (Nat.le_refl _))
    clear hb3 R2 R1 B1 B2 HI HJ
    cases ok
    · clear HX HOK
      go_wp2
      go_ret
      exact ⟨rfl, B3.out⟩
    · have ho := HOK.out.symm
      have ho2 := ho
      unfold hasOk at ho2
      simp only [Bool.and_eq_true, decide_eq_true_eq] at ho2
      obtain ⟨hg, hx0, hx1⟩ := ho2
      obtain ⟨y, rfl⟩ := Int.eq_ofNat_of_zero_le hx0
      have HXC : Hid (X = cnt (theRows rs) y) := Lib.hid (by rw [HX.out]; unfold hasMany; rw [ho, if_pos rfl]; rfl)
      have HG := Lib.hid hg
      have hlen : (theRows rs).length = m := by unfold theRows; rw [List.length_map]; exact R3.out.len
      have HLEN := Lib.hid hlen
      clear ho hg HX HOK hlen
      go_wp2
      go_loopw [10, 11] (fun u i wr => ∃ k : Nat, k ≤ m ∧ i = .int .i64 k ∧ u = .int .i64 (cnt ((theRows rs).take k) y : Nat) ∧ Below w3.heap.size w3 wr) (fun _ i _ => m - (intOf i).toNat)
      case atStart => exact ⟨0, Nat.zero_le _, rfl, rfl, Below.refl _ _⟩
      case round =>
        obtain ⟨k, hk, rfl, rfl, hB⟩ := hrel
        have HB := Lib.hid hB
        by_cases hlt : k < m
        · obtain ⟨g, o, g', o', c', b, s, rfl, hg1, hg2, q0, q1, q2, hrow, hb59, hs60⟩ := (R3.out.below hB (Nat.le_refl _)).rw HG.out hlt
          have HT := cnt_step (theRows rs) y k (by have := HLEN.out; omega)
          rw [hrow] at HT
          obtain ⟨d, hd⟩ : ∃ d, d = cnt ((theRows rs).take k) y := ⟨_, rfl⟩
          have hd20 : d ≤ 20 := by rw [hd]; exact Nat.le_trans (cnt_le _ _) (by rw [List.length_take]; have := HLEN.out; omega)
          rw [← hd] at HT ⊢
          have f1 : (k : Int) < (m : Int) := by omega
          have f2 : (0 : Int) ≤ (k : Int) := by omega
          have HI : Hid (IsRw wr (some ⟨g', o', none⟩) ⟨b, s⟩) := Lib.hid ⟨rfl, .inr ⟨g', o', rfl, hg2, fun i hi => by
            match i, hi with
            | 0, _ => exact q1
            | 1, _ => exact q2⟩⟩
          clear hB hd hrow
          cases hh : (Rw.mk b s).has y
          · rw [hh] at HT
            have HT2 := Lib.hid HT
            have HH := Lib.hid hh
            clear hh HT
            go_wp2_with fail
            refine (inRow_is _ c' ⟨b, s⟩ y _ HI.out (by show b ≤ 1000000; omega) (by show s ≤ 1000000; omega) (by omega)).mono ?_
            rintro e w4 ⟨rfl, hb4⟩
            rw [HH.out]
            have HB4 := Lib.hid (HB.out.trans (hb4.mono HB.out.size))
            clear hb4
            go_wp2
            go_roundw
            case rel => exact ⟨k + 1, by omega, by go_num, by rw [HT2.out]; rfl, HB4.out⟩
            case measure => simp [intOf]; omega
          · rw [hh] at HT
            have HT2 := Lib.hid HT
            have HH := Lib.hid hh
            clear hh HT
            go_wp2_with fail
            refine (inRow_is _ c' ⟨b, s⟩ y _ HI.out (by show b ≤ 1000000; omega) (by show s ≤ 1000000; omega) (by omega)).mono ?_
            rintro e w4 ⟨rfl, hb4⟩
            rw [HH.out]
            have HB4 := Lib.hid (HB.out.trans (hb4.mono HB.out.size))
            clear hb4
            go_wp2
            go_roundw
            case rel => exact ⟨k + 1, by omega, by go_num, by rw [HT2.out]; rfl, HB4.out⟩
            case measure => simp [intOf]; omega
        · obtain rfl : k = m := by omega
          have e : (theRows rs).take k = theRows rs := List.take_of_length_le (by have := HLEN.out; omega)
          have HE := Lib.hid e
          clear e hB
          rw [HE.out, ← HXC.out]
          go_wp2
          go_ret
          exact ⟨by first | rfl | simp, B3.out.trans (HB.out.mono B3.out.size)⟩
  · have hd : (1048576 : Int) < (n : Int) := by omega
    clear hr
    go_enter Try.func6, Try.ntmps6
    go_wp2
    go_ret
    exact ⟨rfl, Below.refl _ _⟩
end Go.Proofs.Ytdcedkjoligekaa
