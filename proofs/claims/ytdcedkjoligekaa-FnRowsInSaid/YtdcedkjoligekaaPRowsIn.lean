/-
  The walk of the law on RowsIn.
-/
import Derived.Test.YtdcedkjoligekaaDrawRowsIn
import Derived.Test.YtdcedkjoligekaaRowsHasS
import Derived.Test.YtdcedkjoligekaaRowBytes
namespace Go.Proofs.Ytdcedkjoligekaa
open Go.RowKit
set_option linter.unusedVariables false

theorem hasOk_five (rs : List (List Int)) : hasOk rs 5 = goodRows rs := by unfold hasOk; simp

set_option maxRecDepth 100000 in
set_option maxHeartbeats 1000000 in
theorem pRowsIn (a : Option Addr) (n c : Nat) (zs : List Int) (w : World) (hr : IsRow .u8 w a n c zs) :
    Calls Try.prog 3 #[.slice a n c] w fun e w' => e = .returned (.bool true) ∧ Below w.heap.size w w' := by
  by_cases hn : n ≤ 1048576
  · have HD := Lib.hid (drawRowsIn a n c w hr.bytes hn hr.cap)
    clear hr
    go_enter Try.func3, Try.ntmps3
    go_wp2_with fail
    refine HD.out.mono ?_
    rintro e w1 ⟨a1, m, c1, rs, rfl, hr1, hm, hsh, _, hb1⟩
    have HS := Lib.hid hsh
    have R1 := Lib.hid hr1
    have B1 := Lib.hid hb1
    have hm2 : m ≤ 1048576 := by omega
    obtain ⟨b, hb⟩ : ∃ b, b = goodRows rs := ⟨_, rfl⟩
    have HI := Lib.hid (fun w h => implRowsIn a1 m c1 rs w h hm2 hsh)
    have HJ := Lib.hid (fun w h => specRowsIn a1 m c1 rs w h hm2 hsh)
    have HK := Lib.hid (fun w h => implRowsHas a1 m c1 rs 5 w h hm2 hsh)
    rw [hasOk_five] at HK
    rw [← hb] at HI HJ HK
    clear hsh hr1 hb1 hb
    go_wp2_with fail
    refine (HI.out _ R1.out).mono ?_
    rintro e w2 ⟨rfl, hb2⟩
    have B2 := Lib.hid (B1.out.trans (hb2.mono B1.out.size))
    have R2 := Lib.hid (R1.out.below hb2 (Nat.le_refl _))
    clear hb2
    go_wp2_with fail
    refine (HJ.out _ R2.out).mono ?_
    rintro e w3 ⟨rfl, hb3⟩
    have B3 := Lib.hid (B2.out.trans (hb3.mono B2.out.size))
    have R3 := Lib.hid (R2.out.below hb3 (Nat.le_refl _))
    clear hb3
    go_wp2_with fail
    refine (HK.out _ R3.out).mono ?_
    rintro e w4 ⟨rfl, hb4⟩
    have B4 := Lib.hid (B3.out.trans (hb4.mono B3.out.size))
    clear hb4
    go_wp2
    go_ret
    exact ⟨by simp, B4.out⟩
  · have hd : (1048576 : Int) < (n : Int) := by omega
    clear hr
    go_enter Try.func3, Try.ntmps3
    go_wp2
    go_ret
    exact ⟨rfl, Below.refl _ _⟩
end Go.Proofs.Ytdcedkjoligekaa
