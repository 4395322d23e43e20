/-
  The walk of the law FnSetTidy.
-/
import Derived.Test.YtndpkmgjmpfgdaaTidyOf
import Derived.Test.YtndpkmgjmpfgdaaDrawS1
import Derived.Test.YtndpkmgjmpfgdaaRowBytes
import Derived.Test.YtndpkmgjmpfgdaaSetSame
namespace Go.Proofs.Ytndpkmgjmpfgdaa
open Go.RowKit

theorem agree_refl (f : Nat → Bool) : agreeB f f = true := by unfold agreeB; simp

set_option maxRecDepth 100000 in
set_option maxHeartbeats 4000000 in
theorem pSetTidy (a : Option Addr) (n c : Nat) (zs : List Int) (w : World) (hr : IsRow .u8 w a n c zs) (m : Int) (hg : 0 < w.heap.size) (hm : w.cell? ⟨0, 0, none⟩ = some (.int .i64 m)) :
    Calls Try.prog 5 #[.slice a n c] w fun e w' => e = .returned (.bool true) ∧ Below w.heap.size w w' := by
  by_cases hn : n ≤ 1048576
  · have hL : LibAt m w := ⟨hg, hm⟩
    clear hg hm
    have hB := Lib.hid hr.bytes
    have hC := Lib.hid hr.cap
    clear hr
    go_enter Try.func5, Try.ntmps5
    go_wp2_with fail
    refine (drawSetTidy a n c _ hB.out hn hC.out).mono ?_
    rintro e w1 ⟨s, rfl, hs, hb1⟩
    have hL1 := hL.below hb1
    obtain ⟨T, hT⟩ := tidyOf_there s
    have HT := Lib.hid hT
    clear hT
    have HE := Lib.hid (show (⟨#[]⟩ : ByteArray).size = 0 from rfl)
    cases hok : okS s
    · go_wp2_with fail
      refine (implTidy s T m _ (by omega) hL1 HT.out).mono ?_
      rintro e w2 ⟨rfl, hx2⟩
      have hb2 := below_step hb1 hx2
      have hL2 := hL1.below hx2
      clear hx2
      go_wp2_with fail
      refine (specTidy s T _ (by omega) HT.out).mono ?_
      rintro e w3 ⟨rfl, hx3⟩
      have hb3 := below_step hb2 hx3
      have hL3 := hL2.below hx3
      clear hx3
      go_wp2
      go_ret
      exact ⟨ret_bool (by simp), hb3⟩
    · have HD := Lib.hid ((HT.out.on hok).told)
      have HZ := Lib.hid (tidyText_short hok (HT.out.on hok))
      have HS := Lib.hid (HT.out.self hok)
      have hTs : T.size ≤ 12 := by have := HZ.out; omega
      have hle : (T.size : Int) ≤ (s.size : Int) := by have := HZ.out; omega
      have hokT : okS T = true := HD.out.ok
      have hag : agreeB (fS s) (fS T) = true := by rw [HD.out.set]; exact agree_refl _
      go_wp2_with fail
      refine (implTidy s T m _ (by omega) hL1 HT.out).mono ?_
      rintro e w2 ⟨rfl, hx2⟩
      have hb2 := below_step hb1 hx2
      have hL2 := hL1.below hx2
      clear hx2
      go_wp2_with fail
      refine (specTidy s T _ (by omega) HT.out).mono ?_
      rintro e w3 ⟨rfl, hx3⟩
      have hb3 := below_step hb2 hx3
      have hL3 := hL2.below hx3
      clear hx3
      go_wp2_with fail
      refine (implTidy T T m _ (by omega) hL3 HS.out).mono ?_
      rintro e w4 ⟨rfl, hx4⟩
      have hb4 := below_step hb3 hx4
      have hL4 := hL3.below hx4
      clear hx4
      go_wp2_with fail
      refine (implSame_on s T m _ (by omega) (by omega) hL4 hok hokT).mono ?_
      rintro e w5 ⟨rfl, hx5⟩
      have hb5 := below_step hb4 hx5
      have hL5 := hL4.below hx5
      clear hx5
      go_wp2
      go_ret
      exact ⟨rfl, hb5⟩
  · have hd : (1048576 : Int) < (n : Int) := by omega
    go_enter Try.func5, Try.ntmps5
    go_wp2
    go_ret
    exact ⟨rfl, Below.refl _ _⟩
end Go.Proofs.Ytndpkmgjmpfgdaa
