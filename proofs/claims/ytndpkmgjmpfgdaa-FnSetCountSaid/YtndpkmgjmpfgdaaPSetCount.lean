/-
  The walk of the law FnSetCount.
-/
import Derived.Test.YtndpkmgjmpfgdaaTidyOf
import Derived.Test.YtndpkmgjmpfgdaaDrawS1
import Derived.Test.YtndpkmgjmpfgdaaRowBytes
import Derived.Test.YtndpkmgjmpfgdaaSetList
namespace Go.Proofs.Ytndpkmgjmpfgdaa
open Go.RowKit

set_option maxRecDepth 100000 in
set_option maxHeartbeats 4000000 in
theorem pSetCount (a : Option Addr) (n c : Nat) (zs : List Int) (w : World) (hr : IsRow .u8 w a n c zs) (m : Int) (hg : 0 < w.heap.size) (hm : w.cell? ⟨0, 0, none⟩ = some (.int .i64 m)) :
    Calls Try.prog 10 #[.slice a n c] w fun e w' => e = .returned (.bool true) ∧ Below w.heap.size w w' := by
  by_cases hn : n ≤ 1048576
  · have hL : LibAt m w := ⟨hg, hm⟩
    clear hg hm
    have hB := Lib.hid hr.bytes
    have hC := Lib.hid hr.cap
    clear hr
    go_enter Try.func10, Try.ntmps10
    go_wp2_with fail
    refine (drawSetCount a n c _ hB.out hn hC.out).mono ?_
    rintro e w1 ⟨s, x, rfl, hs, hx, hb1⟩
    have hL1 := hL.below hb1
    have hle := listV_le s x
    have HIC := Lib.hid (implCount s x m)
    have HSC := Lib.hid (specCount s x)
    have HLL := Lib.hid (implList s x m)
    have HLS := Lib.hid (specList s x)
    obtain ⟨L, hLd⟩ : ∃ L, L = listV s x := ⟨_, rfl⟩
    obtain ⟨b, hbd⟩ : ∃ b, b = inN s x := ⟨_, rfl⟩
    rw [← hLd, ← hbd] at HIC HSC HLL HLS
    rw [← hLd] at hle
    have HLd := Lib.hid hLd
    have HBd := Lib.hid hbd
    clear hLd hbd
    cases b
    · go_wp2_with fail
      refine (HIC.out _ (by omega) hL1).mono ?_
      rintro e w2 ⟨rfl, hx2⟩
      have hb2 := below_step hb1 hx2
      have hL2 := hL1.below hx2
      clear hx2
      go_wp2_with fail
      refine (HSC.out _ (by omega)).mono ?_
      rintro e w3 ⟨rfl, hx3⟩
      have hb3 := below_step hb2 hx3
      have hL3 := hL2.below hx3
      clear hx3
      go_wp2
      go_ret
      exact ⟨ret_bool (by simp), hb3⟩
    · go_wp2_with fail
      refine (HIC.out _ (by omega) hL1).mono ?_
      rintro e w2 ⟨rfl, hx2⟩
      have hb2 := below_step hb1 hx2
      have hL2 := hL1.below hx2
      clear hx2
      go_wp2_with fail
      refine (HSC.out _ (by omega)).mono ?_
      rintro e w3 ⟨rfl, hx3⟩
      have hb3 := below_step hb2 hx3
      have hL3 := hL2.below hx3
      clear hx3
      go_wp2_with fail
      refine (HLL.out _ (by omega) hL3).mono ?_
      rintro e w4 ⟨la4, lc4, rfl, hx4, hown4⟩
      have hb4 := below_step hb3 hx4
      have hL4 := hL3.below hx4
      clear hx4
      clear hown4
      go_wp2
      go_ret
      exact ⟨rfl, hb4⟩
  · have hd : (1048576 : Int) < (n : Int) := by omega
    go_enter Try.func10, Try.ntmps10
    go_wp2
    go_ret
    exact ⟨rfl, Below.refl _ _⟩
end Go.Proofs.Ytndpkmgjmpfgdaa
