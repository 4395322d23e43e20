/-
  The walk of the law FnSetCounts.
-/
import Derived.Test.YtndpkmgjmpfgdaaTidyOf
import Derived.Test.YtndpkmgjmpfgdaaDrawS1
import Derived.Test.YtndpkmgjmpfgdaaRowBytes
import Derived.Test.YtndpkmgjmpfgdaaSetList
import Derived.Test.YtndpkmgjmpfgdaaSetHas
namespace Go.Proofs.Ytndpkmgjmpfgdaa
open Go.RowKit

theorem counts_more {s : ByteArray} {x : Int} (h : inN s x = true) (h2 : inN s (x + 1) = true) :
    (setHas s x = true ∧ (listV s (x + 1)).length = (listV s x).length + 1) ∨ (setHas s x = false ∧ (listV s (x + 1)).length = (listV s x).length) := by
  rcases inN_cases s x with ⟨e, _⟩ | ⟨k, _, rfl, _, hok, hl⟩
  · rw [h] at e; cases e
  · have e2 : listV s ((k : Int) + 1) = listN (setT s) (setR s) (k + 1) := by
      unfold listV; rw [if_pos h2]; rfl
    have e3 : setHas s (k : Int) = hasB (setT s) (setR s) k := by
      unfold setHas; rw [hok, Bool.true_and, hasI_nat]
    rw [e2, hl, e3]
    cases hv : hasB (setT s) (setR s) k
    · exact .inr ⟨rfl, by rw [listN_miss hv]⟩
    · exact .inl ⟨rfl, by rw [listN_hit hv]; simp⟩

set_option maxRecDepth 100000 in
set_option maxHeartbeats 4000000 in
theorem pSetCounts (a : Option Addr) (n c : Nat) (zs : List Int) (w : World) (hr : IsRow .u8 w a n c zs) (m : Int) (hg : 0 < w.heap.size) (hm : w.cell? ⟨0, 0, none⟩ = some (.int .i64 m)) :
    Calls Try.prog 14 #[.slice a n c] w fun e w' => e = .returned (.bool true) ∧ Below w.heap.size w w' := by
  by_cases hn : n ≤ 1048576
  · have hL : LibAt m w := ⟨hg, hm⟩
    clear hg hm
    have hB := Lib.hid hr.bytes
    have hC := Lib.hid hr.cap
    clear hr
    go_enter Try.func14, Try.ntmps14
    go_wp2_with fail
    refine (drawSetCount a n c _ hB.out hn hC.out).mono ?_
    rintro e w1 ⟨s, x, rfl, hs, hx, hb1⟩
    have hL1 := hL.below hb1
    have hle := listV_le s x
    have HIC := Lib.hid (implCount s x m)
    have HSC := Lib.hid (specCount s x)
    have HIC2 := Lib.hid (implCount s (x + 1) m)
    have hle2 := listV_le s (x + 1)
    obtain ⟨L, hLd⟩ : ∃ L, L = listV s x := ⟨_, rfl⟩
    obtain ⟨L2, hLd2⟩ : ∃ L, L = listV s (x + 1) := ⟨_, rfl⟩
    obtain ⟨b2, hbd2⟩ : ∃ b, b = inN s (x + 1) := ⟨_, rfl⟩
    rw [← hLd2, ← hbd2] at HIC2
    rw [← hLd2] at hle2
    obtain ⟨b, hbd⟩ : ∃ b, b = inN s x := ⟨_, rfl⟩
    rw [← hLd, ← hbd] at HIC HSC
    rw [← hLd] at hle
    have HLd := Lib.hid hLd
    have HBd := Lib.hid hbd
    clear hLd hbd
    have HLd2 := Lib.hid hLd2
    have HBd2 := Lib.hid hbd2
    clear hLd2 hbd2
    cases b
    · go_wp2_with fail
      refine (HIC.out _ (by omega) hL1).mono ?_
      rintro e w2 ⟨rfl, hx2⟩
      have hb2 := below_step hb1 hx2
      have hL2 := hL1.below hx2
      clear hx2
      go_wp2_with fail
      refine (HSC.out _ (by omega)).mono ?_
      rintro e w3 ⟨rfl, hx3⟩
      have hb3 := below_step hb2 hx3
      have hL3 := hL2.below hx3
      clear hx3
      go_wp2
      go_ret
      exact ⟨ret_bool (by simp), hb3⟩
    · cases b2
      · cases hv : setHas s x
        · go_wp2_with fail
          refine (HIC.out _ (by omega) hL1).mono ?_
          rintro e w2 ⟨rfl, hx2⟩
          have hb2 := below_step hb1 hx2
          have hL2 := hL1.below hx2
          clear hx2
          go_wp2_with fail
          refine (HSC.out _ (by omega)).mono ?_
          rintro e w3 ⟨rfl, hx3⟩
          have hb3 := below_step hb2 hx3
          have hL3 := hL2.below hx3
          clear hx3
          go_wp2_with fail
          refine (HIC2.out _ (by omega) hL3).mono ?_
          rintro e w4 ⟨rfl, hx4⟩
          have hb4 := below_step hb3 hx4
          have hL4 := hL3.below hx4
          clear hx4
          go_wp2_with fail
          refine (implSetHas s x m _ (by omega) (by omega) hL4).mono ?_
          rintro e w5 ⟨rfl, hx5⟩
          have hb5 := below_step hb4 hx5
          have hL5 := hL4.below hx5
          clear hx5
          go_wp2
          go_ret
          exact ⟨rfl, hb5⟩
        · go_wp2_with fail
          refine (HIC.out _ (by omega) hL1).mono ?_
          rintro e w2 ⟨rfl, hx2⟩
          have hb2 := below_step hb1 hx2
          have hL2 := hL1.below hx2
          clear hx2
          go_wp2_with fail
          refine (HSC.out _ (by omega)).mono ?_
          rintro e w3 ⟨rfl, hx3⟩
          have hb3 := below_step hb2 hx3
          have hL3 := hL2.below hx3
          clear hx3
          go_wp2_with fail
          refine (HIC2.out _ (by omega) hL3).mono ?_
          rintro e w4 ⟨rfl, hx4⟩
          have hb4 := below_step hb3 hx4
          have hL4 := hL3.below hx4
          clear hx4
          go_wp2_with fail
          refine (implSetHas s x m _ (by omega) (by omega) hL4).mono ?_
          rintro e w5 ⟨rfl, hx5⟩
          have hb5 := below_step hb4 hx5
          have hL5 := hL4.below hx5
          clear hx5
          go_wp2
          go_ret
          exact ⟨rfl, hb5⟩
      · rcases counts_more HBd.out.symm HBd2.out.symm with ⟨hv, hl⟩ | ⟨hv, hl⟩
        · rw [← HLd.out, ← HLd2.out] at hl
          have hl' : (L2.length : Int) = (L.length : Int) + 1 := by omega
          clear hl
          go_wp2_with fail
          refine (HIC.out _ (by omega) hL1).mono ?_
          rintro e w2 ⟨rfl, hx2⟩
          have hb2 := below_step hb1 hx2
          have hL2 := hL1.below hx2
          clear hx2
          go_wp2_with fail
          refine (HSC.out _ (by omega)).mono ?_
          rintro e w3 ⟨rfl, hx3⟩
          have hb3 := below_step hb2 hx3
          have hL3 := hL2.below hx3
          clear hx3
          go_wp2_with fail
          refine (HIC2.out _ (by omega) hL3).mono ?_
          rintro e w4 ⟨rfl, hx4⟩
          have hb4 := below_step hb3 hx4
          have hL4 := hL3.below hx4
          clear hx4
          go_wp2_with fail
          refine (implSetHas s x m _ (by omega) (by omega) hL4).mono ?_
          rintro e w5 ⟨rfl, hx5⟩
          have hb5 := below_step hb4 hx5
          have hL5 := hL4.below hx5
          clear hx5
          go_wp2
          go_ret
          exact ⟨rfl, hb5⟩
        · rw [← HLd.out, ← HLd2.out] at hl
          have hl' : (L2.length : Int) = (L.length : Int) := by omega
          clear hl
          go_wp2_with fail
          refine (HIC.out _ (by omega) hL1).mono ?_
          rintro e w2 ⟨rfl, hx2⟩
          have hb2 := below_step hb1 hx2
          have hL2 := hL1.below hx2
          clear hx2
          go_wp2_with fail
          refine (HSC.out _ (by omega)).mono ?_
          rintro e w3 ⟨rfl, hx3⟩
          have hb3 := below_step hb2 hx3
          have hL3 := hL2.below hx3
          clear hx3
          go_wp2_with fail
          refine (HIC2.out _ (by omega) hL3).mono ?_
          rintro e w4 ⟨rfl, hx4⟩
          have hb4 := below_step hb3 hx4
          have hL4 := hL3.below hx4
          clear hx4
          go_wp2_with fail
          refine (implSetHas s x m _ (by omega) (by omega) hL4).mono ?_
          rintro e w5 ⟨rfl, hx5⟩
          have hb5 := below_step hb4 hx5
          have hL5 := hL4.below hx5
          clear hx5
          go_wp2
          go_ret
          exact ⟨rfl, hb5⟩
  · have hd : (1048576 : Int) < (n : Int) := by omega
    go_enter Try.func14, Try.ntmps14
    go_wp2
    go_ret
    exact ⟨rfl, Below.refl _ _⟩
end Go.Proofs.Ytndpkmgjmpfgdaa
