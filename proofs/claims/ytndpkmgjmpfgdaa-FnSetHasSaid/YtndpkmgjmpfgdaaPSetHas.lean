/-
  The walk of the law FnSetHas.
-/
import Derived.Test.YtndpkmgjmpfgdaaTidyOf
import Derived.Test.YtndpkmgjmpfgdaaDrawS1
import Derived.Test.YtndpkmgjmpfgdaaRowBytes
import Derived.Test.YtndpkmgjmpfgdaaSetIn
import Derived.Test.YtndpkmgjmpfgdaaSetHas
namespace Go.Proofs.Ytndpkmgjmpfgdaa
open Go.RowKit

theorem setHas_neg (s : ByteArray) (x : Int) (h : x < 0) : setHas s x = false := by
  unfold setHas; rw [hasI_neg _ _ _ h, Bool.and_false]

set_option maxRecDepth 100000 in
set_option maxHeartbeats 4000000 in
theorem pSetHas (a : Option Addr) (n c : Nat) (zs : List Int) (w : World) (hr : IsRow .u8 w a n c zs) (m : Int) (hg : 0 < w.heap.size) (hm : w.cell? ⟨0, 0, none⟩ = some (.int .i64 m)) :
    Calls Try.prog 4 #[.slice a n c] w fun e w' => e = .returned (.bool true) ∧ Below w.heap.size w w' := by
  by_cases hn : n ≤ 1048576
  · have hL : LibAt m w := ⟨hg, hm⟩
    clear hg hm
    have hB := Lib.hid hr.bytes
    have hC := Lib.hid hr.cap
    clear hr
    go_enter Try.func4, Try.ntmps4
    go_wp2_with fail
    refine (drawSetHas a n c _ hB.out hn hC.out).mono ?_
    rintro e w1 ⟨s, x, rfl, hs, hx, hb1⟩
    have hL1 := hL.below hb1
    obtain ⟨T, hT⟩ := tidyOf_there s
    have HT := Lib.hid hT
    clear hT
    cases hok : okS s
    · have hok' : setOk s.data.toList = false := hok
      go_wp2_with fail
      refine (implSetHas s x m _ (by omega) (by omega) hL1).mono ?_
      rintro e w2 ⟨rfl, hx2⟩
      have hb2 := below_step hb1 hx2
      have hL2 := hL1.below hx2
      clear hx2
      go_wp2_with fail
      refine (specSetHas s x _ (by omega) (by omega)).mono ?_
      rintro e w3 ⟨rfl, hx3⟩
      have hb3 := below_step hb2 hx3
      have hL3 := hL2.below hx3
      clear hx3
      go_wp2_with fail
      refine (implSetIn s m _ (by omega) hL3.lt hL3.cell).mono ?_
      rintro e w4 ⟨rfl, hx4⟩
      have hb4 := below_step hb3 hx4
      have hL4 := hL3.below hx4
      clear hx4
      go_wp2
      go_ret
      exact ⟨ret_bool (by simp), hb4⟩
    · have hok' : setOk s.data.toList = true := hok
      have HD := Lib.hid ((HT.out.on hok).told)
      have HZ := Lib.hid (tidyText_short hok (HT.out.on hok))
      have hTs : T.size ≤ 12 := by have := HZ.out; omega
      have hTh : setHas T x = setHas s x := setHas_eq hok HD.out.ok HD.out.set x
      by_cases h0 : 0 ≤ x
      · cases hv : setHas s x
        · rw [hv] at hTh
          go_wp2_with fail
          refine (implSetHas s x m _ (by omega) (by omega) hL1).mono ?_
          rintro e w2 ⟨rfl, hx2⟩
          have hb2 := below_step hb1 hx2
          have hL2 := hL1.below hx2
          clear hx2
          go_wp2_with fail
          refine (specSetHas s x _ (by omega) (by omega)).mono ?_
          rintro e w3 ⟨rfl, hx3⟩
          have hb3 := below_step hb2 hx3
          have hL3 := hL2.below hx3
          clear hx3
          go_wp2_with fail
          refine (implSetIn s m _ (by omega) hL3.lt hL3.cell).mono ?_
          rintro e w4 ⟨rfl, hx4⟩
          have hb4 := below_step hb3 hx4
          have hL4 := hL3.below hx4
          clear hx4
          go_wp2_with fail
          refine (implTidy s T m _ (by omega) hL4 HT.out).mono ?_
          rintro e w5 ⟨rfl, hx5⟩
          have hb5 := below_step hb4 hx5
          have hL5 := hL4.below hx5
          clear hx5
          go_wp2_with fail
          refine (implSetHas T x m _ (by omega) (by omega) hL5).mono ?_
          rintro e w6 ⟨rfl, hx6⟩
          have hb6 := below_step hb5 hx6
          have hL6 := hL5.below hx6
          clear hx6
          go_wp2
          go_ret
          exact ⟨rfl, hb6⟩
        · rw [hv] at hTh
          go_wp2_with fail
          refine (implSetHas s x m _ (by omega) (by omega) hL1).mono ?_
          rintro e w2 ⟨rfl, hx2⟩
          have hb2 := below_step hb1 hx2
          have hL2 := hL1.below hx2
          clear hx2
          go_wp2_with fail
          refine (specSetHas s x _ (by omega) (by omega)).mono ?_
          rintro e w3 ⟨rfl, hx3⟩
          have hb3 := below_step hb2 hx3
          have hL3 := hL2.below hx3
          clear hx3
          go_wp2_with fail
          refine (implSetIn s m _ (by omega) hL3.lt hL3.cell).mono ?_
          rintro e w4 ⟨rfl, hx4⟩
          have hb4 := below_step hb3 hx4
          have hL4 := hL3.below hx4
          clear hx4
          go_wp2_with fail
          refine (implTidy s T m _ (by omega) hL4 HT.out).mono ?_
          rintro e w5 ⟨rfl, hx5⟩
          have hb5 := below_step hb4 hx5
          have hL5 := hL4.below hx5
          clear hx5
          go_wp2_with fail
          refine (implSetHas T x m _ (by omega) (by omega) hL5).mono ?_
          rintro e w6 ⟨rfl, hx6⟩
          have hb6 := below_step hb5 hx6
          have hL6 := hL5.below hx6
          clear hx6
          go_wp2
          go_ret
          exact ⟨rfl, hb6⟩
      · have hv : setHas s x = false := setHas_neg s x (by omega)
        rw [hv] at hTh
        go_wp2_with fail
        refine (implSetHas s x m _ (by omega) (by omega) hL1).mono ?_
        rintro e w2 ⟨rfl, hx2⟩
        have hb2 := below_step hb1 hx2
        have hL2 := hL1.below hx2
        clear hx2
        go_wp2_with fail
        refine (specSetHas s x _ (by omega) (by omega)).mono ?_
        rintro e w3 ⟨rfl, hx3⟩
        have hb3 := below_step hb2 hx3
        have hL3 := hL2.below hx3
        clear hx3
        go_wp2_with fail
        refine (implSetIn s m _ (by omega) hL3.lt hL3.cell).mono ?_
        rintro e w4 ⟨rfl, hx4⟩
        have hb4 := below_step hb3 hx4
        have hL4 := hL3.below hx4
        clear hx4
        go_wp2_with fail
        refine (implTidy s T m _ (by omega) hL4 HT.out).mono ?_
        rintro e w5 ⟨rfl, hx5⟩
        have hb5 := below_step hb4 hx5
        have hL5 := hL4.below hx5
        clear hx5
        go_wp2_with fail
        refine (implSetHas T x m _ (by omega) (by omega) hL5).mono ?_
        rintro e w6 ⟨rfl, hx6⟩
        have hb6 := below_step hb5 hx6
        have hL6 := hL5.below hx6
        clear hx6
        go_wp2
        go_ret
        exact ⟨rfl, hb6⟩
  · have hd : (1048576 : Int) < (n : Int) := by omega
    go_enter Try.func4, Try.ntmps4
    go_wp2
    go_ret
    exact ⟨rfl, Below.refl _ _⟩
end Go.Proofs.Ytndpkmgjmpfgdaa
