/-
  The walk of the law FnSetEnds.
-/
import Derived.Test.YtndpkmgjmpfgdaaTidyOf
import Derived.Test.YtndpkmgjmpfgdaaDrawS1
import Derived.Test.YtndpkmgjmpfgdaaRowBytes
import Derived.Test.YtndpkmgjmpfgdaaSetIn
import Derived.Test.YtndpkmgjmpfgdaaSetEnds
import Derived.Test.YtndpkmgjmpfgdaaSetFrom
namespace Go.Proofs.Ytndpkmgjmpfgdaa
open Go.RowKit

theorem ends_from {s : ByteArray} (hok : okS s = true) : (setEnds s = true ∧ FromIs s 1000 (.tuple #[.int .i64 0, .bool false])) ∨ ∃ y : Nat, setEnds s = false ∧ FromIs s 1000 (.tuple #[.int .i64 y, .bool true]) := by
  cases he : endsB (setR s)
  · right
    rcases from_cases (setT s) (setR s) 1000 with ⟨y, hy⟩ | hno
    · exact ⟨y, by unfold setEnds; rw [hok, he]; rfl, .some 1000 y hok rfl (by omega) hy⟩
    · exfalso
      have : endsB (setR s) = true := ends_all _ (fun i hi => by
        have h := hno ((setT s).length + (i + 1000 * (setR s).length)) (by
          have := Nat.mul_le_mul_left 1000 (setR_pos hok)
          omega)
        rw [hasB_ring, Nat.add_mul_mod_self_right, Nat.mod_eq_of_lt hi] at h
        exact h)
      rw [he] at this; cases this
  · left
    refine ⟨by unfold setEnds; rw [hok, he]; rfl, .none 1000 hok rfl (by omega) (fun y hy => ?_)⟩
    have h60 := setT_le hok
    obtain ⟨j, rfl⟩ : ∃ j, y = (setT s).length + j := ⟨y - (setT s).length, by omega⟩
    rw [hasB_ring]
    have hlt := Nat.mod_lt j (setR_pos hok)
    cases hv : (setR s).getD (j % (setR s).length) false
    · rfl
    · rw [ends_hit _ _ hlt hv] at he; cases he

set_option maxRecDepth 100000 in
set_option maxHeartbeats 4000000 in
theorem pSetEnds (a : Option Addr) (n c : Nat) (zs : List Int) (w : World) (hr : IsRow .u8 w a n c zs) (m : Int) (hg : 0 < w.heap.size) (hm : w.cell? ⟨0, 0, none⟩ = some (.int .i64 m)) :
    Calls Try.prog 13 #[.slice a n c] w fun e w' => e = .returned (.bool true) ∧ Below w.heap.size w w' := by
  by_cases hn : n ≤ 1048576
  · have hL : LibAt m w := ⟨hg, hm⟩
    clear hg hm
    have hB := Lib.hid hr.bytes
    have hC := Lib.hid hr.cap
    clear hr
    go_enter Try.func13, Try.ntmps13
    go_wp2_with fail
    refine (drawSetEnds a n c _ hB.out hn hC.out).mono ?_
    rintro e w1 ⟨s, rfl, hs, hb1⟩
    have hL1 := hL.below hb1
    obtain ⟨T, hT⟩ := tidyOf_there s
    have HT := Lib.hid hT
    clear hT
    cases hok : okS s
    · have hok' : setOk s.data.toList = false := hok
      go_wp2_with fail
      refine (implSetEnds s m _ (by omega) hL1).mono ?_
      rintro e w2 ⟨rfl, hx2⟩
      have hb2 := below_step hb1 hx2
      have hL2 := hL1.below hx2
      clear hx2
      go_wp2_with fail
      refine (specSetEnds s _ (by omega)).mono ?_
      rintro e w3 ⟨rfl, hx3⟩
      have hb3 := below_step hb2 hx3
      have hL3 := hL2.below hx3
      clear hx3
      go_wp2_with fail
      refine (implSetIn s m _ (by omega) hL3.lt hL3.cell).mono ?_
      rintro e w4 ⟨rfl, hx4⟩
      have hb4 := below_step hb3 hx4
      have hL4 := hL3.below hx4
      clear hx4
      go_wp2
      go_ret
      exact ⟨ret_bool (by simp), hb4⟩
    · have hok' : setOk s.data.toList = true := hok
      rcases ends_from hok with ⟨hv, hf'⟩ | ⟨y, hv, hf'⟩
      · have hf := Lib.hid hf'
        clear hf'
        go_wp2_with fail
        refine (implSetEnds s m _ (by omega) hL1).mono ?_
        rintro e w2 ⟨rfl, hx2⟩
        have hb2 := below_step hb1 hx2
        have hL2 := hL1.below hx2
        clear hx2
        go_wp2_with fail
        refine (specSetEnds s _ (by omega)).mono ?_
        rintro e w3 ⟨rfl, hx3⟩
        have hb3 := below_step hb2 hx3
        have hL3 := hL2.below hx3
        clear hx3
        go_wp2_with fail
        refine (implSetIn s m _ (by omega) hL3.lt hL3.cell).mono ?_
        rintro e w4 ⟨rfl, hx4⟩
        have hb4 := below_step hb3 hx4
        have hL4 := hL3.below hx4
        clear hx4
        go_wp2_with fail
        refine (implFrom s 1000 m _ _ (by omega) hL4 hf.out).mono ?_
        rintro e w5 ⟨rfl, hx5⟩
        have hb5 := below_step hb4 hx5
        have hL5 := hL4.below hx5
        clear hx5
        go_wp2
        go_ret
        exact ⟨rfl, hb5⟩
      · have hf := Lib.hid hf'
        clear hf'
        go_wp2_with fail
        refine (implSetEnds s m _ (by omega) hL1).mono ?_
        rintro e w2 ⟨rfl, hx2⟩
        have hb2 := below_step hb1 hx2
        have hL2 := hL1.below hx2
        clear hx2
        go_wp2_with fail
        refine (specSetEnds s _ (by omega)).mono ?_
        rintro e w3 ⟨rfl, hx3⟩
        have hb3 := below_step hb2 hx3
        have hL3 := hL2.below hx3
        clear hx3
        go_wp2_with fail
        refine (implSetIn s m _ (by omega) hL3.lt hL3.cell).mono ?_
        rintro e w4 ⟨rfl, hx4⟩
        have hb4 := below_step hb3 hx4
        have hL4 := hL3.below hx4
        clear hx4
        go_wp2_with fail
        refine (implFrom s 1000 m _ _ (by omega) hL4 hf.out).mono ?_
        rintro e w5 ⟨rfl, hx5⟩
        have hb5 := below_step hb4 hx5
        have hL5 := hL4.below hx5
        clear hx5
        go_wp2
        go_ret
        exact ⟨rfl, hb5⟩
  · have hd : (1048576 : Int) < (n : Int) := by omega
    go_enter Try.func13, Try.ntmps13
    go_wp2
    go_ret
    exact ⟨rfl, Below.refl _ _⟩
end Go.Proofs.Ytndpkmgjmpfgdaa
