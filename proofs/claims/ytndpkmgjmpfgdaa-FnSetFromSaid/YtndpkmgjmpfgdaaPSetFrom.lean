/-
  The walk of the law FnSetFrom.
-/
import Derived.Test.YtndpkmgjmpfgdaaTidyOf
import Derived.Test.YtndpkmgjmpfgdaaDrawS1
import Derived.Test.YtndpkmgjmpfgdaaRowBytes
import Derived.Test.YtndpkmgjmpfgdaaSetFrom
import Derived.Test.YtndpkmgjmpfgdaaSetHas
namespace Go.Proofs.Ytndpkmgjmpfgdaa
open Go.RowKit

theorem from_some {s : ByteArray} {x y0 : Int} (h : FromIs s x (.tuple #[.int .i64 y0, .bool true])) : ∃ k y : Nat, x = k ∧ y0 = y ∧ okS s = true ∧ k ≤ 1000 ∧ LeastFrom (setT s) (setR s) k y := by
  generalize hv : Value.tuple #[.int .i64 y0, .bool true] = v at h
  cases h with
  | off _ => simp at hv
  | some k y hok hx hk hl => simp at hv; exact ⟨k, y, hx, hv, hok, hk, hl⟩
  | none _ _ _ _ _ => simp at hv

set_option maxRecDepth 100000 in
set_option maxHeartbeats 4000000 in
theorem pSetFrom (a : Option Addr) (n c : Nat) (zs : List Int) (w : World) (hr : IsRow .u8 w a n c zs) (m : Int) (hg : 0 < w.heap.size) (hm : w.cell? ⟨0, 0, none⟩ = some (.int .i64 m)) :
    Calls Try.prog 9 #[.slice a n c] w fun e w' => e = .returned (.bool true) ∧ Below w.heap.size w w' := by
  by_cases hn : n ≤ 1048576
  · have hL : LibAt m w := ⟨hg, hm⟩
    clear hg hm
    have hB := Lib.hid hr.bytes
    have hC := Lib.hid hr.cap
    clear hr
    go_enter Try.func9, Try.ntmps9
    go_wp2_with fail
    refine (drawSetFrom a n c _ hB.out hn hC.out).mono ?_
    rintro e w1 ⟨s, x, rfl, hs, hx, hb1⟩
    have hL1 := hL.below hb1
    obtain ⟨y0, b, hf⟩ := from_form s x
    have HF := Lib.hid hf
    cases b
    · clear hf
      go_wp2_with fail
      refine (implFrom s x m _ _ (by omega) hL1 HF.out).mono ?_
      rintro e w2 ⟨rfl, hx2⟩
      have hb2 := below_step hb1 hx2
      have hL2 := hL1.below hx2
      clear hx2
      go_wp2_with fail
      refine (specFrom s x _ _ (by omega) HF.out).mono ?_
      rintro e w3 ⟨rfl, hx3⟩
      have hb3 := below_step hb2 hx3
      have hL3 := hL2.below hx3
      clear hx3
      go_wp2
      go_ret
      exact ⟨ret_bool (by simp), hb3⟩
    · obtain ⟨k, y, rfl, rfl, hok, hk, hy⟩ := from_some hf
      have hge := hy.ge
      have HY := Lib.hid hy
      have hlt := least_lt (setR_pos hok) hy
      have h60 := setT_le hok
      have r60 := setR_le hok
      have hy9 : y < 2000 := by omega
      clear hf hlt h60 r60 hy
      go_wp2_with fail
      refine (implFrom s k m _ _ (by omega) hL1 HF.out).mono ?_
      rintro e w2 ⟨rfl, hx2⟩
      have hb2 := below_step hb1 hx2
      have hL2 := hL1.below hx2
      clear hx2
      go_wp2_with fail
      refine (specFrom s k _ _ (by omega) HF.out).mono ?_
      rintro e w3 ⟨rfl, hx3⟩
      have hb3 := below_step hb2 hx3
      have hL3 := hL2.below hx3
      clear hx3
      have hv : setHas s (y : Int) = true := by unfold setHas; rw [hok, Bool.true_and, hasI_nat]; exact HY.out.has
      have hge' : (k : Int) ≤ (y : Int) := by omega
      have HB3 := Lib.hid hb3
      have HL3 := Lib.hid hL3
      clear hb2 hb1 hL1 hL2 hL hb3 hL3
      go_wp2
      go_loopw [10] (fun i wr => ∃ z : Nat, i = .int .i64 z ∧ k ≤ z ∧ z ≤ y ∧ Below w.heap.size w wr ∧ LibAt m wr) (fun i _ => y - (intOf i).toNat)
      case atStart => exact ⟨k, rfl, Nat.le_refl _, hge, HB3.out, HL3.out⟩
      case round =>
        obtain ⟨z, rfl, hz1, hz2, hbz, hLz⟩ := hrel
        by_cases hlt : z < y
        · have hno : setHas s (z : Int) = false := by unfold setHas; rw [hok, Bool.true_and, hasI_nat]; exact HY.out.least z hz1 hlt
          have HBz := Lib.hid hbz
          have HLz := Lib.hid hLz
          clear hbz hLz
          go_wp2_with fail
          refine (implSetHas s z m _ (by omega) (by omega) HLz.out).mono ?_
          rintro e w5 ⟨rfl, hx5⟩
          have HB5 := Lib.hid (below_step HBz.out hx5)
          have HL5 := Lib.hid (HLz.out.below hx5)
          clear hx5
          go_wp2
          go_roundw
          case rel => exact ⟨z + 1, by go_num, by omega, by omega, HB5.out, HL5.out⟩
          case measure => simp [intOf]; omega
        · obtain rfl : z = y := by omega
          have HBz := Lib.hid hbz
          have HLz := Lib.hid hLz
          clear hbz hLz
          go_wp2_with fail
          refine (implSetHas s z m _ (by omega) (by omega) HLz.out).mono ?_
          rintro e w5 ⟨rfl, hx5⟩
          have HB5 := Lib.hid (below_step HBz.out hx5)
          clear hx5
          go_wp2
          go_ret
          exact ⟨rfl, HB5.out⟩
  · have hd : (1048576 : Int) < (n : Int) := by omega
    go_enter Try.func9, Try.ntmps9
    go_wp2
    go_ret
    exact ⟨rfl, Below.refl _ _⟩
end Go.Proofs.Ytndpkmgjmpfgdaa
