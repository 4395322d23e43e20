/-
  The walk of the law FnSetBelow.
-/
import Derived.Test.YtndpkmgjmpfgdaaTidyOf
import Derived.Test.YtndpkmgjmpfgdaaDrawS1
import Derived.Test.YtndpkmgjmpfgdaaRowBytes
import Derived.Test.YtndpkmgjmpfgdaaSetBelow
import Derived.Test.YtndpkmgjmpfgdaaSetHas
import Derived.Test.YtndpkmgjmpfgdaaSetIn
namespace Go.Proofs.Ytndpkmgjmpfgdaa
open Go.RowKit

/-- No number below k is in the first set and not in the second one. -/
def belowTo (s t : ByteArray) (k : Nat) : Bool := (List.range k).all fun j => !cex s t j
theorem belowTo_succ (s t : ByteArray) (k : Nat) : belowTo s t (k + 1) = (belowTo s t k && !cex s t k) := by
  unfold belowTo; rw [List.range_succ, List.all_append]; simp
theorem belowTo_is {s t : ByteArray} {b : Bool} (h : BelowIs s t b) (h1 : okS s = true) (h2 : okS t = true) (hs : s.size ≤ 12) (ht : t.size ≤ 12) : belowTo s t 151 = b := by
  cases h with
  | off h =>
    rcases h with e | e
    · rw [e] at h1; cases h1
    · rw [e] at h2; cases h2
  | no x _ _ hx =>
    have e1 := set_size h1
    have e2 := set_size h2
    have r1 := setR_pos h1
    have r2 := setR_pos h2
    have hm : (setR s).length * (setR t).length ≤ 10 * 10 := Nat.mul_le_mul (by omega) (by omega)
    have hlt := leastCex_lt (p := (setR s).length * (setR t).length) (q := 10) hx (Nat.mul_pos r1 r2) ⟨(setR t).length, Nat.mul_comm _ _⟩ ⟨(setR s).length, rfl⟩ (by omega) (by omega)
    unfold belowTo
    rw [Bool.eq_false_iff]
    intro ha
    have := List.all_eq_true.1 ha x (List.mem_range.2 (by omega))
    rw [hx.is] at this; cases this
  | yes _ _ hx =>
    unfold belowTo
    rw [List.all_eq_true]
    intro j _
    rw [hx j]; rfl
theorem cex_has {s t : ByteArray} (h1 : okS s = true) (h2 : okS t = true) (k : Nat) : cex s t k = (setHas s (k : Int) && !setHas t (k : Int)) := by
  unfold cex setHas; rw [h1, h2, Bool.true_and, Bool.true_and, hasI_nat, hasI_nat]

set_option maxRecDepth 100000 in
set_option maxHeartbeats 4000000 in
theorem pSetBelow (a : Option Addr) (n c : Nat) (zs : List Int) (w : World) (hr : IsRow .u8 w a n c zs) (m : Int) (hg : 0 < w.heap.size) (hm : w.cell? ⟨0, 0, none⟩ = some (.int .i64 m)) :
    Calls Try.prog 7 #[.slice a n c] w fun e w' => e = .returned (.bool true) ∧ Below w.heap.size w w' := by
  by_cases hn : n ≤ 1048576
  · have hL : LibAt m w := ⟨hg, hm⟩
    clear hg hm
    have hB := Lib.hid hr.bytes
    have hC := Lib.hid hr.cap
    clear hr
    go_enter Try.func7, Try.ntmps7
    go_wp2_with fail
    refine (drawSetBelow a n c _ hB.out hn hC.out).mono ?_
    rintro e w1 ⟨s, t, rfl, hs, ht, hb1⟩
    have hL1 := hL.below hb1
    obtain ⟨b, hbl⟩ := below_form s t
    have HBL := Lib.hid hbl
    clear hbl
    cases ho1 : okS s
    · have ho1' : setOk s.data.toList = false := ho1
      go_wp2_with fail
      refine (implBelow s t m _ _ (by omega) (by omega) hL1 HBL.out).mono ?_
      rintro e w2 ⟨rfl, hx2⟩
      have hb2 := below_step hb1 hx2
      have hL2 := hL1.below hx2
      clear hx2
      go_wp2_with fail
      refine (specBelow s t _ _ (by omega) (by omega) HBL.out).mono ?_
      rintro e w3 ⟨rfl, hx3⟩
      have hb3 := below_step hb2 hx3
      have hL3 := hL2.below hx3
      clear hx3
      go_wp2_with fail
      refine (implSetIn s m _ (by omega) hL3.lt hL3.cell).mono ?_
      rintro e w4 ⟨rfl, hx4⟩
      have hb4 := below_step hb3 hx4
      have hL4 := hL3.below hx4
      clear hx4
      go_wp2
      go_ret
      exact ⟨ret_bool (by simp), hb4⟩
    · have ho1' : setOk s.data.toList = true := ho1
      cases ho2 : okS t
      · have ho2' : setOk t.data.toList = false := ho2
        go_wp2_with fail
        refine (implBelow s t m _ _ (by omega) (by omega) hL1 HBL.out).mono ?_
        rintro e w2 ⟨rfl, hx2⟩
        have hb2 := below_step hb1 hx2
        have hL2 := hL1.below hx2
        clear hx2
        go_wp2_with fail
        refine (specBelow s t _ _ (by omega) (by omega) HBL.out).mono ?_
        rintro e w3 ⟨rfl, hx3⟩
        have hb3 := below_step hb2 hx3
        have hL3 := hL2.below hx3
        clear hx3
        go_wp2_with fail
        refine (implSetIn s m _ (by omega) hL3.lt hL3.cell).mono ?_
        rintro e w4 ⟨rfl, hx4⟩
        have hb4 := below_step hb3 hx4
        have hL4 := hL3.below hx4
        clear hx4
        go_wp2_with fail
        refine (implSetIn t m _ (by omega) hL4.lt hL4.cell).mono ?_
        rintro e w5 ⟨rfl, hx5⟩
        have hb5 := below_step hb4 hx5
        have hL5 := hL4.below hx5
        clear hx5
        go_wp2
        go_ret
        exact ⟨ret_bool (by simp), hb5⟩
      · have ho2' : setOk t.data.toList = true := ho2
        have HV := Lib.hid (belowTo_is HBL.out ho1 ho2 hs ht)
        have HC := Lib.hid (fun k => cex_has ho1 ho2 k)
        clear ho1 ho2
        go_wp2_with fail
        refine (implBelow s t m _ _ (by omega) (by omega) hL1 HBL.out).mono ?_
        rintro e w2 ⟨rfl, hx2⟩
        have hb2 := below_step hb1 hx2
        have hL2 := hL1.below hx2
        clear hx2
        go_wp2_with fail
        refine (specBelow s t _ _ (by omega) (by omega) HBL.out).mono ?_
        rintro e w3 ⟨rfl, hx3⟩
        have hb3 := below_step hb2 hx3
        have hL3 := hL2.below hx3
        clear hx3
        go_wp2_with fail
        refine (implSetIn s m _ (by omega) hL3.lt hL3.cell).mono ?_
        rintro e w4 ⟨rfl, hx4⟩
        have hb4 := below_step hb3 hx4
        have hL4 := hL3.below hx4
        clear hx4
        go_wp2_with fail
        refine (implSetIn t m _ (by omega) hL4.lt hL4.cell).mono ?_
        rintro e w5 ⟨rfl, hx5⟩
        have hb5 := below_step hb4 hx5
        have hL5 := hL4.below hx5
        clear hx5
        have HB5 := Lib.hid hb5
        have HL5 := Lib.hid hL5
        clear hb1 hb2 hb3 hb4 hb5 hL hL1 hL2 hL3 hL4 hL5
        go_wp2
        go_loopw [8, 9] (fun u i wr => ∃ k : Nat, i = .int .i64 k ∧ k ≤ 151 ∧ u = .bool (belowTo s t k) ∧ Below w.heap.size w wr ∧ LibAt m wr) (fun _ i _ => 151 - (intOf i).toNat)
        case atStart => exact ⟨0, rfl, by omega, rfl, HB5.out, HL5.out⟩
        case round =>
          obtain ⟨k, rfl, hk, rfl, hbz, hLz⟩ := hrel
          have HBz := Lib.hid hbz
          have HLz := Lib.hid hLz
          clear hbz hLz
          by_cases hlt : k < 151
          · have hlt' : (k : Int) ≤ 150 := by omega
            have HK := Lib.hid ((belowTo_succ s t k).trans (by rw [HC.out k]))
            cases hbk : belowTo s t k
            · rw [hbk] at HK
              go_wp2
              go_roundw
              case rel => exact ⟨k + 1, by go_num, by omega, by rw [HK.out]; rfl, HBz.out, HLz.out⟩
              case measure => simp [intOf]; omega
            · rw [hbk] at HK
              cases hv1 : setHas s (k : Int)
              · rw [hv1] at HK
                go_wp2_with fail
                refine (implSetHas s k m _ (by omega) (by omega) HLz.out).mono ?_
                rintro e wr0 ⟨rfl, hy0⟩
                have HBy0 := Lib.hid (below_step HBz.out hy0)
                have HLy0 := Lib.hid (HLz.out.below hy0)
                clear hy0
                go_wp2
                go_roundw
                case rel => exact ⟨k + 1, by go_num, by omega, by rw [HK.out]; rfl, HBy0.out, HLy0.out⟩
                case measure => simp [intOf]; omega
              · rw [hv1] at HK
                cases hv2 : setHas t (k : Int)
                · rw [hv2] at HK
                  go_wp2_with fail
                  refine (implSetHas s k m _ (by omega) (by omega) HLz.out).mono ?_
                  rintro e wr0 ⟨rfl, hy0⟩
                  have HBy0 := Lib.hid (below_step HBz.out hy0)
                  have HLy0 := Lib.hid (HLz.out.below hy0)
                  clear hy0
                  go_wp2_with fail
                  refine (implSetHas t k m _ (by omega) (by omega) HLy0.out).mono ?_
                  rintro e wr1 ⟨rfl, hy1⟩
                  have HBy1 := Lib.hid (below_step HBy0.out hy1)
                  have HLy1 := Lib.hid (HLy0.out.below hy1)
                  clear hy1
                  go_wp2
                  go_roundw
                  case rel => exact ⟨k + 1, by go_num, by omega, by rw [HK.out]; rfl, HBy1.out, HLy1.out⟩
                  case measure => simp [intOf]; omega
                · rw [hv2] at HK
                  go_wp2_with fail
                  refine (implSetHas s k m _ (by omega) (by omega) HLz.out).mono ?_
                  rintro e wr0 ⟨rfl, hy0⟩
                  have HBy0 := Lib.hid (below_step HBz.out hy0)
                  have HLy0 := Lib.hid (HLz.out.below hy0)
                  clear hy0
                  go_wp2_with fail
                  refine (implSetHas t k m _ (by omega) (by omega) HLy0.out).mono ?_
                  rintro e wr1 ⟨rfl, hy1⟩
                  have HBy1 := Lib.hid (below_step HBy0.out hy1)
                  have HLy1 := Lib.hid (HLy0.out.below hy1)
                  clear hy1
                  go_wp2
                  go_roundw
                  case rel => exact ⟨k + 1, by go_num, by omega, by rw [HK.out]; rfl, HBy1.out, HLy1.out⟩
                  case measure => simp [intOf]; omega
          · obtain rfl : k = 151 := by omega
            have hv := HV.out
            go_wp2
            go_ret
            exact ⟨ret_bool (by simp), HBz.out⟩
  · have hd : (1048576 : Int) < (n : Int) := by omega
    go_enter Try.func7, Try.ntmps7
    go_wp2
    go_ret
    exact ⟨rfl, Below.refl _ _⟩
end Go.Proofs.Ytndpkmgjmpfgdaa
