/-
  The walk of the law FnStarParts.
-/
import Derived.Test.YtcacdgojibojgadPSumBase
import Derived.Test.YtcacdgojibojgadStarPartsS
import Derived.Test.YtcacdgojibojgadStarPartsI
import Derived.Test.YtcacdgojibojgadStarHasI
import Derived.Test.YtcacdgojibojgadPartsLaw
import Derived.Test.YtcacdgojibojgadSameInts
import Derived.Deep.RegionWith
import Derived.Deep.RegionHeld3
import Derived.IntWalk
set_option linter.unusedVariables false
set_option linter.unusedSimpArgs false
namespace Go.Proofs.Ytcacdgojibojgad
open Go.RowKit

theorem starHas_nat {s : ByteArray} {k : Nat} (h : smallS s = true) (hk : k ≤ 2000) : starHasV s k = starB (fS s) k := by
  unfold starHasV inR
  rw [h, decide_eq_true (by omega), decide_eq_true (by omega)]; rfl
theorem starHas_zero (s : ByteArray) : starHasV s 0 = smallS s := by
  unfold starHasV
  rw [show inR 0 0 2000 = true from by decide, Bool.and_true]
  cases smallS s
  · rfl
  · exact starB_zero _

/-- What the last loop keeps: two cells of the list. -/
def PartCells (g o1 o2 p q : Nat) (w w9 : World) (m : Int) (W : World) : Prop :=
  W.cell? ⟨g, o1, none⟩ = some (.int .i64 p) ∧ W.cell? ⟨g, o2, none⟩ = some (.int .i64 q) ∧ Below w.heap.size w W ∧ LibAt m W ∧ Below w9.heap.size w9 W
theorem parts_ask {g o1 o2 p q F : Nat} {w w9 W : World} {m : Int} {args : Array Value} {v : Value} (h : Calls Try.prog F args W fun e w' => e = .returned v ∧ Below W.heap.size W w') (k : PartCells g o1 o2 p q w w9 m W) :
    Calls Try.prog F args W fun e w' => e = .returned v ∧ PartCells g o1 o2 p q w w9 m w' := by
  obtain ⟨k1, k2, k3, k4, k5⟩ := k
  refine h.mono ?_
  rintro e w' ⟨he, hb⟩
  exact ⟨he, (hb.cell (p := ⟨g, o1, none⟩) (lt_of_some k1)).trans k1, (hb.cell (p := ⟨g, o2, none⟩) (lt_of_some k2)).trans k2, k3.trans (hb.mono k3.size), k4.below hb, k5.trans (hb.mono k5.size)⟩

set_option maxRecDepth 100000 in
set_option maxHeartbeats 4000000 in
theorem pStarParts (a : Option Addr) (n c : Nat) (zs : List Int) (w : World) (hr : IsRow .u8 w a n c zs) (m : Int) (hg : 0 < w.heap.size) (hm : w.cell? ⟨0, 0, none⟩ = some (.int .i64 m)) :
    Calls Try.prog 9 #[.slice a n c] w fun e w' => e = .returned (.bool true) ∧ Below w.heap.size w w' := by
  by_cases hn : n ≤ 1048576
  · have hL : LibAt m w := ⟨hg, hm⟩
    clear hg hm
    have hB := Lib.hid hr.bytes
    have hC := Lib.hid hr.cap
    clear hr
    go_enter Try.func9, Try.ntmps9
    go_wp2_with fail
    refine (drawStarParts a n c _ hB.out hn hC.out).mono ?_
    rintro e w1 ⟨s, rfl, hs, hb1⟩
    have HB1 := Lib.hid hb1
    have HL1 := Lib.hid (hL.below hb1)
    clear hb1
    have hlen := partsV_len s
    obtain ⟨ln, hln⟩ : ∃ ln, ln = (partsV s).length := ⟨_, rfl⟩
    have HLN := Lib.hid hln
    have hcI := implParts s m w1 (by omega) HL1.out
    have hcS := fun W => specParts s W (by omega)
    unfold PartsEnd at hcI hcS
    rw [← hln] at hcI hcS hlen
    have HcI := Lib.hid hcI
    have HcS := Lib.hid hcS
    clear hln hcI hcS
    go_wp2_with fail
    refine HcI.out.mono ?_
    rintro e w2 ⟨a1, c1, rfl, hx2, hown2⟩
    have HB2 := Lib.hid (below_step HB1.out hx2)
    have HL2 := Lib.hid (HL1.out.below hx2)
    have R1 := readsI_own (n := ln) hown2
    clear hx2 hown2 HcI
    go_wp2_with fail
    refine (HcS.out _).mono ?_
    rintro e w3 ⟨a2, c2, rfl, hx3, hown3⟩
    have HB3 := Lib.hid (below_step HB2.out hx3)
    have HL3 := Lib.hid (HL2.out.below hx3)
    have R2 := readsI_own (n := ln) hown3
    have R1b := R1.below hx3 (Nat.le_refl _)
    clear hx3 hown3 HcS R1
    go_wp2_with fail
    refine (sameInts_same a1 a2 ln c1 c2 (partsV s) _ R1b R2 (by omega)).mono ?_
    rintro e w4 ⟨rfl, nd, rfl⟩
    have HB4 := Lib.hid (below_drewN HB3.out nd)
    have HL4 := Lib.hid (HL3.out.below (below_drewN (Below.refl _ _) nd))
    have R4 := Lib.hid (readsI_drewN R1b nd)
    clear R1b R2 HB3 HL3
    cases hok : partsOk s
    · go_wp2
      go_ret
      exact ⟨ret_bool (by simp), HB4.out⟩
    · obtain ⟨T, hT⟩ := tidyText_list (partsV s)
      have HOK := Lib.hid hok
      have HSM := Lib.hid (partsOk_on hok).1
      have HO := Lib.hid hT.told.ok
      have HSt : Hid (starB (fS T) = starB (fS s)) := Lib.hid (by rw [hT.told.set]; exact star_parts (smallS_iff.1 HSM.out).2 (fL_parts hok))
      have hTs := told_size hT.told.ok
      have hcall := implOf_on a1 ln c1 (partsV s) T _ R4.out (by omega) (partsV_good hok) hT
      clear hok hT
      go_wp2_with fail
      refine hcall.mono ?_
      rintro e w5 ⟨rfl, hx5⟩
      have HB5 := Lib.hid (below_step HB4.out hx5)
      have HL5 := Lib.hid (HL4.out.below hx5)
      have R5 := Lib.hid (R4.out.below hx5 (Nat.le_refl _))
      clear hx5 hcall R4 HB4 HL4
      go_wp2
      go_loopw [11] (fun i wr => ∃ z : Nat, i = .int .i64 z ∧ z ≤ 201 ∧ Below w.heap.size w wr ∧ LibAt m wr ∧ Below w5.heap.size w5 wr) (fun i _ => 202 - (intOf i).toNat)
      case atStart => exact ⟨0, rfl, by omega, HB5.out, HL5.out, Below.refl _ _⟩
      case round =>
        obtain ⟨z, rfl, hz, hbz, hLz, hwz⟩ := hrel
        have HB0 := Lib.hid hbz
        have HL0 := Lib.hid hLz
        have HW0 := Lib.hid hwz
        clear hbz hLz hwz
        by_cases hlt : z ≤ 200
        · have hltI : (z : Int) ≤ 200 := by omega
          have hc0 := implHas T 0 m
          rw [starHas_zero] at hc0
          cases hsT : smallS T
          · rw [hsT] at hc0
            clear hsT
            go_wp2_with fail
            refine (hc0 _ hTs HL0.out).mono ?_
            rintro e w6 ⟨rfl, hx6⟩
            have HB6 := Lib.hid (below_step HB0.out hx6)
            have HL6 := Lib.hid (HL0.out.below hx6)
            have HW6 := Lib.hid (HW0.out.trans (hx6.mono HW0.out.size))
            clear hx6 hc0
            go_wp2
            go_roundw
            case rel => exact ⟨z + 1, by go_num, by omega, HB6.out, HL6.out, HW6.out⟩
            case measure => simp [intOf]; omega
          · have hcT := implHas T z m
            have hcs := implHas s z m
            rw [starHas_nat hsT (by omega), HSt.out] at hcT
            rw [starHas_nat HSM.out (by omega)] at hcs
            rw [hsT] at hc0
            obtain ⟨b, hb⟩ : ∃ b, starB (fS s) z = b := ⟨_, rfl⟩
            rw [hb] at hcT hcs
            clear hsT hb
            go_wp2_with fail
            refine (hc0 _ hTs HL0.out).mono ?_
            rintro e w6 ⟨rfl, hx6⟩
            have HB6 := Lib.hid (below_step HB0.out hx6)
            have HL6 := Lib.hid (HL0.out.below hx6)
            have HW6 := Lib.hid (HW0.out.trans (hx6.mono HW0.out.size))
            clear hx6 hc0
            go_wp2_with fail
            refine (hcT _ hTs HL6.out).mono ?_
            rintro e w7 ⟨rfl, hx7⟩
            have HB7 := Lib.hid (below_step HB6.out hx7)
            have HL7 := Lib.hid (HL6.out.below hx7)
            have HW7 := Lib.hid (HW6.out.trans (hx7.mono HW6.out.size))
            clear hx7 hcT
            go_wp2_with fail
            refine (hcs _ (by omega) HL7.out).mono ?_
            rintro e w8 ⟨rfl, hx8⟩
            have HB8 := Lib.hid (below_step HB7.out hx8)
            have HL8 := Lib.hid (HL7.out.below hx8)
            have HW8 := Lib.hid (HW7.out.trans (hx8.mono HW7.out.size))
            clear hx8 hcs
            cases b
            all_goals
              go_wp2
              go_roundw
              case rel => exact ⟨z + 1, by go_num, by omega, HB8.out, HL8.out, HW8.out⟩
              case measure => simp [intOf]; omega
        · have hzI : ¬ (z : Int) ≤ 200 := by omega
          have R6 := Lib.hid (R5.out.below HW0.out (Nat.le_refl _))
          go_wp2
          generalize wr = w9 at HB0 HL0 HW0 R6
          go_loopw [13] (fun i wr => ∃ j : Nat, i = .int .i64 j ∧ j ≤ ln ∧ Below w.heap.size w wr ∧ LibAt m wr ∧ Below w9.heap.size w9 wr) (fun i _ => ln - (intOf i).toNat)
          case atStart => exact ⟨0, rfl, by omega, HB0.out, HL0.out, Below.refl _ _⟩
          case round =>
            obtain ⟨j, rfl, hj, hbj, hLj, hwj⟩ := hrel
            have HB10 := Lib.hid hbj
            have HL10 := Lib.hid hLj
            have HW10 := Lib.hid hwj
            have R10 := Lib.hid (R6.out.below hwj (Nat.le_refl _))
            clear hbj hLj hwj
            by_cases hjl : j < ln
            · obtain ⟨g, o, rfl, hgl, hc⟩ := R10.out.cells.resolve_left (by omega)
              obtain ⟨p, hp, hf, hp1, hp59⟩ := partsV_at HOK.out (i := j) (by rw [← HLN.out]; exact hjl)
              have hjlI : (j : Int) < (ln : Int) := by omega
              have hp1I : ¬ (p : Int) < 1 := by omega
              have hp1d : decide ((p : Int) < 1) = false := decide_eq_false hp1I
              have c0 := hc j hjl
              rw [hp] at c0
              have hcall := ask_set (small_ok HSM.out) p m
              rw [hf] at hcall
              have HEF := Lib.hid (fun W (hL : LibAt m W) => hcall W (by omega) (by omega) hL)
              have HLD := Lib.hid (HL10.out.below (Below.refl _ _).drew)
              have HBD := Lib.hid HB10.out.drew
              have HWD := Lib.hid HW10.out.drew
              clear hcall hf
              by_cases hj0 : j = 0
              · subst hj0
                rw [Nat.add_zero] at c0
                have HEK := Lib.hid (fun W (h : PartCells g o o p p w w9 m W) => parts_ask (HEF.out W h.2.2.2.1) h)
                have hS : PartCells g o o p p w w9 m wr.drew := ⟨c0, c0, HBD.out, HLD.out, HWD.out⟩
                clear hc hp HEF
                unfold PartCells at HEK hS
                have HS := Lib.hid hS
                go_wp2
                refine wp_region_noPanic ?_
                refine wp_region_held_drew (S := fun w' => w'.cell? ⟨g, o, none⟩ = some (.int .i64 p) ∧ w'.cell? ⟨g, o, none⟩ = some (.int .i64 p) ∧ Below w.heap.size w w' ∧ LibAt m w' ∧ Below w9.heap.size w9 w') (by kernel_rfl) (HS.out) (fun HS => ?_)
                refine' doH 0 (v := ?v0) rfl (by kernel_rfl) (by kernel_rfl) (by kernel_rfl) (fun _ _ _ h => h) rfl HS ?hyv0 ?restv0
                case hyv0 => (rintro w ⟨s0, s1, s2, s3, s4⟩; go_simp; try with_reducible rfl)
                try simp only [Act.put, List.setIfInBounds_toArray, List.set_cons_zero, List.set_cons_succ]
                refine' doH 1 (v := ?v1) rfl (by kernel_rfl) (by kernel_rfl) (by kernel_rfl) (fun _ _ _ h => h) rfl HS ?hyv1 ?restv1
                case hyv1 => (rintro w ⟨s0, s1, s2, s3, s4⟩; go_simp; try with_reducible rfl)
                try simp only [Act.put, List.setIfInBounds_toArray, List.set_cons_zero, List.set_cons_succ]
                refine' doH 2 (v := ?v2) rfl (by kernel_rfl) (by kernel_rfl) (by kernel_rfl) (fun _ _ _ h => h) rfl HS ?hyv2 ?restv2
                case hyv2 => (rintro w ⟨s0, s1, s2, s3, s4⟩; go_simp; try with_reducible rfl)
                try simp only [Act.put, List.setIfInBounds_toArray, List.set_cons_zero, List.set_cons_succ]
                refine' doH 3 (v := ?v3) rfl (by kernel_rfl) (by kernel_rfl) (by kernel_rfl) (fun _ _ _ h => h) rfl HS ?hyv3 ?restv3
                case hyv3 => (rintro w ⟨s0, s1, s2, s3, s4⟩; go_simp; try with_reducible rfl)
                try simp only [Act.put, List.setIfInBounds_toArray, List.set_cons_zero, List.set_cons_succ]
                refine' doH 4 (v := .int .i64 p) rfl (by kernel_rfl) (by kernel_rfl) (by kernel_rfl) (fun _ _ _ h => h) rfl HS ?hyv4 ?restv4
                case hyv4 => (rintro w ⟨s0, s1, s2, s3, s4⟩; go_simp; try with_reducible rfl)
                try simp only [Act.put, List.setIfInBounds_toArray, List.set_cons_zero, List.set_cons_succ]
                refine oneH 5 (by kernel_rfl) rfl (fun K5 hK5 => ?_)
                go_simp
                refine (HEK.out _ HS).mono ?_
                rintro e w11 ⟨rfl, hb11⟩
                refine hK5.out _ _ (hb11) (fun HS => ?_)
                clear hK5 K5
                try simp only [Act.put, List.setIfInBounds_toArray, List.set_cons_zero, List.set_cons_succ]
                refine' doH 6 (v := .bool false) rfl (by kernel_rfl) (by kernel_rfl) (by kernel_rfl) (fun _ _ _ h => h) rfl HS ?hyv6 ?restv6
                case hyv6 => (rintro w ⟨s0, s1, s2, s3, s4⟩; go_simp; try with_reducible rfl)
                try simp only [Act.put, List.setIfInBounds_toArray, List.set_cons_zero, List.set_cons_succ]
                refine' doH 7 (v := .bool false) rfl (by kernel_rfl) (by kernel_rfl) (by kernel_rfl) (fun _ _ _ h => h) rfl HS ?hyv7 ?restv7
                case hyv7 => (rintro w ⟨s0, s1, s2, s3, s4⟩; go_simp; try with_reducible rfl)
                try simp only [Act.put, List.setIfInBounds_toArray, List.set_cons_zero, List.set_cons_succ]
                refine' doH 8 (v := ?v8) rfl (by kernel_rfl) (by kernel_rfl) (by kernel_rfl) (fun _ _ _ h => h) rfl HS ?hyv8 ?restv8
                case hyv8 => (rintro w ⟨s0, s1, s2, s3, s4⟩; go_simp; try with_reducible rfl)
                try simp only [Act.put, List.setIfInBounds_toArray, List.set_cons_zero, List.set_cons_succ]
                refine' doH 9 (v := ?v9) rfl (by kernel_rfl) (by kernel_rfl) (by kernel_rfl) (fun _ _ _ h => h) rfl HS ?hyv9 ?restv9
                case hyv9 => (rintro w ⟨s0, s1, s2, s3, s4⟩; go_simp; try with_reducible rfl)
                try simp only [Act.put, List.setIfInBounds_toArray, List.set_cons_zero, List.set_cons_succ]
                refine' doH 10 (v := ?v10) rfl (by kernel_rfl) (by kernel_rfl) (by kernel_rfl) (fun _ _ _ h => h) rfl HS ?hyv10 ?restv10
                case hyv10 => (rintro w ⟨s0, s1, s2, s3, s4⟩; go_simp; try with_reducible rfl)
                try simp only [Act.put, List.setIfInBounds_toArray, List.set_cons_zero, List.set_cons_succ]
                refine' doH 11 (v := .int .i64 p) rfl (by kernel_rfl) (by kernel_rfl) (by kernel_rfl) (fun _ _ _ h => h) rfl HS ?hyv11 ?restv11
                case hyv11 => (rintro w ⟨s0, s1, s2, s3, s4⟩; go_simp; try with_reducible rfl)
                try simp only [Act.put, List.setIfInBounds_toArray, List.set_cons_zero, List.set_cons_succ]
                refine' doH 12 (v := .bool false) rfl (by kernel_rfl) (by kernel_rfl) (by kernel_rfl) (fun _ _ _ h => h) rfl HS ?hyv12 ?restv12
                case hyv12 => (rintro w ⟨s0, s1, s2, s3, s4⟩; go_simp; try with_reducible rfl)
                try simp only [Act.put, List.setIfInBounds_toArray, List.set_cons_zero, List.set_cons_succ]
                refine' doH 13 (v := .bool false) rfl (by kernel_rfl) (by kernel_rfl) (by kernel_rfl) (fun _ _ _ h => h) rfl HS ?hyv13 ?restv13
                case hyv13 => (rintro w ⟨s0, s1, s2, s3, s4⟩; go_simp; try with_reducible rfl)
                try simp only [Act.put, List.setIfInBounds_toArray, List.set_cons_zero, List.set_cons_succ]
                refine' doH 14 (v := .bool false) rfl (by kernel_rfl) (by kernel_rfl) (by kernel_rfl) (fun _ _ _ h => h) rfl HS ?hyv14 ?restv14
                case hyv14 => (rintro w ⟨s0, s1, s2, s3, s4⟩; go_simp; try with_reducible rfl)
                try simp only [Act.put, List.setIfInBounds_toArray, List.set_cons_zero, List.set_cons_succ]
                refine' doH 15 (v := ?v15) rfl (by kernel_rfl) (by kernel_rfl) (by kernel_rfl) (fun _ _ _ h => h) rfl HS ?hyv15 ?restv15
                case hyv15 => (rintro w ⟨s0, s1, s2, s3, s4⟩; go_simp; try with_reducible rfl)
                try simp only [Act.put, List.setIfInBounds_toArray, List.set_cons_zero, List.set_cons_succ]
                refine' doH 16 (v := .bool false) rfl (by kernel_rfl) (by kernel_rfl) (by kernel_rfl) (fun _ _ _ h => h) rfl HS ?hyv16 ?restv16
                case hyv16 => (rintro w ⟨s0, s1, s2, s3, s4⟩; go_simp; try with_reducible rfl)
                try simp only [Act.put, List.setIfInBounds_toArray, List.set_cons_zero, List.set_cons_succ]
                refine' doH 17 (v := .bool false) rfl (by kernel_rfl) (by kernel_rfl) (by kernel_rfl) (fun _ _ _ h => h) rfl HS ?hyv17 ?restv17
                case hyv17 => (rintro w ⟨s0, s1, s2, s3, s4⟩; go_simp; try with_reducible rfl)
                try simp only [Act.put, List.setIfInBounds_toArray, List.set_cons_zero, List.set_cons_succ]
                refine skipH 18 rfl (by kernel_rfl) (by kernel_rfl) (by kernel_rfl) (fun _ _ _ h => h) rfl HS ?_
                try simp only [Act.put, List.setIfInBounds_toArray, List.set_cons_zero, List.set_cons_succ]
                refine skipH 19 rfl (by kernel_rfl) (by kernel_rfl) (by kernel_rfl) (fun _ _ _ h => h) rfl HS ?_
                try simp only [Act.put, List.setIfInBounds_toArray, List.set_cons_zero, List.set_cons_succ]
                refine skipH 20 rfl (by kernel_rfl) (by kernel_rfl) (by kernel_rfl) (fun _ _ _ h => h) rfl HS ?_
                try simp only [Act.put, List.setIfInBounds_toArray, List.set_cons_zero, List.set_cons_succ]
                refine skipH 21 rfl (by kernel_rfl) (by kernel_rfl) (by kernel_rfl) (fun _ _ _ h => h) rfl HS ?_
                try simp only [Act.put, List.setIfInBounds_toArray, List.set_cons_zero, List.set_cons_succ]
                refine skipH 22 rfl (by kernel_rfl) (by kernel_rfl) (by kernel_rfl) (fun _ _ _ h => h) rfl HS ?_
                try simp only [Act.put, List.setIfInBounds_toArray, List.set_cons_zero, List.set_cons_succ]
                refine skipH 23 rfl (by kernel_rfl) (by kernel_rfl) (by kernel_rfl) (fun _ _ _ h => h) rfl HS ?_
                try simp only [Act.put, List.setIfInBounds_toArray, List.set_cons_zero, List.set_cons_succ]
                refine skipH 24 rfl (by kernel_rfl) (by kernel_rfl) (by kernel_rfl) (fun _ _ _ h => h) rfl HS ?_
                try simp only [Act.put, List.setIfInBounds_toArray, List.set_cons_zero, List.set_cons_succ]
                refine skipH 25 rfl (by kernel_rfl) (by kernel_rfl) (by kernel_rfl) (fun _ _ _ h => h) rfl HS ?_
                try simp only [Act.put, List.setIfInBounds_toArray, List.set_cons_zero, List.set_cons_succ]
                refine skipH 26 rfl (by kernel_rfl) (by kernel_rfl) (by kernel_rfl) (fun _ _ _ h => h) rfl HS ?_
                try simp only [Act.put, List.setIfInBounds_toArray, List.set_cons_zero, List.set_cons_succ]
                refine skipH 27 rfl (by kernel_rfl) (by kernel_rfl) (by kernel_rfl) (fun _ _ _ h => h) rfl HS ?_
                try simp only [Act.put, List.setIfInBounds_toArray, List.set_cons_zero, List.set_cons_succ]
                refine' doH 28 (v := .bool false) rfl (by kernel_rfl) (by kernel_rfl) (by kernel_rfl) (fun _ _ _ h => h) rfl HS ?hyv28 ?restv28
                case hyv28 => (rintro w ⟨s0, s1, s2, s3, s4⟩; go_simp; try with_reducible rfl)
                try simp only [Act.put, List.setIfInBounds_toArray, List.set_cons_zero, List.set_cons_succ]
                refine' doH 29 (v := .bool false) rfl (by kernel_rfl) (by kernel_rfl) (by kernel_rfl) (fun _ _ _ h => h) rfl HS ?hyv29 ?restv29
                case hyv29 => (rintro w ⟨s0, s1, s2, s3, s4⟩; go_simp; try with_reducible rfl)
                try simp only [Act.put, List.setIfInBounds_toArray, List.set_cons_zero, List.set_cons_succ]
                refine wpAnyH_done (by kernel_rfl) ?_ _
                refine NoPanic.normal ?_
                go_wp2
                go_roundw
                case rel => exact ⟨1, by go_num, by omega, HS.2.2.1, HS.2.2.2.1, HS.2.2.2.2⟩
                case measure => simp [intOf]; omega
              · obtain ⟨i, rfl⟩ : ∃ i, j = i + 1 := ⟨j - 1, by omega⟩
                have hup := partsV_up HOK.out (i := i) (by rw [← HLN.out]; exact hjl)
                obtain ⟨q, hq, _, hq1, hq59⟩ := partsV_at HOK.out (i := i) (by rw [← HLN.out]; omega)
                have c1 := hc i (by omega)
                rw [hq] at c1
                rw [hq, hp] at hup
                have hpq : ¬ (p : Int) ≤ (q : Int) := by omega
                have hpqd : decide ((p : Int) ≤ (q : Int)) = false := decide_eq_false hpq
                have hiI : (i : Int) < (ln : Int) := by omega
                have hi1 : (i : Int) + 1 < (ln : Int) := by omega
                have hwi : IntKind.i64.wrap (i : Int) = (i : Int) := IntWalk.i64_in _ (by omega)
                have hi0n : (0 : Int) ≤ (i : Int) + 1 := by omega
                have hi0m : (0 : Int) ≤ (i : Int) := by omega
                have hi0d : decide ((0 : Int) < (i : Int) + 1) = true := decide_eq_true (by omega)
                have HEK := Lib.hid (fun W (h : PartCells g (o + (i + 1)) (o + i) p q w w9 m W) => parts_ask (HEF.out W h.2.2.2.1) h)
                have hS : PartCells g (o + (i + 1)) (o + i) p q w w9 m wr.drew := ⟨c0, c1, HBD.out, HLD.out, HWD.out⟩
                clear hc hp hq hup hj0 HEF
                unfold PartCells at HEK hS
                have HS := Lib.hid hS
                go_wp2
                refine wp_region_noPanic ?_
                refine wp_region_held_drew (S := fun w' => w'.cell? ⟨g, o + (i + 1), none⟩ = some (.int .i64 p) ∧ w'.cell? ⟨g, o + i, none⟩ = some (.int .i64 q) ∧ Below w.heap.size w w' ∧ LibAt m w' ∧ Below w9.heap.size w9 w') (by kernel_rfl) (HS.out) (fun HS => ?_)
                refine' doH 0 (v := ?u0) rfl (by kernel_rfl) (by kernel_rfl) (by kernel_rfl) (fun _ _ _ h => h) rfl HS ?hyu0 ?restu0
                case hyu0 => (rintro w ⟨s0, s1, s2, s3, s4⟩; go_simp; try with_reducible rfl)
                try simp only [Act.put, List.setIfInBounds_toArray, List.set_cons_zero, List.set_cons_succ]
                refine' doH 1 (v := ?u1) rfl (by kernel_rfl) (by kernel_rfl) (by kernel_rfl) (fun _ _ _ h => h) rfl HS ?hyu1 ?restu1
                case hyu1 => (rintro w ⟨s0, s1, s2, s3, s4⟩; go_simp; try with_reducible rfl)
                try simp only [Act.put, List.setIfInBounds_toArray, List.set_cons_zero, List.set_cons_succ]
                refine' doH 2 (v := ?u2) rfl (by kernel_rfl) (by kernel_rfl) (by kernel_rfl) (fun _ _ _ h => h) rfl HS ?hyu2 ?restu2
                case hyu2 => (rintro w ⟨s0, s1, s2, s3, s4⟩; go_simp; try with_reducible rfl)
                try simp only [Act.put, List.setIfInBounds_toArray, List.set_cons_zero, List.set_cons_succ]
                refine' doH 3 (v := ?u3) rfl (by kernel_rfl) (by kernel_rfl) (by kernel_rfl) (fun _ _ _ h => h) rfl HS ?hyu3 ?restu3
                case hyu3 => (rintro w ⟨s0, s1, s2, s3, s4⟩; go_simp; try with_reducible rfl)
                try simp only [Act.put, List.setIfInBounds_toArray, List.set_cons_zero, List.set_cons_succ]
                refine' doH 4 (v := .int .i64 p) rfl (by kernel_rfl) (by kernel_rfl) (by kernel_rfl) (fun _ _ _ h => h) rfl HS ?hyu4 ?restu4
                case hyu4 => (rintro w ⟨s0, s1, s2, s3, s4⟩; go_simp; try with_reducible rfl)
                try simp only [Act.put, List.setIfInBounds_toArray, List.set_cons_zero, List.set_cons_succ]
                refine oneH 5 (by kernel_rfl) rfl (fun K5 hK5 => ?_)
                go_simp
                refine (HEK.out _ HS).mono ?_
                rintro e w11 ⟨rfl, hb11⟩
                refine hK5.out _ _ (hb11) (fun HS => ?_)
                clear hK5 K5
                try simp only [Act.put, List.setIfInBounds_toArray, List.set_cons_zero, List.set_cons_succ]
                refine' doH 6 (v := .bool false) rfl (by kernel_rfl) (by kernel_rfl) (by kernel_rfl) (fun _ _ _ h => h) rfl HS ?hyu6 ?restu6
                case hyu6 => (rintro w ⟨s0, s1, s2, s3, s4⟩; go_simp; try with_reducible rfl)
                try simp only [Act.put, List.setIfInBounds_toArray, List.set_cons_zero, List.set_cons_succ]
                refine' doH 7 (v := .bool false) rfl (by kernel_rfl) (by kernel_rfl) (by kernel_rfl) (fun _ _ _ h => h) rfl HS ?hyu7 ?restu7
                case hyu7 => (rintro w ⟨s0, s1, s2, s3, s4⟩; go_simp; try with_reducible rfl)
                try simp only [Act.put, List.setIfInBounds_toArray, List.set_cons_zero, List.set_cons_succ]
                refine' doH 8 (v := ?u8) rfl (by kernel_rfl) (by kernel_rfl) (by kernel_rfl) (fun _ _ _ h => h) rfl HS ?hyu8 ?restu8
                case hyu8 => (rintro w ⟨s0, s1, s2, s3, s4⟩; go_simp; try with_reducible rfl)
                try simp only [Act.put, List.setIfInBounds_toArray, List.set_cons_zero, List.set_cons_succ]
                refine' doH 9 (v := ?u9) rfl (by kernel_rfl) (by kernel_rfl) (by kernel_rfl) (fun _ _ _ h => h) rfl HS ?hyu9 ?restu9
                case hyu9 => (rintro w ⟨s0, s1, s2, s3, s4⟩; go_simp; try with_reducible rfl)
                try simp only [Act.put, List.setIfInBounds_toArray, List.set_cons_zero, List.set_cons_succ]
                refine' doH 10 (v := ?u10) rfl (by kernel_rfl) (by kernel_rfl) (by kernel_rfl) (fun _ _ _ h => h) rfl HS ?hyu10 ?restu10
                case hyu10 => (rintro w ⟨s0, s1, s2, s3, s4⟩; go_simp; try with_reducible rfl)
                try simp only [Act.put, List.setIfInBounds_toArray, List.set_cons_zero, List.set_cons_succ]
                refine' doH 11 (v := .int .i64 p) rfl (by kernel_rfl) (by kernel_rfl) (by kernel_rfl) (fun _ _ _ h => h) rfl HS ?hyu11 ?restu11
                case hyu11 => (rintro w ⟨s0, s1, s2, s3, s4⟩; go_simp; try with_reducible rfl)
                try simp only [Act.put, List.setIfInBounds_toArray, List.set_cons_zero, List.set_cons_succ]
                refine' doH 12 (v := .bool false) rfl (by kernel_rfl) (by kernel_rfl) (by kernel_rfl) (fun _ _ _ h => h) rfl HS ?hyu12 ?restu12
                case hyu12 => (rintro w ⟨s0, s1, s2, s3, s4⟩; go_simp; try with_reducible rfl)
                try simp only [Act.put, List.setIfInBounds_toArray, List.set_cons_zero, List.set_cons_succ]
                refine' doH 13 (v := .bool false) rfl (by kernel_rfl) (by kernel_rfl) (by kernel_rfl) (fun _ _ _ h => h) rfl HS ?hyu13 ?restu13
                case hyu13 => (rintro w ⟨s0, s1, s2, s3, s4⟩; go_simp; try with_reducible rfl)
                try simp only [Act.put, List.setIfInBounds_toArray, List.set_cons_zero, List.set_cons_succ]
                refine' doH 14 (v := .bool false) rfl (by kernel_rfl) (by kernel_rfl) (by kernel_rfl) (fun _ _ _ h => h) rfl HS ?hyu14 ?restu14
                case hyu14 => (rintro w ⟨s0, s1, s2, s3, s4⟩; go_simp; try with_reducible rfl)
                try simp only [Act.put, List.setIfInBounds_toArray, List.set_cons_zero, List.set_cons_succ]
                refine' doH 15 (v := ?u15) rfl (by kernel_rfl) (by kernel_rfl) (by kernel_rfl) (fun _ _ _ h => h) rfl HS ?hyu15 ?restu15
                case hyu15 => (rintro w ⟨s0, s1, s2, s3, s4⟩; go_simp; try with_reducible rfl)
                try simp only [Act.put, List.setIfInBounds_toArray, List.set_cons_zero, List.set_cons_succ]
                refine' doH 16 (v := .bool true) rfl (by kernel_rfl) (by kernel_rfl) (by kernel_rfl) (fun _ _ _ h => h) rfl HS ?hyu16 ?restu16
                case hyu16 => (rintro w ⟨s0, s1, s2, s3, s4⟩; go_simp; try with_reducible rfl)
                try simp only [Act.put, List.setIfInBounds_toArray, List.set_cons_zero, List.set_cons_succ]
                refine' doH 17 (v := .bool true) rfl (by kernel_rfl) (by kernel_rfl) (by kernel_rfl) (fun _ _ _ h => h) rfl HS ?hyu17 ?restu17
                case hyu17 => (rintro w ⟨s0, s1, s2, s3, s4⟩; go_simp; try with_reducible rfl)
                try simp only [Act.put, List.setIfInBounds_toArray, List.set_cons_zero, List.set_cons_succ]
                refine' doH 18 (v := ?u18) rfl (by kernel_rfl) (by kernel_rfl) (by kernel_rfl) (fun _ _ _ h => h) rfl HS ?hyu18 ?restu18
                case hyu18 => (rintro w ⟨s0, s1, s2, s3, s4⟩; go_simp; try with_reducible rfl)
                try simp only [Act.put, List.setIfInBounds_toArray, List.set_cons_zero, List.set_cons_succ]
                refine' doH 19 (v := ?u19) rfl (by kernel_rfl) (by kernel_rfl) (by kernel_rfl) (fun _ _ _ h => h) rfl HS ?hyu19 ?restu19
                case hyu19 => (rintro w ⟨s0, s1, s2, s3, s4⟩; go_simp; try with_reducible rfl)
                try simp only [Act.put, List.setIfInBounds_toArray, List.set_cons_zero, List.set_cons_succ]
                refine' doH 20 (v := .int .i64 i) rfl (by kernel_rfl) (by kernel_rfl) (by kernel_rfl) (fun _ _ _ h => h) rfl HS ?hyu20 ?restu20
                case hyu20 => (rintro w ⟨s0, s1, s2, s3, s4⟩; go_simp; try with_reducible rfl)
                try simp only [Act.put, List.setIfInBounds_toArray, List.set_cons_zero, List.set_cons_succ]
                refine' doH 21 (v := ?u21) rfl (by kernel_rfl) (by kernel_rfl) (by kernel_rfl) (fun _ _ _ h => h) rfl HS ?hyu21 ?restu21
                case hyu21 => (rintro w ⟨s0, s1, s2, s3, s4⟩; go_simp; try with_reducible rfl)
                try simp only [Act.put, List.setIfInBounds_toArray, List.set_cons_zero, List.set_cons_succ]
                refine' doH 22 (v := .int .i64 q) rfl (by kernel_rfl) (by kernel_rfl) (by kernel_rfl) (fun _ _ _ h => h) rfl HS ?hyu22 ?restu22
                case hyu22 => (rintro w ⟨s0, s1, s2, s3, s4⟩; go_simp; try with_reducible rfl)
                try simp only [Act.put, List.setIfInBounds_toArray, List.set_cons_zero, List.set_cons_succ]
                refine' doH 23 (v := ?u23) rfl (by kernel_rfl) (by kernel_rfl) (by kernel_rfl) (fun _ _ _ h => h) rfl HS ?hyu23 ?restu23
                case hyu23 => (rintro w ⟨s0, s1, s2, s3, s4⟩; go_simp; try with_reducible rfl)
                try simp only [Act.put, List.setIfInBounds_toArray, List.set_cons_zero, List.set_cons_succ]
                refine' doH 24 (v := ?u24) rfl (by kernel_rfl) (by kernel_rfl) (by kernel_rfl) (fun _ _ _ h => h) rfl HS ?hyu24 ?restu24
                case hyu24 => (rintro w ⟨s0, s1, s2, s3, s4⟩; go_simp; try with_reducible rfl)
                try simp only [Act.put, List.setIfInBounds_toArray, List.set_cons_zero, List.set_cons_succ]
                refine' doH 25 (v := ?u25) rfl (by kernel_rfl) (by kernel_rfl) (by kernel_rfl) (fun _ _ _ h => h) rfl HS ?hyu25 ?restu25
                case hyu25 => (rintro w ⟨s0, s1, s2, s3, s4⟩; go_simp; try with_reducible rfl)
                try simp only [Act.put, List.setIfInBounds_toArray, List.set_cons_zero, List.set_cons_succ]
                refine' doH 26 (v := .int .i64 p) rfl (by kernel_rfl) (by kernel_rfl) (by kernel_rfl) (fun _ _ _ h => h) rfl HS ?hyu26 ?restu26
                case hyu26 => (rintro w ⟨s0, s1, s2, s3, s4⟩; go_simp; try with_reducible rfl)
                try simp only [Act.put, List.setIfInBounds_toArray, List.set_cons_zero, List.set_cons_succ]
                refine' doH 27 (v := .bool false) rfl (by kernel_rfl) (by kernel_rfl) (by kernel_rfl) (fun _ _ _ h => h) rfl HS ?hyu27 ?restu27
                case hyu27 => (rintro w ⟨s0, s1, s2, s3, s4⟩; go_simp; (try omega); (try with_reducible rfl))
                try simp only [Act.put, List.setIfInBounds_toArray, List.set_cons_zero, List.set_cons_succ]
                refine' doH 28 (v := .bool false) rfl (by kernel_rfl) (by kernel_rfl) (by kernel_rfl) (fun _ _ _ h => h) rfl HS ?hyu28 ?restu28
                case hyu28 => (rintro w ⟨s0, s1, s2, s3, s4⟩; go_simp; try with_reducible rfl)
                try simp only [Act.put, List.setIfInBounds_toArray, List.set_cons_zero, List.set_cons_succ]
                refine' doH 29 (v := .bool false) rfl (by kernel_rfl) (by kernel_rfl) (by kernel_rfl) (fun _ _ _ h => h) rfl HS ?hyu29 ?restu29
                case hyu29 => (rintro w ⟨s0, s1, s2, s3, s4⟩; go_simp; try with_reducible rfl)
                try simp only [Act.put, List.setIfInBounds_toArray, List.set_cons_zero, List.set_cons_succ]
                refine wpAnyH_done (by kernel_rfl) ?_ _
                refine NoPanic.normal ?_
                go_wp2
                go_roundw
                case rel => exact ⟨i + 1 + 1, by go_num, by omega, HS.2.2.1, HS.2.2.2.1, HS.2.2.2.2⟩
                case measure => simp [intOf]; omega
            · obtain rfl : j = ln := by omega
              go_wp2
              go_ret
              exact ⟨rfl, HB10.out⟩
  · have hd : (1048576 : Int) < (n : Int) := by omega
    go_enter Try.func9, Try.ntmps9
    go_wp2
    go_ret
    exact ⟨rfl, Below.refl _ _⟩
end Go.Proofs.Ytcacdgojibojgad
