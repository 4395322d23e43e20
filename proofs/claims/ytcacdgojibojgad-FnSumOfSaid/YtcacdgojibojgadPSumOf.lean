/-
  The walk of the law FnSumOf.
-/
import Derived.Test.YtcacdgojibojgadPSumBase
import Derived.Test.YtcacdgojibojgadSpecSum
import Derived.Test.YtcacdgojibojgadSumOfAny
set_option linter.unusedVariables false
set_option linter.unusedSimpArgs false
namespace Go.Proofs.Ytcacdgojibojgad
open Go.RowKit

theorem law_less (n x : Nat) (h : x ≤ n) : n + 1 - (intOf (.int .i64 ((x : Int) + 1))).toNat < n + 1 - (intOf (.int .i64 x)).toNat := by
  show n + 1 - ((x : Int) + 1).toNat < n + 1 - ((x : Int)).toNat
  omega
theorem sumF_step {d : Bool} {f g : Nat → Bool} {n x : Nat} {b c : Bool} (h : someF (sumT d f g n) 0 x = b) (h2 : sumT d f g n x = c) : someF (sumT d f g n) 0 (x + 1) = (b || c) := by
  unfold someF; rw [h, Nat.zero_add, h2]

set_option maxRecDepth 100000 in
set_option maxHeartbeats 4000000 in
theorem pSumOf (a : Option Addr) (n c : Nat) (zs : List Int) (w : World) (hr : IsRow .u8 w a n c zs) (m : Int) (hg : 0 < w.heap.size) (hm : w.cell? ⟨0, 0, none⟩ = some (.int .i64 m)) :
    Calls Try.prog 3 #[.slice a n c] w fun e w' => e = .returned (.bool true) ∧ Below w.heap.size w w' := by
  by_cases hn : n ≤ 1048576
  · have hL : LibAt m w := ⟨hg, hm⟩
    clear hg hm
    have hB := Lib.hid hr.bytes
    have hC := Lib.hid hr.cap
    clear hr
    go_enter Try.func3, Try.ntmps3
    go_wp2_with fail
    refine (drawSumOf a n c _ hB.out hn hC.out).mono ?_
    rintro e w1 ⟨s, t, rfl, hs, ht, hb1⟩
    have HB1 := Lib.hid hb1
    have HL1 := Lib.hid (hL.below hb1)
    clear hb1
    go_wp2_with fail
    refine (implSum s t m _ (by omega) (by omega) HL1.out).mono ?_
    rintro e w2 ⟨⟨T, b, rfl, hm2⟩, hx2⟩
    have HB2 := Lib.hid (below_step HB1.out hx2)
    have HL2 := Lib.hid (HL1.out.below hx2)
    have HM := Lib.hid hm2
    clear hx2 hm2
    go_wp2_with fail
    refine (specSum s t _ (by omega) (by omega)).mono ?_
    rintro e w3 ⟨⟨U, c, rfl, hm3⟩, hx3⟩
    have HB3 := Lib.hid (below_step HB2.out hx3)
    have HL3 := Lib.hid (HL2.out.below hx3)
    obtain ⟨rfl, rfl⟩ := makeIs_unique HM.out hm3
    clear hx3 hm3
    cases b
    · go_wp2
      go_ret
      exact ⟨ret_bool (by simp), HB3.out⟩
    · obtain ⟨hok, hT⟩ := makeIs_told HM.out
      have HT := Lib.hid hT
      have HO := Lib.hid hT.told.ok
      have HF := Lib.hid hT.told.set
      have hTs := told_size hT.told.ok
      go_wp2_with fail
      refine (implSum t s m _ (by omega) (by omega) HL3.out).mono ?_
      rintro e w4 ⟨⟨V, d, rfl, hm4⟩, hx4⟩
      have HB4 := Lib.hid (below_step HB3.out hx4)
      have HL4 := Lib.hid (HL3.out.below hx4)
      have hm5 : MakeIs (smallS s && smallS t) (sumG false (fS s) (fS t)) V d := by rw [Bool.and_comm, sumG_comm]; exact hm4
      obtain ⟨rfl, rfl⟩ := makeIs_unique HM.out hm5
      clear hx4 hm4 hm5
      have HS1 := Lib.hid (small_ok (and_left hok))
      have HS2 := Lib.hid (small_ok (and_right hok))
      clear HM hT
      go_wp2
      go_loopw [12] (fun i wr => ∃ z : Nat, i = .int .i64 z ∧ z ≤ 61 ∧ Below w.heap.size w wr ∧ LibAt m wr) (fun i _ => 62 - (intOf i).toNat)
      case atStart => exact ⟨0, rfl, by omega, HB4.out, HL4.out⟩
      case round =>
        obtain ⟨z, rfl, hz, hbz, hLz⟩ := hrel
        have HB0 := Lib.hid hbz
        have HL0 := Lib.hid hLz
        clear hbz hLz
        by_cases hlt : z ≤ 60
        · have hltI : (z : Int) ≤ 60 := by omega
          go_wp2
          go_loopw [13, 14] (fun sv i wr => ∃ x : Nat, i = .int .i64 x ∧ x ≤ z + 1 ∧ sv = .bool (someF (sumT false (fS s) (fS t) z) 0 x) ∧ Below w.heap.size w wr ∧ LibAt m wr) (fun _ i _ => z + 1 - (intOf i).toNat)
          case atStart => exact ⟨0, rfl, by omega, rfl, HB0.out, HL0.out⟩
          case round =>
            obtain ⟨x, rfl, hx, rfl, hbx, hLx⟩ := hrel
            have HB5 := Lib.hid hbx
            have HL5 := Lib.hid hLx
            clear hbx hLx HB0 HL0
            by_cases hxz : x ≤ z
            · obtain ⟨y, hy⟩ : ∃ y, y = z - x := ⟨_, rfl⟩
              have hyi : (z : Int) - (x : Int) = (y : Int) := by omega
              have hy2 : y ≤ z := by omega
              have HY := Lib.hid hy
              clear hy
              cases hso : someF (sumT false (fS s) (fS t) z) 0 x
              · have ef := ask_set HS1.out x m
                cases hf : fS s x
                · have HS := Lib.hid (sumF_step hso (show sumT false (fS s) (fS t) z x = false by unfold sumT; rw [hf]; rfl))
                  rw [hf] at ef
                  clear hso hf
                  go_wp2_with fail
                  refine (ef _ (by omega) (by omega) HL5.out).mono ?_
                  rintro e w6 ⟨rfl, hx6⟩
                  have HB6 := Lib.hid (below_step HB5.out hx6)
                  have HL6 := Lib.hid (HL5.out.below hx6)
                  clear hx6 ef
                  go_wp2
                  go_roundw
                  case rel => exact ⟨x + 1, by go_num, by omega, by rw [HS.out]; rfl, HB6.out, HL6.out⟩
                  case measure => exact law_less z x (by omega)
                · have eg := ask_set HS2.out y m
                  obtain ⟨b, hb⟩ : ∃ b, fS t y = b := ⟨_, rfl⟩
                  have HS := Lib.hid (sumF_step hso (show sumT false (fS s) (fS t) z x = b by unfold sumT; rw [← HY.out, hf, hb]; simp))
                  rw [hf] at ef
                  rw [hb] at eg
                  clear hso hf hb
                  go_wp2_with fail
                  refine (ef _ (by omega) (by omega) HL5.out).mono ?_
                  rintro e w6 ⟨rfl, hx6⟩
                  have HB6 := Lib.hid (below_step HB5.out hx6)
                  have HL6 := Lib.hid (HL5.out.below hx6)
                  clear hx6 ef
                  go_wp2_with fail
                  refine (eg _ (by omega) (by omega) HL6.out).mono ?_
                  rintro e w7 ⟨rfl, hx7⟩
                  have HB7 := Lib.hid (below_step HB6.out hx7)
                  have HL7 := Lib.hid (HL6.out.below hx7)
                  clear hx7 eg
                  go_wp2
                  go_roundw
                  case rel => exact ⟨x + 1, by go_num, by omega, by rw [HS.out]; rfl, HB7.out, HL7.out⟩
                  case measure => exact law_less z x (by omega)
              · have HS : Hid (someF (sumT false (fS s) (fS t) z) 0 (x + 1) = true) := Lib.hid (sumF_step hso rfl)
                clear hso
                go_wp2
                go_roundw
                case rel => exact ⟨x + 1, by go_num, by omega, by rw [HS.out], HB5.out, HL5.out⟩
                case measure => exact law_less z x (by omega)
            · obtain rfl : x = z + 1 := by omega
              obtain ⟨b, hb⟩ : ∃ b, someF (sumT false (fS s) (fS t) z) 0 (z + 1) = b := ⟨_, rfl⟩
              have eT := ask_set HO.out z m
              have HZ : fS T z = b := by rw [HF.out]; exact hb
              rw [HZ] at eT
              rw [hb]
              clear hb HZ
              go_wp2_with fail
              refine (eT _ (by omega) (by omega) HL5.out).mono ?_
              rintro e w6 ⟨rfl, hx6⟩
              have HB6 := Lib.hid (below_step HB5.out hx6)
              have HL6 := Lib.hid (HL5.out.below hx6)
              clear hx6 eT
              cases b
              all_goals
                go_wp2
                go_roundw
                case rel => exact ⟨z + 1, by go_num, by omega, HB6.out, HL6.out⟩
                case measure => simp [intOf]; omega
        · obtain rfl : z = 61 := by omega
          go_wp2
          go_ret
          exact ⟨ret_bool (by simp), HB0.out⟩
  · have hd : (1048576 : Int) < (n : Int) := by omega
    go_enter Try.func3, Try.ntmps3
    go_wp2
    go_ret
    exact ⟨rfl, Below.refl _ _⟩
end Go.Proofs.Ytcacdgojibojgad
