/-
  The walk of the law FnRestSome.
-/
import Derived.Test.YtifodjlfjnmnkaaPRestBase
import Derived.Test.YtifodjlfjnmnkaaSpecQuot
import Derived.Test.YtifodjlfjnmnkaaRestSomeI
set_option linter.unusedVariables false
set_option linter.unusedSimpArgs false
namespace Go.Proofs.Ytifodjlfjnmnkaa
open Go.RowKit

theorem hit_doneSome {s t : ByteArray} (hos : okS s = true) (hot : okS t = true) (hs : s.size ≤ 12) (ht : t.size ≤ 12) (n : Nat) : (hitF false (fS s) (fS t) n 151) = someQ (fS s) (fS t) n := by
  obtain ⟨m1, q1, t1, _, _⟩ := tidy_there hos
  obtain ⟨m2, q2, t2, _, _⟩ := tidy_there hot
  have h1 := small_parts hos hs t1
  have h2 := small_parts hot ht t2
  have h3 : q1 * q2 ≤ 10 * 10 := Nat.mul_le_mul (by omega) (by omega)
  have h0 : 0 < q1 * q2 := Nat.mul_pos t1.pos t2.pos
  have hf : ∀ k, 151 - q1 * q2 ≤ k → fS s (k + q1 * q2) = fS s k := fun k hk => by
    rw [Nat.mul_comm]; exact per_rounds t1.per q2 k (by omega)
  have hg : ∀ k, 151 - q1 * q2 ≤ k → fS t (k + q1 * q2) = fS t k := fun k hk => per_rounds t2.per q1 k (by omega)
  have := hitF_done (all := false) h0 hf hg n
  rw [show 151 - q1 * q2 + q1 * q2 = 151 from by omega] at this
  rw [show quotF false (fS s) (fS t) = someQ (fS s) (fS t) from rfl] at this
  rw [← this]
  cases hitF false (fS s) (fS t) n 151 <;> rfl

set_option maxRecDepth 100000 in
set_option maxHeartbeats 4000000 in
theorem pRestSome (a : Option Addr) (n c : Nat) (zs : List Int) (w : World) (hr : IsRow .u8 w a n c zs) (m : Int) (hg : 0 < w.heap.size) (hm : w.cell? ⟨0, 0, none⟩ = some (.int .i64 m)) :
    Calls Try.prog 3 #[.slice a n c] w fun e w' => e = .returned (.bool true) ∧ Below w.heap.size w w' := by
  by_cases hn : n ≤ 1048576
  · have hL : LibAt m w := ⟨hg, hm⟩
    clear hg hm
    have hB := Lib.hid hr.bytes
    have hC := Lib.hid hr.cap
    clear hr
    go_enter Try.func3, Try.ntmps3
    go_wp2_with fail
    refine (drawRestSome a n c _ hB.out hn hC.out).mono ?_
    rintro e w1 ⟨s, t, rfl, hs, ht, hb1⟩
    have HB1 := Lib.hid hb1
    have HL1 := Lib.hid (hL.below hb1)
    clear hb1
    go_wp2_with fail
    refine (implSome s t m _ (by omega) (by omega) HL1.out).mono ?_
    rintro e w2 ⟨⟨T, b, rfl, hm2⟩, hx2⟩
    have HB2 := Lib.hid (below_step HB1.out hx2)
    have HL2 := Lib.hid (HL1.out.below hx2)
    have HM := Lib.hid hm2
    clear hx2 hm2
    go_wp2_with fail
    refine (specSome s t _ (by omega) (by omega)).mono ?_
    rintro e w3 ⟨⟨U, c, rfl, hm3⟩, hx3⟩
    have HB3 := Lib.hid (below_step HB2.out hx3)
    have HL3 := Lib.hid (HL2.out.below hx3)
    obtain ⟨rfl, rfl⟩ := makeIs_unique HM.out hm3
    clear hx3 hm3
    cases b
    · go_wp2
      go_ret
      exact ⟨ret_bool (by simp), HB3.out⟩
    · obtain ⟨hok, hT⟩ := makeIs_true HM.out
      have HT := Lib.hid hT
      have HO := Lib.hid hT.told.ok
      have HF := Lib.hid hT.told.set
      have hTs := told_size hT.told.ok
      have HOS := Lib.hid (and_left hok)
      have HOT := Lib.hid (and_right hok)
      have HD := Lib.hid (hit_doneSome (and_left hok) (and_right hok) hs ht)
      clear HM hT hok
      go_wp2
      go_loopw [10] (fun i wr => ∃ z : Nat, i = .int .i64 z ∧ z ≤ 41 ∧ Below w.heap.size w wr ∧ LibAt m wr) (fun i _ => 42 - (intOf i).toNat)
      case atStart => exact ⟨0, rfl, by omega, HB3.out, HL3.out⟩
      case round =>
        obtain ⟨z, rfl, hz, hbz, hLz⟩ := hrel
        have HB0 := Lib.hid hbz
        have HL0 := Lib.hid hLz
        clear hbz hLz
        by_cases hlt : z ≤ 40
        · have hltI : (z : Int) ≤ 40 := by omega
          go_wp2
          go_loopw [11, 12] (fun sv i wr => ∃ x : Nat, i = .int .i64 x ∧ x ≤ 151 ∧ sv = .bool (hitF false (fS s) (fS t) z x) ∧ Below w.heap.size w wr ∧ LibAt m wr) (fun _ i _ => 152 - (intOf i).toNat)
          case atStart => exact ⟨0, rfl, by omega, rfl, HB0.out, HL0.out⟩
          case round =>
            obtain ⟨x, rfl, hx, rfl, hbx, hLx⟩ := hrel
            have HB5 := Lib.hid hbx
            have HL5 := Lib.hid hLx
            clear hbx hLx HB0 HL0
            by_cases hxz : x ≤ 150
            · have hxI : (x : Int) ≤ 150 := by omega
              have hnx := hitF_next false (fS s) (fS t) z x
              cases hh : hitF false (fS s) (fS t) z x
              · rw [hh] at hnx
                have eg := ask_set HOT.out x m
                cases hg : fS t x
                · rw [hg] at hnx eg
                  have HS : Hid (hitF false (fS s) (fS t) z (x + 1) = false) := Lib.hid hnx
                  clear hh hg hnx
                  go_wp2_with fail
                  refine (eg _ (by omega) (by omega) HL5.out).mono ?_
                  rintro e w6 ⟨rfl, hx6⟩
                  have HB6 := Lib.hid (below_step HB5.out hx6)
                  have HL6 := Lib.hid (HL5.out.below hx6)
                  clear hx6 eg
                  go_wp2
                  go_roundw
                  case rel => exact ⟨x + 1, by go_num, by omega, (by rw [HS.out]; try rfl), HB6.out, HL6.out⟩
                  case measure => simp [intOf]; omega
                · obtain ⟨b, hb⟩ : ∃ b, fS s (z + x) = b := ⟨_, rfl⟩
                  rw [hg, hb] at hnx
                  rw [hg] at eg
                  have HS := Lib.hid hnx
                  have ef : ∀ W : World, LibAt m W → Calls Try.prog 18 #[.string s, .int .i64 ((z : Int) + (x : Int))] W fun e w' => e = .returned (.bool b) ∧ Below W.heap.size W w' := fun W hW => by
                    have := ask_set HOS.out (z + x) m W (by omega) (by omega) hW
                    rw [hb, Int.natCast_add] at this
                    exact this
                  clear hh hg hb hnx
                  go_wp2_with fail
                  refine (eg _ (by omega) (by omega) HL5.out).mono ?_
                  rintro e w6 ⟨rfl, hx6⟩
                  have HB6 := Lib.hid (below_step HB5.out hx6)
                  have HL6 := Lib.hid (HL5.out.below hx6)
                  clear hx6 eg
                  go_wp2_with fail
                  refine (ef _ HL6.out).mono ?_
                  rintro e w7 ⟨rfl, hx7⟩
                  have HB7 := Lib.hid (below_step HB6.out hx7)
                  have HL7 := Lib.hid (HL6.out.below hx7)
                  clear hx7 ef
                  go_wp2
                  go_roundw
                  case rel => exact ⟨x + 1, by go_num, by omega, by rw [HS.out]; cases b <;> rfl, HB7.out, HL7.out⟩
                  case measure => simp [intOf]; omega
              · rw [hh] at hnx
                have HS : Hid (hitF false (fS s) (fS t) z (x + 1) = true) := Lib.hid hnx
                clear hh hnx
                go_wp2
                go_roundw
                case rel => exact ⟨x + 1, by go_num, by omega, (by rw [HS.out]; try rfl), HB5.out, HL5.out⟩
                case measure => simp [intOf]; omega
            · obtain rfl : x = 151 := by omega
              obtain ⟨b, hb⟩ : ∃ b, someQ (fS s) (fS t) z = b := ⟨_, rfl⟩
              have eT := ask_set HO.out z m
              have HZ : fS T z = b := by rw [HF.out, hb]
              rw [HZ] at eT
              rw [HD.out z, hb]
              clear hb HZ
              go_wp2_with fail
              refine (eT _ (by omega) (by omega) HL5.out).mono ?_
              rintro e w6 ⟨rfl, hx6⟩
              have HB6 := Lib.hid (below_step HB5.out hx6)
              have HL6 := Lib.hid (HL5.out.below hx6)
              clear hx6 eT
              cases b
              all_goals
                go_wp2
                go_roundw
                case rel => exact ⟨z + 1, by go_num, by omega, HB6.out, HL6.out⟩
                case measure => simp [intOf]; omega
        · obtain rfl : z = 41 := by omega
          go_wp2
          go_ret
          exact ⟨ret_bool (by simp), HB0.out⟩
  · have hd : (1048576 : Int) < (n : Int) := by omega
    go_enter Try.func3, Try.ntmps3
    go_wp2
    go_ret
    exact ⟨rfl, Below.refl _ _⟩
end Go.Proofs.Ytifodjlfjnmnkaa
