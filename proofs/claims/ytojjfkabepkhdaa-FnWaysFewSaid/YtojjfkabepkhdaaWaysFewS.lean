/-
  What the model's WaysFew answers.
-/
import Derived.Test.YtojjfkabepkhdaaWayTabS
import Derived.Test.YtojjfkabepkhdaaWayVal
set_option linter.unusedVariables false
set_option linter.unusedSimpArgs false
namespace Go.Proofs.Ytojjfkabepkhdaa
open Go.RowKit

set_option maxRecDepth 100000 in
set_option maxHeartbeats 4000000 in
theorem specWaysFew (s : ByteArray) (n : Int) (w : World) (hs : s.size ≤ 1048576) :
    Calls Try.prog 28 #[.string s, .int .i64 n] w fun e w' => TellsFew s n e ∧ Below w.heap.size w w' := by
  cases h : okW s n 200
  · have HO := Lib.hid (tellsFew_off (s := s) (n := n) (by unfold fewOk; rw [h]; rfl))
    unfold okW at h
    go_enter Try.func28, Try.ntmps28
    go_wp2_with fail
    refine (given9_any s n 200 _ hs (by decide)).mono ?_
    rintro e w1 ⟨⟨a1, n1, c1, a2, n2, c2, rfl, hsp⟩, hb⟩
    have HB1 := Lib.hid (hb.alloc hb.size (.cells #[.slice a1 n1 c1, .slice a2 n2 c2] 48))
    rw [h]
    clear hsp hb h
    go_wp2
    go_ret2
    exact ⟨HO.out, HB1.out⟩
  · obtain ⟨h1, n, rfl, hk⟩ := okW_nat h
    have HOF := Lib.hid (fun (e : fewF (fS s) n = -1) => tellsFew_off (s := s) (n := (n : Int)) (by unfold fewOk; rw [h, show ((n : Int)).toNat = n from rfl, e]; rfl))
    have HON := Lib.hid (fun (e : fewF (fS s) n ≠ -1) => tellsFew_on (s := s) (n := n) (v := fewF (fS s) n) (by unfold fewOk; rw [h, show ((n : Int)).toNat = n from rfl, decide_eq_false e]; rfl) rfl)
    unfold okW at h
    obtain ⟨i0, hi, hz0, hz1, hz2⟩ := info_parts Try.infoInt
    go_enter Try.func28, Try.ntmps28
    go_wp2_with fail
    refine (given9_any s n 200 _ hs (by decide)).mono ?_
    rintro e w1 ⟨⟨a1, n1, c1, a2, n2, c2, rfl, hsp⟩, hb⟩
    have hb1 := hb.alloc hb.size (.cells #[.slice a1 n1 c1, .slice a2 n2 c2] 48)
    have HB1 := Lib.hid hb
    have HSP := Lib.hid (hsp h1)
    have HL0 := Lib.hid (wayLoop_start (fS s) (fewF (fS s)) a1 n1 c1 a2 n2 c2 w1 0 rfl)
    rw [h]
    clear hsp hb h h1 hb1
    go_wp2
    go_loopw [8, 9] (fun v i wr => ∃ x : Nat, x ≤ n ∧ i = .int .i64 ((x : Int) + 1) ∧ WayLoop (fS s) (fewF (fS s)) a1 n1 c1 a2 n2 c2 (x + 1) w1.heap.size w1 wr v) (fun _ i _ => n + 1 - (intOf i).toNat)
    case atStart => exact ⟨0, Nat.zero_le _, rfl, HL0.out⟩
    case round =>
      obtain ⟨x, hx, rfl, hl⟩ := hrel
      obtain ⟨a, c, rfl⟩ := own_form hl.own
      by_cases hlt : x < n
      · have hli : (x : Int) + 1 ≤ (n : Int) := by omega
        have HL := Lib.hid hl
        clear hl
        go_wp2
        go_loopw [10, 11] (fun m j wq => ∃ y : Nat, y ≤ x + 1 ∧ j = .int .i64 ((y : Int) + 1) ∧ m = .int .i64 (bestP (fS s) (fewF (fS s)) (x + 1) y) ∧ WayLoop (fS s) (fewF (fS s)) a1 n1 c1 a2 n2 c2 (x + 1) w1.heap.size w1 wq (.slice a (x + 1) c)) (fun _ j _ => x + 2 - (intOf j).toNat)
        case atStart => exact ⟨0, Nat.zero_le _, rfl, rfl, HL.out⟩
        case round =>
          obtain ⟨y, hy, rfl, rfl, hw⟩ := hrel
          by_cases hyl : y < x + 1
          · have hyi : (y : Int) + 1 ≤ (x : Int) + 1 := by omega
            obtain ⟨z, hz⟩ : ∃ z, z = x + 1 - (y + 1) := ⟨_, rfl⟩
            have hzi : (x : Int) + 1 - ((y : Int) + 1) = (z : Int) := by omega
            have hzi2 : (x : Int) - (y : Int) = (z : Int) := by omega
            have hzx : z < x + 1 := by omega
            have hzl : (z : Int) < (x : Int) + 1 := by omega
            obtain ⟨b, o, rfl, hb, c0⟩ := hw.own.reads.at hzx
            have hv1 := few_ge (fS s) z
            have hb1 := bestP_is (f := fS s) (h := fewF (fS s)) (x := x + 1) y (fun y' _ _ => (few_ge (fS s) _).1)
            have hbb : -1 ≤ bestP (fS s) (fewF (fS s)) (x + 1) y ∧ bestP (fS s) (fewF (fS s)) (x + 1) y ≤ 1000 := by
              rcases hb1 with ⟨e, _⟩ | ⟨e, ⟨y', _, _, _, _, e2⟩, _⟩
              · omega
              · have := few_ge (fS s) (x + 1 - y'); omega
            have hstep : bestP (fS s) (fewF (fS s)) (x + 1) (y + 1) = if fS s (y + 1) = true ∧ fewF (fS s) z ≠ -1 ∧ (bestP (fS s) (fewF (fS s)) (x + 1) y = -1 ∨ fewF (fS s) z + 1 < bestP (fS s) (fewF (fS s)) (x + 1) y) then fewF (fS s) z + 1 else bestP (fS s) (fewF (fS s)) (x + 1) y := by rw [bestP, hz]
            have HSTEP := Lib.hid hstep
            obtain ⟨v, hv⟩ : ∃ v, v = fewF (fS s) z := ⟨_, rfl⟩
            obtain ⟨u, hu⟩ : ∃ u, u = bestP (fS s) (fewF (fS s)) (x + 1) y := ⟨_, rfl⟩
            have hzle : v ≤ 1000 := by rw [hv]; omega
            rw [← hu] at hbb HSTEP ⊢
            rw [← hv] at hv1 HSTEP c0
            have HH := Lib.hid (small_has (y + 1) (HSP.out.below hw.below (Nat.le_refl _)) (c1 := c1) (c2 := c2) (by omega))
            have hy1 : ((y + 1 : Nat) : Int) = (y : Int) + 1 := by omega
            rw [hy1] at HH
            have HW := Lib.hid hw
            obtain ⟨q0, q1⟩ : wr.cell? ⟨w1.heap.size, 0, none⟩ = some (.slice a1 n1 c1) ∧ wr.cell? ⟨w1.heap.size, 1, none⟩ = some (.slice a2 n2 c2) := ⟨hw.q0, hw.q1⟩
            clear hw hz hv hu hb1 hstep hy1
            go_wp2_with fail
            refine HH.out.mono ?_
            rintro e1 w6 ⟨rfl, hb6⟩
            have c6 := (hb6.cell (p := ⟨b, o + z, none⟩) hb).trans c0
            have HN := Lib.hid (HW.out.step hb6)
            clear hb6 q0 q1 c0
            obtain ⟨B, hB⟩ : ∃ B, B = fS s (y + 1) := ⟨_, rfl⟩
            rw [← hB] at HSTEP ⊢
            clear hB
            cases B
            · have HE : Hid (u = bestP (fS s) (fewF (fS s)) (x + 1) (y + 1)) := Lib.hid (by rw [HSTEP.out, if_neg (fun e => by cases e.1)])
              go_wp2
              go_roundw
              case rel => exact ⟨y + 1, by omega, by go_num, by rw [← HE.out], HN.out⟩
              case measure => simp [intOf]; omega
            · by_cases hvm : v = -1
              · have HE : Hid (u = bestP (fS s) (fewF (fS s)) (x + 1) (y + 1)) := Lib.hid (by rw [HSTEP.out, if_neg (fun e => e.2.1 hvm)])
                have hv0 : ¬ (0 : Int) ≤ v := by omega
                go_wp2
                go_roundw
                case rel => exact ⟨y + 1, by omega, by go_num, by rw [← HE.out], HN.out⟩
                case measure => simp [intOf]; omega
              · have hv0 : (0 : Int) ≤ v := by omega
                by_cases hum : u = -1
                · have HE : Hid (v + 1 = bestP (fS s) (fewF (fS s)) (x + 1) (y + 1)) := Lib.hid (by rw [HSTEP.out, if_pos ⟨rfl, hvm, .inl hum⟩])
                  have hu0 : u < 0 := by omega
                  go_wp2
                  go_roundw
                  case rel => exact ⟨y + 1, by omega, by go_num, by rw [← HE.out], HN.out⟩
                  case measure => simp [intOf]; omega
                · have hu0 : ¬ u < 0 := by omega
                  by_cases hvu : v + 1 < u
                  · have HE : Hid (v + 1 = bestP (fS s) (fewF (fS s)) (x + 1) (y + 1)) := Lib.hid (by rw [HSTEP.out, if_pos ⟨rfl, hvm, .inr hvu⟩])
                    go_wp2
                    go_roundw
                    case rel => exact ⟨y + 1, by omega, by go_num, by rw [← HE.out], HN.out⟩
                    case measure => simp [intOf]; omega
                  · have HE : Hid (u = bestP (fS s) (fewF (fS s)) (x + 1) (y + 1)) := Lib.hid (by rw [HSTEP.out, if_neg (fun e => e.2.2.elim hum hvu)])
                    go_wp2
                    go_roundw
                    case rel => exact ⟨y + 1, by omega, by go_num, by rw [← HE.out], HN.out⟩
                    case measure => simp [intOf]; omega
          · obtain rfl : y = x + 1 := by omega
            have hxx : ¬ (x : Int) + 1 + 1 ≤ (x : Int) + 1 := by omega
            have hmm : bestP (fS s) (fewF (fS s)) (x + 1) (x + 1) = fewF (fS s) (x + 1) := (fewF_step (fS s) (by omega)).symm
            rw [hmm]
            have hb := few_ge (fS s) (x + 1)
            have HG := Lib.hid (fun (o : Obj) (v' : Value) (w4 : World) (hown : w4.ownsRow (w1.heap.size + 1) 3 1 v' (x + 1 + 1) (ints (intsOf (fewF (fS s)) (x + 1)) ++ [.int .i64 (fewF (fS s) (x + 1))])) hg => WayLoop.grow (o := o) hw (Nat.le_refl _) hown hg)
            have HL := Lib.hid hw
            obtain ⟨u, hu⟩ : ∃ u, u = fewF (fS s) (x + 1) := ⟨_, rfl⟩
            rw [← hu] at HG ⊢
            clear hw hmm hu hb
            go_wp2_with
              (at_builtin; refine wpList_append_own _ rfl _ _ 30 rfl (w1.heap.size + 1) 3 i0 (.int .i64 0) 1 8 Try.underlying30 hi hz0 hz1 hz2 rfl (by decide) _ _ _ rfl (World.ownsRow.alloc HL.out.own _) ⟨wr.heap.size, 0, none⟩ 1 1 [.int .i64 u] rfl rfl ?c1 ?c2 ?c3 ?c4 ?c5 ?_)
            case c2 => first | rfl | (intro u hu; simp at hu; subst hu; rfl)
            case c3 => unfold maxLen; omega
            case c4 => omega
            case c5 => have := HL.out.size; simp; omega
            intro v' w4 hown4 hgrow _
            have HL4 := Lib.hid (HG.out _ _ _ hown4 hgrow)
            clear hown4 hgrow
            go_wp2
            go_roundw
            case rel => exact ⟨x + 1, by omega, by go_num, HL4.out⟩
            case measure => simp [intOf]; omega
      · obtain rfl : x = n := by omega
        obtain ⟨b, o, rfl, hbl, c0⟩ := hl.own.reads.at (i := x) (Nat.lt_succ_self _)
        have HB2 := Lib.hid (HB1.out.trans (hl.below.mono HB1.out.size))
        have hge := few_ge (fS s) x
        obtain ⟨v, hv⟩ : ∃ v, v = fewF (fS s) x := ⟨_, rfl⟩
        rw [← hv] at c0 HOF HON hge
        have hxx : ¬ (x : Int) + 1 ≤ (x : Int) := by omega
        have hxl : (x : Int) < (x : Int) + 1 := by omega
        clear hl hv
        by_cases hvm : v = -1
        · have HV := Lib.hid (HOF.out hvm)
          have hv0 : v < 0 := by omega
          go_wp2
          go_ret2
          exact ⟨HV.out, HB2.out⟩
        · have HV := Lib.hid (HON.out hvm)
          have hv0 : ¬ v < 0 := by omega
          go_wp2
          go_ret2
          exact ⟨HV.out, HB2.out⟩

end Go.Proofs.Ytojjfkabepkhdaa
