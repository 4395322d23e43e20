/-
  The walk of the law FnMakeTimes.
-/
import Derived.Test.YtcljchngjaodgaaPMakeBase
import Derived.Test.YtcljchngjaodgaaSpecTimes
import Derived.Test.YtcljchngjaodgaaMakeTimesI
import Derived.Test.YtcljchngjaodgaaSetEndsI
import Derived.Test.YtcljchngjaodgaaSameI
namespace Go.Proofs.Ytcljchngjaodgaa
open Go.RowKit

theorem timesAll_pos (s : ByteArray) (k : Nat) (hk : 0 < k) : timesAll s k = timesF (fS s) k := by unfold timesAll; rw [if_neg (by omega)]
theorem zero_all {s : ByteArray} : timesAll s 0 = zeroF (someS s) := by unfold timesAll; rw [if_pos rfl]
theorem none_ok : okS ⟨#[40, 48, 41]⟩ = true := by kernel_rfl
theorem none_has (n : Nat) : fS ⟨#[40, 48, 41]⟩ n = false := by
  have e1 : setT ⟨#[40, 48, 41]⟩ = [] := by kernel_rfl
  have e2 : setR ⟨#[40, 48, 41]⟩ = [false] := by kernel_rfl
  unfold fS hasB
  rw [e1, e2, if_neg (by simp)]
  simp [Nat.mod_one]
theorem none_same {s : ByteArray} (h : okS s = true) : agreeB (fS s) (fS ⟨#[40, 48, 41]⟩) = !someS s := by
  refine same_agree h none_ok ?_
  have hi := someS_iff s (setR_pos h)
  constructor
  · intro h2
    funext n
    rw [none_has]
    cases hv : fS s n
    · rfl
    · rw [hi.2 ⟨n, hv⟩] at h2; cases h2
  · intro h2
    cases hv : someS s
    · rfl
    · obtain ⟨n, hn⟩ := hi.1 hv
      rw [h2, none_has] at hn; cases hn
theorem some_ends {s : ByteArray} (h : endsB (setR s) = false) : someS s = true := by
  rw [endsB_any] at h
  unfold someS orTo
  cases h2 : (setR s).any id
  · rw [h2] at h; cases h
  · rfl

set_option maxRecDepth 100000 in
set_option maxHeartbeats 4000000 in
theorem pMakeTimes (a : Option Addr) (n c : Nat) (zs : List Int) (w : World) (hr : IsRow .u8 w a n c zs) (m : Int) (hg : 0 < w.heap.size) (hm : w.cell? ⟨0, 0, none⟩ = some (.int .i64 m)) :
    Calls Try.prog 9 #[.slice a n c] w fun e w' => e = .returned (.bool true) ∧ Below w.heap.size w w' := by
  by_cases hn : n ≤ 1048576
  · have hL : LibAt m w := ⟨hg, hm⟩
    clear hg hm
    have hB := Lib.hid hr.bytes
    have hC := Lib.hid hr.cap
    clear hr
    go_enter Try.func9, Try.ntmps9
    go_wp2_with fail
    refine (drawMakeTimes a n c _ hB.out hn hC.out).mono ?_
    rintro e w1 ⟨s, x, rfl, hs, hx, hb1⟩
    have HB1 := Lib.hid hb1
    have HL1 := Lib.hid (hL.below hb1)
    clear hb1
    go_wp2_with fail
    refine (implTimes s x m _ (by omega) HL1.out).mono ?_
    rintro e w2 ⟨⟨T, b, rfl, hm2⟩, hx2⟩
    have HB2 := Lib.hid (below_step HB1.out hx2)
    have HL2 := Lib.hid (HL1.out.below hx2)
    have HM := Lib.hid hm2
    clear hx2 hm2
    go_wp2_with fail
    refine (specTimes s x _ (by omega)).mono ?_
    rintro e w3 ⟨⟨U, c, rfl, hm3⟩, hx3⟩
    have HB3 := Lib.hid (below_step HB2.out hx3)
    have HL3 := Lib.hid (HL2.out.below hx3)
    obtain ⟨rfl, rfl⟩ := makeIs_unique HM.out hm3
    clear hx3 hm3
    cases b
    · go_wp2
      go_ret
      exact ⟨ret_bool (by simp), HB3.out⟩
    · obtain ⟨hok, hT⟩ := makeIs_true HM.out
      have HT := Lib.hid hT
      have HO := Lib.hid hT.told.ok
      have HF := Lib.hid hT.told.set
      have hTs := told_size hT.told.ok
      obtain ⟨hoks, hk⟩ := and_both hok
      clear hok
      by_cases h0 : x = 0
      · subst h0
        have HF2 : Hid (fS T = zeroF (someS s)) := Lib.hid (HF.out.trans zero_all)
        clear hx
        clear HM hT hk
        go_wp2
        go_loopw [10] (fun i wr => ∃ z : Nat, i = .int .i64 z ∧ z ≤ 151 ∧ Below w.heap.size w wr ∧ LibAt m wr) (fun i _ => 152 - (intOf i).toNat)
        case atStart => exact ⟨0, rfl, by omega, HB3.out, HL3.out⟩
        case round =>
          obtain ⟨z, rfl, hz, hbz, hLz⟩ := hrel
          have HB0 := Lib.hid hbz
          have HL0 := Lib.hid hLz
          clear hbz hLz
          by_cases hlt : z ≤ 150
          · by_cases hz0 : z = 0
            · subst hz0
              have eX : setHas T 0 = someS s := by
                have := setHas_nat HO.out 0
                rw [HF2.out] at this
                exact this.trans (by unfold zeroF; simp)
              cases he : endsB (setR s)
              · have eE : setEnds s = false := by unfold setEnds; rw [hoks, he]; rfl
                rw [some_ends he] at eX
                go_wp2_with fail
                refine (implSetHas T 0 m _ (by omega) (by omega) HL0.out).mono ?_
                rintro e w1 ⟨rfl, hx1⟩
                have HB1 := Lib.hid (below_step HB0.out hx1)
                have HL1 := Lib.hid (HL0.out.below hx1)
                clear hx1
                go_wp2_with fail
                refine (implSetEnds s m _ (by omega) HL1.out).mono ?_
                rintro e w2 ⟨rfl, hx2⟩
                have HB2 := Lib.hid (below_step HB1.out hx2)
                have HL2 := Lib.hid (HL1.out.below hx2)
                clear hx2
                go_wp2
                go_roundw
                case rel => exact ⟨1, by go_num, by omega, HB2.out, HL2.out⟩
                case measure => simp [intOf]
              · have eE : setEnds s = true := by unfold setEnds; rw [hoks, he]; rfl
                have eA : agreeB (fS s) (fS ⟨#[40, 48, 41]⟩) = !someS s := none_same hoks
                cases h9 : someS s
                · rw [h9] at eX eA
                  simp only [Bool.not_false] at eA
                  go_wp2_with fail
                  refine (implSetHas T 0 m _ (by omega) (by omega) HL0.out).mono ?_
                  rintro e w1 ⟨rfl, hx1⟩
                  have HB1 := Lib.hid (below_step HB0.out hx1)
                  have HL1 := Lib.hid (HL0.out.below hx1)
                  clear hx1
                  go_wp2_with fail
                  refine (implSetEnds s m _ (by omega) HL1.out).mono ?_
                  rintro e w2 ⟨rfl, hx2⟩
                  have HB2 := Lib.hid (below_step HB1.out hx2)
                  have HL2 := Lib.hid (HL1.out.below hx2)
                  clear hx2
                  go_wp2_with fail
                  refine (implSame_on s ⟨#[40, 48, 41]⟩ m _ (by omega) (by decide) HL2.out hoks none_ok).mono ?_
                  rintro e w3 ⟨rfl, hx3⟩
                  have HB3 := Lib.hid (below_step HB2.out hx3)
                  have HL3 := Lib.hid (HL2.out.below hx3)
                  clear hx3
                  go_wp2
                  go_roundw
                  case rel => exact ⟨1, by go_num, by omega, HB3.out, HL3.out⟩
                  case measure => simp [intOf]
                · rw [h9] at eX eA
                  simp only [Bool.not_true] at eA
                  go_wp2_with fail
                  refine (implSetHas T 0 m _ (by omega) (by omega) HL0.out).mono ?_
                  rintro e w1 ⟨rfl, hx1⟩
                  have HB1 := Lib.hid (below_step HB0.out hx1)
                  have HL1 := Lib.hid (HL0.out.below hx1)
                  clear hx1
                  go_wp2_with fail
                  refine (implSetEnds s m _ (by omega) HL1.out).mono ?_
                  rintro e w2 ⟨rfl, hx2⟩
                  have HB2 := Lib.hid (below_step HB1.out hx2)
                  have HL2 := Lib.hid (HL1.out.below hx2)
                  clear hx2
                  go_wp2_with fail
                  refine (implSame_on s ⟨#[40, 48, 41]⟩ m _ (by omega) (by decide) HL2.out hoks none_ok).mono ?_
                  rintro e w3 ⟨rfl, hx3⟩
                  have HB3 := Lib.hid (below_step HB2.out hx3)
                  have HL3 := Lib.hid (HL2.out.below hx3)
                  clear hx3
                  go_wp2
                  go_roundw
                  case rel => exact ⟨1, by go_num, by omega, HB3.out, HL3.out⟩
                  case measure => simp [intOf]
            · have hz1 : ¬ (z : Int) = 0 := by omega
              have eX : setHas T (z : Int) = false := by
                rw [setHas_nat HO.out, HF2.out]
                unfold zeroF
                rw [decide_eq_false hz0, Bool.false_and]
              go_wp2_with fail
              refine (implSetHas T z m _ (by omega) (by omega) HL0.out).mono ?_
              rintro e w1 ⟨rfl, hx1⟩
              have HB1 := Lib.hid (below_step HB0.out hx1)
              have HL1 := Lib.hid (HL0.out.below hx1)
              clear hx1
              go_wp2
              go_roundw
              case rel => exact ⟨z + 1, by go_num, by omega, HB1.out, HL1.out⟩
              case measure => simp [intOf]; omega
          · obtain rfl : z = 151 := by omega
            go_wp2_with fail
            refine (implTidy T T m _ hTs HL0.out (tidy_self HT.out)).mono ?_
            rintro e w1 ⟨rfl, hx1⟩
            have HB1 := Lib.hid (below_step HB0.out hx1)
            have HL1 := Lib.hid (HL0.out.below hx1)
            clear hx1
            have eO := HO.out
            go_wp2
            go_ret
            exact ⟨ret_bool (by simp), HB1.out⟩
      · rcases inR_cases x 0 20 with ⟨_, k1, k2⟩ | ⟨h2, _⟩
        rotate_left
        · rw [h2] at hk; cases hk
        obtain ⟨k, rfl⟩ := Int.eq_ofNat_of_zero_le k1
        rw [Int.toNat_natCast] at HF HT
        have hkn : ¬ k = 0 := by omega
        clear HM hT hk
        go_wp2
        go_loopw [10] (fun i wr => ∃ z : Nat, i = .int .i64 z ∧ z ≤ 151 ∧ Below w.heap.size w wr ∧ LibAt m wr) (fun i _ => 152 - (intOf i).toNat)
        case atStart => exact ⟨0, rfl, by omega, HB3.out, HL3.out⟩
        case round =>
          obtain ⟨z, rfl, hz, hbz, hLz⟩ := hrel
          have HB0 := Lib.hid hbz
          have HL0 := Lib.hid hLz
          clear hbz hLz
          by_cases hlt : z ≤ 150
          · have hk0 : ¬ (k : Int) = 0 := by omega
            have hkp : (0 : Int) < (k : Int) := by omega
            rw [timesAll_pos s k (by omega)] at HF
            by_cases hzm : z % k = 0
            · obtain ⟨j, hj⟩ : ∃ j, j = z / k := ⟨_, rfl⟩
              have hjz : j ≤ z := by rw [hj]; exact Nat.div_le_self _ _
              have hmi : (z : Int) % (k : Int) = 0 := by omega
              have hmt : (z : Int).tmod (k : Int) = 0 := by rw [Int.tmod_eq_emod_of_nonneg (by omega)]; exact hmi
              have hdi : (z : Int) / (k : Int) = (j : Int) := by rw [hj]; rfl
              have hdt : (z : Int).tdiv (k : Int) = (j : Int) := by rw [Int.tdiv_eq_ediv_of_nonneg (by omega)]; exact hdi
              have hwz : IntKind.i64.wrap (j : Int) = (j : Int) := IntWalk.i64_in _ (by omega)
              have eX : setHas T (z : Int) = fS s j := by
                rw [setHas_nat HO.out, HF.out, hj]
                unfold timesF
                rw [decide_eq_true hzm, Bool.true_and]
              have e1 : setHas s (j : Int) = fS s j := setHas_nat hoks j
              have HZM := Lib.hid hzm
              have HJ := Lib.hid hj
              clear hzm hj
              cases h8 : fS s j
              · rw [h8] at eX
                rw [h8] at e1
                go_wp2_with fail
                refine (implSetHas T z m _ (by omega) (by omega) HL0.out).mono ?_
                rintro e w1 ⟨rfl, hx1⟩
                have HB1 := Lib.hid (below_step HB0.out hx1)
                have HL1 := Lib.hid (HL0.out.below hx1)
                clear hx1
                go_wp2_with fail
                refine (implSetHas s j m _ (by omega) (by omega) HL1.out).mono ?_
                rintro e w2 ⟨rfl, hx2⟩
                have HB2 := Lib.hid (below_step HB1.out hx2)
                have HL2 := Lib.hid (HL1.out.below hx2)
                clear hx2
                go_wp2
                go_roundw
                case rel => exact ⟨z + 1, by go_num, by omega, HB2.out, HL2.out⟩
                case measure => simp [intOf]; omega
              · rw [h8] at eX
                rw [h8] at e1
                go_wp2_with fail
                refine (implSetHas T z m _ (by omega) (by omega) HL0.out).mono ?_
                rintro e w1 ⟨rfl, hx1⟩
                have HB1 := Lib.hid (below_step HB0.out hx1)
                have HL1 := Lib.hid (HL0.out.below hx1)
                clear hx1
                go_wp2_with fail
                refine (implSetHas s j m _ (by omega) (by omega) HL1.out).mono ?_
                rintro e w2 ⟨rfl, hx2⟩
                have HB2 := Lib.hid (below_step HB1.out hx2)
                have HL2 := Lib.hid (HL1.out.below hx2)
                clear hx2
                go_wp2
                go_roundw
                case rel => exact ⟨z + 1, by go_num, by omega, HB2.out, HL2.out⟩
                case measure => simp [intOf]; omega
            · have hmi : ¬ (z : Int) % (k : Int) = 0 := by omega
              have hmt : ¬ (z : Int).tmod (k : Int) = 0 := by rw [Int.tmod_eq_emod_of_nonneg (by omega)]; exact hmi
              have eX : setHas T (z : Int) = false := by
                rw [setHas_nat HO.out, HF.out]
                unfold timesF
                rw [decide_eq_false hzm, Bool.false_and]
              have HZM := Lib.hid hzm
              clear hzm
              go_wp2_with fail
              refine (implSetHas T z m _ (by omega) (by omega) HL0.out).mono ?_
              rintro e w1 ⟨rfl, hx1⟩
              have HB1 := Lib.hid (below_step HB0.out hx1)
              have HL1 := Lib.hid (HL0.out.below hx1)
              clear hx1
              go_wp2
              go_roundw
              case rel => exact ⟨z + 1, by go_num, by omega, HB1.out, HL1.out⟩
              case measure => simp [intOf]; omega
          · obtain rfl : z = 151 := by omega
            go_wp2_with fail
            refine (implTidy T T m _ hTs HL0.out (tidy_self HT.out)).mono ?_
            rintro e w1 ⟨rfl, hx1⟩
            have HB1 := Lib.hid (below_step HB0.out hx1)
            have HL1 := Lib.hid (HL0.out.below hx1)
            clear hx1
            have eO := HO.out
            go_wp2
            go_ret
            exact ⟨ret_bool (by simp), HB1.out⟩
  · have hd : (1048576 : Int) < (n : Int) := by omega
    go_enter Try.func9, Try.ntmps9
    go_wp2
    go_ret
    exact ⟨rfl, Below.refl _ _⟩
end Go.Proofs.Ytcljchngjaodgaa
