/-
  The walk of the law on RowsCover: what covers leaves an end.
-/
import Derived.Test.YtdcedkjoligekaaDrawRowsCover
import Derived.Test.YtdcedkjoligekaaRowsSetI
import Derived.Test.YtdcedkjoligekaaOnceSpec
import Derived.Test.YtdcedkjoligekaaRowsHas
import Derived.Test.YtdcedkjoligekaaOtherI
import Derived.Test.YtdcedkjoligekaaSetEndsI
import Derived.Test.YtdcedkjoligekaaRowBytes
namespace Go.Proofs.Ytdcedkjoligekaa
open Go.RowKit
set_option linter.unusedVariables false

theorem small_lcmC {rs : List (List Int)} (hs : Small rs) (hg : goodRows rs = true) : lcmAll (theRows rs) ≤ 60 := by
  apply Nat.le_of_dvd (by decide)
  apply lcmAll_least
  intro r hr h0
  unfold theRows at hr
  obtain ⟨z, hz, rfl⟩ := List.mem_map.1 hr
  have hgz : goodRow z = true := by
    unfold goodRows at hg
    simp only [Bool.and_eq_true, List.all_eq_true] at hg
    exact hg.2 z hz
  exact (hs z hz).2 hgz h0
theorem small_cover {rs : List (List Int)} (hs : Small rs) : (shortB rs = true ∧ CoverIs rs) ↔ CoverIs rs := by
  constructor
  · exact fun h => h.2
  · intro h
    refine ⟨?_, h⟩
    unfold shortB
    rw [h.1, Bool.true_and]
    exact decide_eq_true (Nat.le_trans (small_lcmC hs h.1) (by decide))
theorem told_sizeC {f : Nat → Bool} {T : ByteArray} (h : Told f T) : T.size ≤ 1048576 := by
  rw [set_size h.ok]
  have h1 := setT_le h.ok
  have h2 := setR_le h.ok
  omega
theorem make_size {ok : Bool} {f : Nat → Bool} {T : ByteArray} {b : Bool} (h : MakeIs ok f T b) : T.size ≤ 1048576 := by
  cases ok
  · rw [(h.2 rfl).1]; decide
  · rcases h.1 rfl with ⟨_, h2⟩ | ⟨_, h2, _⟩
    · exact told_sizeC h2.told
    · rw [h2]; decide

/-- A set ends just if it has no number from some number on. -/
theorem ends_none {U : ByteArray} (hok : okS U = true) : setEnds U = true ↔ ∀ n, (setT U).length ≤ n → fS U n = false := by
  have hp := setR_pos hok
  unfold setEnds
  rw [hok, Bool.true_and]
  constructor
  · intro h n hn
    cases e : fS U n
    · rfl
    · exfalso
      unfold fS hasB at e
      rw [if_neg (by omega)] at e
      have := ends_hit (setR U) ((n - (setT U).length) % (setR U).length) (Nat.mod_lt _ hp) e
      rw [this] at h
      cases h
  · intro h
    apply ends_all
    intro i hi
    have := h ((setT U).length + i) (by omega)
    unfold fS hasB at this
    rw [if_neg (by omega), Nat.add_sub_cancel_left, Nat.mod_eq_of_lt hi] at this
    exact this
/-- Rows cover just if what is left by their set ends. -/
theorem cover_ends {rs : List (List Int)} {U : ByteArray} (hg : goodRows rs = true) (hU : Told (fun n => !decide (0 < cnt (theRows rs) n)) U) : CoverIs rs ↔ setEnds U = true := by
  have hf := (goodRows_fits hg).2
  have hgo := going_ok hf
  rw [ends_none hU.ok, hU.set]
  unfold CoverIs
  constructor
  · rintro ⟨_, hc⟩ n hn
    -- from 60 on all are in the set; what is told ends as its ring tells
    have hr := setR_pos hU.ok
    have hround : ∀ n, (setT U).length ≤ n → (fun n => !decide (0 < cnt (theRows rs) n)) (n + (setR U).length) = (fun n => !decide (0 < cnt (theRows rs) n)) n := by
      intro n hn
      rw [← hU.set]
      exact hasB_round _ _ n hn
    have e := per_rounds (f := fun n => !decide (0 < cnt (theRows rs) n)) hround 60 n hn
    have hbig : 60 ≤ n + 60 * (setR U).length := by
      have : 60 * 1 ≤ 60 * (setR U).length := Nat.mul_le_mul_left _ hr
      omega
    show (!decide (0 < cnt (theRows rs) n)) = false
    rw [← e]
    have h1 := (covers_cnt hgo).1 hc (n + 60 * (setR U).length)
    rw [cnt_goingM hf hbig] at h1
    show (!decide (0 < cnt (theRows rs) (n + 60 * (setR U).length))) = false
    rw [decide_eq_true h1]; rfl
  · intro h
    refine ⟨hg, (covers_cnt hgo).2 (fun n => ?_)⟩
    have hdvd : ∀ q ∈ going (theRows rs), q.s ∣ lcmAll (theRows rs) := fun q hq => by
      obtain ⟨r, hr, h0, rfl⟩ := going_mem hq
      exact step_dvd (r := r) hr h0
    have ht60 := setT_le hU.ok
    refine round_all hgo (lcmAll_pos (theRows rs)) hdvd 60 (P := fun x => 0 < x) (fun n hn => ?_) n
    rw [cnt_goingM hf (by omega)]
    have h2 : (!decide (0 < cnt (theRows rs) (60 + n))) = false := h (60 + n) (by omega)
    simpa using h2

set_option maxRecDepth 100000 in
set_option maxHeartbeats 4000000 in
theorem pRowsCover (a : Option Addr) (n c : Nat) (zs : List Int) (w : World) (hr : IsRow .u8 w a n c zs) (m : Int) (hg : 0 < w.heap.size) (hm : w.cell? ⟨0, 0, none⟩ = some (.int .i64 m)) :
    Calls Try.prog 8 #[.slice a n c] w fun e w' => e = .returned (.bool true) ∧ Below w.heap.size w w' := by
  by_cases hn : n ≤ 1048576
  · have hL : LibAt m w := ⟨hg, hm⟩
    have HD := Lib.hid (drawRowsCover a n c w hr.bytes hn hr.cap)
    clear hg hm hr
    go_enter Try.func8, Try.ntmps8
    go_wp2_with fail
    refine HD.out.mono ?_
    rintro e w1 ⟨a1, d, c1, rs, rfl, hr1, hd, hsh, hsm, hb1⟩
    have R1 := Lib.hid hr1
    have B1 := Lib.hid hb1
    have L1 := Lib.hid (hL.below hb1)
    have hd2 : d ≤ 1048576 := by omega
    have HI := Lib.hid (fun w h => implCover a1 d c1 rs w h hd2 hsh)
    have HJ := Lib.hid (fun w h => specCover a1 d c1 rs w h hd2 hsh)
    have HK := Lib.hid (fun w h => implRowsIn a1 d c1 rs w h hd2 hsh)
    have HS := Lib.hid (fun w h hl => implRowsSet a1 d c1 rs m w h hd2 hsh hl)
    have HSM := Lib.hid (small_cover hsm)
    obtain ⟨gd, hgd⟩ : ∃ gd, gd = goodRows rs := ⟨_, rfl⟩
    rw [← hgd] at HK HS
    have HGD := Lib.hid hgd
    clear hsh hsm hr1 hb1 hL hgd
    go_wp2_with fail
    refine (HI.out _ R1.out).mono ?_
    rintro e w2 ⟨b2, rfl, hb2', hb2⟩
    have B2 := Lib.hid (B1.out.trans (hb2.mono B1.out.size))
    have R2 := Lib.hid (R1.out.below hb2 (Nat.le_refl _))
    have L2 := Lib.hid (L1.out.below hb2)
    have HBC := Lib.hid hb2'
    clear hb2 hb2'
    go_wp2_with fail
    refine (HJ.out _ R2.out).mono ?_
    rintro e w3 ⟨b3, rfl, hb3', hb3⟩
    obtain rfl : b3 = b2 := truth_one (hb3'.trans HSM.out) HBC.out
    have B3 := Lib.hid (B2.out.trans (hb3.mono B2.out.size))
    have R3 := Lib.hid (R2.out.below hb3 (Nat.le_refl _))
    have L3 := Lib.hid (L2.out.below hb3)
    clear hb3 hb3' R2 L2 R1 L1 B1 B2 HI HJ HSM
    go_wp2_with fail
    refine (HK.out _ R3.out).mono ?_
    rintro e w4 ⟨rfl, hb4⟩
    have B4 := Lib.hid (B3.out.trans (hb4.mono B3.out.size))
    have R4 := Lib.hid (R3.out.below hb4 (Nat.le_refl _))
    have L4 := Lib.hid (L3.out.below hb4)
    clear hb4 R3 L3 B3
    cases gd
    · clear HBC
      go_wp2
      go_ret
      exact ⟨by simp, B4.out⟩
    · go_wp2_with fail
      refine (HS.out _ R4.out L4.out).mono ?_
      rintro e w5 ⟨⟨T, b5, rfl, hm5⟩, hb5⟩
      have B5 := Lib.hid (B4.out.trans (hb5.mono B4.out.size))
      have L5 := Lib.hid (L4.out.below hb5)
      have HM5 := Lib.hid hm5
      have hsz := make_size hm5
      clear hb5 hm5 R4 L4 B4
      go_wp2_with fail
      refine (implOther T m _ hsz L5.out).mono ?_
      rintro e w6 ⟨⟨U, b6, rfl, hm6⟩, hb6⟩
      have B6 := Lib.hid (B5.out.trans (hb6.mono B5.out.size))
      have L6 := Lib.hid (L5.out.below hb6)
      have HM6 := Lib.hid hm6
      have hsz6 := make_size hm6
      clear hb6 hm6 L5 B5
      cases b5
      · clear HBC
        go_wp2
        go_ret
        exact ⟨rfl, B6.out⟩
      · cases b6
        · clear HBC
          go_wp2
          go_ret
          exact ⟨rfl, B6.out⟩
        · have htold : Told (fun n => decide (0 < cnt (theRows rs) n)) T := by
            rcases HM5.out.1 rfl with ⟨_, h⟩ | ⟨h, _⟩
            · exact h.told
            · cases h
          have hU : Told (fun n => !decide (0 < cnt (theRows rs) n)) U := by
            have h6 := HM6.out
            rw [htold.ok, htold.set] at h6
            rcases h6.1 rfl with ⟨_, h⟩ | ⟨h, _⟩
            · exact h.told
            · cases h
          have HE := Lib.hid (cover_ends HGD.out.symm hU)
          obtain ⟨z, hz⟩ : ∃ z, z = setEnds U := ⟨_, rfl⟩
          have HEND := Lib.hid (implSetEnds U m w6 hsz6 L6.out)
          rw [← hz] at HEND HE
          have hbz : Hid (b3 = z) := Lib.hid (truth_one HBC.out HE.out.symm)
          clear HBC HE hz htold hU
          go_wp2_with fail
          refine HEND.out.mono ?_
          rintro e w7 ⟨rfl, hb7⟩
          rw [hbz.out]
          have B7 := Lib.hid (B6.out.trans (hb7.mono B6.out.size))
          clear hb7
          go_wp2
          go_ret
          exact ⟨by first | rfl | simp, B7.out⟩
  · have hd : (1048576 : Int) < (n : Int) := by omega
    clear hr
    go_enter Try.func8, Try.ntmps8
    go_wp2
    go_ret
    exact ⟨rfl, Below.refl _ _⟩
end Go.Proofs.Ytdcedkjoligekaa
