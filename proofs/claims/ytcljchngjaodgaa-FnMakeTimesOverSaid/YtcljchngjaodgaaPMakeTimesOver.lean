/-
  The walk of the law FnMakeTimesOver.
-/
import Derived.Test.YtcljchngjaodgaaPMakeBase
import Derived.Test.YtcljchngjaodgaaSpecTimes
import Derived.Test.YtcljchngjaodgaaMakeTimesI
import Derived.Test.YtcljchngjaodgaaMakeOverI
import Derived.Test.YtcljchngjaodgaaMakeEveryI
namespace Go.Proofs.Ytcljchngjaodgaa
open Go.RowKit

theorem over_times (f : Nat → Bool) (k : Nat) (hk : 0 < k) : overF (timesF f k) k = f := by
  funext n
  unfold overF
  have h : ∀ j, j ≤ k → someF (timesF f k) (k * n) j = (decide (0 < j) && f n) := by
    intro j
    induction j with
    | zero => intro _; rfl
    | succ j ih =>
      intro hj
      unfold someF
      rw [ih (by omega)]
      unfold timesF
      rw [Nat.mul_add_mod, Nat.mod_eq_of_lt (show j < k by omega), Nat.mul_add_div hk, Nat.div_eq_of_lt (show j < k by omega), Nat.add_zero]
      by_cases h0 : j = 0
      · subst h0; simp
      · rw [decide_eq_true (show 0 < j by omega), decide_eq_true (show 0 < j + 1 by omega), decide_eq_false h0]; simp
  rw [h k (Nat.le_refl _), decide_eq_true hk, Bool.true_and]
theorem every_times (f : Nat → Bool) (k : Nat) (hk : 0 < k) : everyF (timesF f k) k 0 = f := by
  funext n
  unfold everyF timesF
  rw [Nat.add_zero, Nat.mul_mod_right, Nat.mul_div_cancel_left _ hk]; simp
theorem timesAll_pos (s : ByteArray) (k : Nat) (hk : 0 < k) : timesAll s k = timesF (fS s) k := by unfold timesAll; rw [if_neg (by omega)]
theorem times_over {s T V : ByteArray} {k : Nat} (hF : fS T = timesAll s k) (hO : okS T = true) (h0 : 0 < k) (hk : k ≤ 20) (hV : TidyText (fS s) V) : MakeIs (okS T && inR (k : Int) 1 20) (overF (fS T) (k : Int).toNat) V true := by
  have e2 : inR (k : Int) 1 20 = true := by unfold inR; rw [decide_eq_true (by omega), decide_eq_true (by omega)]; rfl
  rw [Int.toNat_natCast, hF, timesAll_pos s k h0, over_times _ _ h0, e2, hO]
  exact ⟨fun _ => .inl ⟨rfl, hV⟩, fun h => by cases h⟩
theorem times_every {s T V : ByteArray} {k : Nat} (hF : fS T = timesAll s k) (hO : okS T = true) (h0 : 0 < k) (hk : k ≤ 20) (hV : TidyText (fS s) V) :
    MakeIs (okS T && (inR (k : Int) 1 20 && inR 0 0 100)) (everyF (fS T) (k : Int).toNat (0 : Int).toNat) V true := by
  have e2 : inR (k : Int) 1 20 = true := by unfold inR; rw [decide_eq_true (by omega), decide_eq_true (by omega)]; rfl
  have e3 : inR 0 0 100 = true := by decide
  rw [Int.toNat_natCast, hF, timesAll_pos s k h0, show (0 : Int).toNat = 0 from rfl, every_times _ _ h0, e2, e3, hO]
  exact ⟨fun _ => .inl ⟨rfl, hV⟩, fun h => by cases h⟩

set_option maxRecDepth 100000 in
set_option maxHeartbeats 4000000 in
theorem pMakeTimesOver (a : Option Addr) (n c : Nat) (zs : List Int) (w : World) (hr : IsRow .u8 w a n c zs) (m : Int) (hg : 0 < w.heap.size) (hm : w.cell? ⟨0, 0, none⟩ = some (.int .i64 m)) :
    Calls Try.prog 14 #[.slice a n c] w fun e w' => e = .returned (.bool true) ∧ Below w.heap.size w w' := by
  by_cases hn : n ≤ 1048576
  · have hL : LibAt m w := ⟨hg, hm⟩
    clear hg hm
    have hB := Lib.hid hr.bytes
    have hC := Lib.hid hr.cap
    clear hr
    go_enter Try.func14, Try.ntmps14
    go_wp2_with fail
    refine (drawMakeTimes a n c _ hB.out hn hC.out).mono ?_
    rintro e w1 ⟨s, x, rfl, hs, hx, hb1⟩
    have HB1 := Lib.hid hb1
    have HL1 := Lib.hid (hL.below hb1)
    clear hb1
    go_wp2_with fail
    refine (implTimes s x m _ (by omega) HL1.out).mono ?_
    rintro e w2 ⟨⟨T, b, rfl, hm2⟩, hx2⟩
    have HB2 := Lib.hid (below_step HB1.out hx2)
    have HL2 := Lib.hid (HL1.out.below hx2)
    have HM := Lib.hid hm2
    clear hx2 hm2
    go_wp2_with fail
    refine (specTimes s x _ (by omega)).mono ?_
    rintro e w3 ⟨⟨U, c, rfl, hm3⟩, hx3⟩
    have HB3 := Lib.hid (below_step HB2.out hx3)
    have HL3 := Lib.hid (HL2.out.below hx3)
    obtain ⟨rfl, rfl⟩ := makeIs_unique HM.out hm3
    clear hx3 hm3
    cases b
    · go_wp2
      go_ret
      exact ⟨ret_bool (by simp), HB3.out⟩
    · obtain ⟨hok, hT⟩ := makeIs_true HM.out
      have HT := Lib.hid hT
      have HO := Lib.hid hT.told.ok
      have HF := Lib.hid hT.told.set
      have hTs := told_size hT.told.ok
      obtain ⟨hoks, hk⟩ := and_both hok
      clear hok
      rcases inR_cases x 0 20 with ⟨_, k1, k2⟩ | ⟨h2, _⟩
      rotate_left
      · rw [h2] at hk; cases hk
      obtain ⟨k, rfl⟩ := Int.eq_ofNat_of_zero_le k1
      rw [Int.toNat_natCast] at HF HT
      by_cases h0 : k = 0
      · subst h0
        clear HM hT hk
        go_wp2
        go_ret
        exact ⟨rfl, HB3.out⟩
      · have hpos : 0 < k := by omega
        have hki : ¬ (k : Int) < 1 := by omega
        obtain ⟨V, hV⟩ := tidyText_there hoks
        have HV := Lib.hid hV
        have HD : Hid (MakeIs (okS T && inR (k : Int) 1 20) (overF (fS T) (k : Int).toNat) V true) := Lib.hid (times_over HF.out HO.out hpos (by omega) hV)
        have HE : Hid (MakeIs (okS T && (inR (k : Int) 1 20 && inR 0 0 100)) (everyF (fS T) (k : Int).toNat (0 : Int).toNat) V true) := Lib.hid (times_every HF.out HO.out hpos (by omega) hV)
        clear HM hT hk hV
        go_wp2_with fail
        refine (implOver T k m _ hTs HL3.out).mono ?_
        rintro e w4 ⟨⟨Y, a, rfl, hy⟩, hx4⟩
        have HB4 := Lib.hid (below_step HB3.out hx4)
        have HL4 := Lib.hid (HL3.out.below hx4)
        obtain ⟨rfl, rfl⟩ := makeIs_unique HD.out hy
        clear hx4 hy
        go_wp2_with fail
        refine (implEvery T k 0 m _ hTs HL4.out).mono ?_
        rintro e w5 ⟨⟨Z, b, rfl, hz⟩, hx5⟩
        have HB5 := Lib.hid (below_step HB4.out hx5)
        have HL5 := Lib.hid (HL4.out.below hx5)
        obtain ⟨rfl, rfl⟩ := makeIs_unique HE.out hz
        clear hx5 hz
        go_wp2_with fail
        refine (implTidy s V m _ (by omega) HL5.out (.inl ⟨hoks, HV.out⟩)).mono ?_
        rintro e w6 ⟨rfl, hx6⟩
        have HB6 := Lib.hid (below_step HB5.out hx6)
        have HL6 := Lib.hid (HL5.out.below hx6)
        clear hx6
        go_wp2
        go_ret
        exact ⟨ret_bool (by simp), HB6.out⟩
  · have hd : (1048576 : Int) < (n : Int) := by omega
    go_enter Try.func14, Try.ntmps14
    go_wp2
    go_ret
    exact ⟨rfl, Below.refl _ _⟩
end Go.Proofs.Ytcljchngjaodgaa
