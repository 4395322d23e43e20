/-
  The walk of the law on RowsOnce: what covers once shares just one.
-/
import Derived.Test.YtdcedkjoligekaaDrawRowsOnce
import Derived.Test.YtdcedkjoligekaaOnceSpec
import Derived.Test.YtdcedkjoligekaaShareI
import Derived.Test.YtdcedkjoligekaaRowBytes
namespace Go.Proofs.Ytdcedkjoligekaa
open Go.RowKit
set_option linter.unusedVariables false

/-- Small rows have a small common multiple. -/
theorem small_lcm {rs : List (List Int)} (hs : Small rs) (hg : goodRows rs = true) : lcmAll (theRows rs) ≤ 60 := by
  apply Nat.le_of_dvd (by decide)
  apply lcmAll_least
  intro r hr h0
  unfold theRows at hr
  obtain ⟨z, hz, rfl⟩ := List.mem_map.1 hr
  have hgz : goodRow z = true := by
    unfold goodRows at hg
    simp only [Bool.and_eq_true, List.all_eq_true] at hg
    exact hg.2 z hz
  exact (hs z hz).2 hgz h0
theorem small_once {rs : List (List Int)} (hs : Small rs) : (shortB rs = true ∧ OnceIs rs) ↔ OnceIs rs := by
  constructor
  · exact fun h => h.2
  · intro h
    refine ⟨?_, h⟩
    unfold shortB
    rw [h.1, Bool.true_and]
    exact decide_eq_true (Nat.le_trans (small_lcm hs h.1) (by decide))
theorem once_cover {rs : List (List Int)} (h : OnceIs rs) : CoverIs rs := by
  refine ⟨h.1, ?_⟩
  have hgo := going_ok (goodRows_fits h.1).2
  exact ((once_iff hgo).2 h.2).1
theorem once_one {rs : List (List Int)} (h : OnceIs rs) (hb : shareB rs = true) : shareX rs = 1 ∧ shareY rs = 1 := by
  have hgo := going_ok (goodRows_fits h.1).2
  have e := once_share hgo h.2
  rw [lcmAll_going, sumOver_going] at e
  have hp := lcmAll_pos (theRows rs)
  unfold shareX shareY shareG
  rw [hb, if_pos rfl, if_pos rfl, e, Nat.gcd_self, Nat.div_self hp]
  exact ⟨rfl, rfl⟩

set_option maxRecDepth 100000 in
set_option maxHeartbeats 4000000 in
theorem pRowsOnce (a : Option Addr) (n c : Nat) (zs : List Int) (w : World) (hr : IsRow .u8 w a n c zs) :
    Calls Try.prog 9 #[.slice a n c] w fun e w' => e = .returned (.bool true) ∧ Below w.heap.size w w' := by
  by_cases hn : n ≤ 1048576
  · have HD := Lib.hid (drawRowsOnce a n c w hr.bytes hn hr.cap)
    clear hr
    go_enter Try.func9, Try.ntmps9
    go_wp2_with fail
    refine HD.out.mono ?_
    rintro e w1 ⟨a1, m, c1, rs, rfl, hr1, hm, hsh, hsm, hb1⟩
    have R1 := Lib.hid hr1
    have B1 := Lib.hid hb1
    have hm2 : m ≤ 1048576 := by omega
    have HI := Lib.hid (fun w h => implOnce a1 m c1 rs w h hm2 hsh)
    have HJ := Lib.hid (fun w h => specOnce a1 m c1 rs w h hm2 hsh)
    have HK := Lib.hid (fun w h => implCover a1 m c1 rs w h hm2 hsh)
    have HS := Lib.hid (fun w h => implShare a1 m c1 rs w h hm2 hsh)
    unfold ShareOutI at HS
    have HSM := Lib.hid (small_once hsm)
    have HOC := Lib.hid (fun h => once_cover (rs := rs) h)
    have HOO := Lib.hid (fun h hb => once_one (rs := rs) h hb)
    obtain ⟨X, hX⟩ : ∃ X, X = shareX rs := ⟨_, rfl⟩
    obtain ⟨Y, hY⟩ : ∃ Y, Y = shareY rs := ⟨_, rfl⟩
    obtain ⟨ok, hok⟩ : ∃ ok, ok = shareB rs := ⟨_, rfl⟩
    rw [← hX, ← hY, ← hok] at HS
    rw [← hX, ← hY, ← hok] at HOO
    clear hsh hsm hr1 hb1 hX hY hok
    go_wp2_with fail
    refine (HI.out _ R1.out).mono ?_
    rintro e w2 ⟨b2, rfl, hb2', hb2⟩
    have B2 := Lib.hid (B1.out.trans (hb2.mono B1.out.size))
    have R2 := Lib.hid (R1.out.below hb2 (Nat.le_refl _))
    have HBC := Lib.hid hb2'
    clear hb2 hb2'
    go_wp2_with fail
    refine (HJ.out _ R2.out).mono ?_
    rintro e w3 ⟨b3, rfl, hb3', hb3⟩
    obtain rfl : b3 = b2 := truth_one (hb3'.trans HSM.out) HBC.out
    have B3 := Lib.hid (B2.out.trans (hb3.mono B2.out.size))
    have R3 := Lib.hid (R2.out.below hb3 (Nat.le_refl _))
    clear hb3 hb3' R2 R1 B1 B2 HI HJ HSM
    cases b3
    · clear HBC HOC HOO
      go_wp2
      go_ret
      exact ⟨rfl, B3.out⟩
    · have hO := Lib.hid (HBC.out.1 rfl)
      have hOC := Lib.hid (HOC.out hO.out)
      have hOO := Lib.hid (HOO.out hO.out)
      clear HBC HOC HOO
      go_wp2_with fail
      refine (HS.out _ R3.out).mono ?_
      rintro e w4 ⟨rfl, hb4⟩
      have B4 := Lib.hid (B3.out.trans (hb4.mono B3.out.size))
      have R4 := Lib.hid (R3.out.below hb4 (Nat.le_refl _))
      clear hb4
      go_wp2_with fail
      refine (HK.out _ R4.out).mono ?_
      rintro e w5 ⟨b5, rfl, hb5', hb5⟩
      have hbt : b5 = true := hb5'.2 hOC.out
      subst hbt
      have B5 := Lib.hid (B4.out.trans (hb5.mono B4.out.size))
      clear hb5 hb5'
      cases ok
      · go_wp2
        go_ret
        exact ⟨rfl, B5.out⟩
      · obtain ⟨rfl, rfl⟩ := hOO.out rfl
        go_wp2
        go_ret
        exact ⟨rfl, B5.out⟩
  · have hd : (1048576 : Int) < (n : Int) := by omega
    clear hr
    go_enter Try.func9, Try.ntmps9
    go_wp2
    go_ret
    exact ⟨rfl, Below.refl _ _⟩
end Go.Proofs.Ytdcedkjoligekaa
