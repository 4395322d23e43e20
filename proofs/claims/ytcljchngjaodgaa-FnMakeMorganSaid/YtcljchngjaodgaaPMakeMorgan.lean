/-
  The walk of the law FnMakeMorgan.
-/
import Derived.Test.YtcljchngjaodgaaPMakeBase
import Derived.Test.YtcljchngjaodgaaSpecTwo
import Derived.Test.YtcljchngjaodgaaMakeTwoI
namespace Go.Proofs.Ytcljchngjaodgaa
open Go.RowKit

theorem morgan_same {s t T U V Y Z : ByteArray} (hF : fS T = fun n => fS s n || fS t n) (hY : MakeIs (okS T) (fun n => !fS T n) Y true) (hU : MakeIs (okS s) (fun n => !fS s n) U true)
    (hV : MakeIs (okS t) (fun n => !fS t n) V true) (hZ : MakeIs (okS U && okS V) (fun n => fS U n && fS V n) Z true) : Y = Z := by
  have h1 := (makeIs_true hY).2
  have h2 := (makeIs_true hU).2.told.set
  have h3 := (makeIs_true hV).2.told.set
  have h4 := (makeIs_true hZ).2
  have e : (fun n => fS U n && fS V n) = fun n => !fS T n := by
    funext n
    rw [h2, h3, hF]
    show (!fS s n && !fS t n) = !(fS s n || fS t n)
    cases fS s n <;> cases fS t n <;> rfl
  rw [e] at h4
  exact tidyText_same h1 h4

set_option maxRecDepth 100000 in
set_option maxHeartbeats 4000000 in
theorem pMakeMorgan (a : Option Addr) (n c : Nat) (zs : List Int) (w : World) (hr : IsRow .u8 w a n c zs) (m : Int) (hg : 0 < w.heap.size) (hm : w.cell? ⟨0, 0, none⟩ = some (.int .i64 m)) :
    Calls Try.prog 12 #[.slice a n c] w fun e w' => e = .returned (.bool true) ∧ Below w.heap.size w w' := by
  by_cases hn : n ≤ 1048576
  · have hL : LibAt m w := ⟨hg, hm⟩
    clear hg hm
    have hB := Lib.hid hr.bytes
    have hC := Lib.hid hr.cap
    clear hr
    go_enter Try.func12, Try.ntmps12
    go_wp2_with fail
    refine (drawMakeEither a n c _ hB.out hn hC.out).mono ?_
    rintro e w1 ⟨s, t, rfl, hs, ht, hb1⟩
    have HB1 := Lib.hid hb1
    have HL1 := Lib.hid (hL.below hb1)
    clear hb1
    go_wp2_with fail
    refine (implEither s t m _ (by omega) (by omega) HL1.out).mono ?_
    rintro e w2 ⟨⟨T, b, rfl, hm2⟩, hx2⟩
    have HB2 := Lib.hid (below_step HB1.out hx2)
    have HL2 := Lib.hid (HL1.out.below hx2)
    have HM := Lib.hid hm2
    clear hx2 hm2
    go_wp2_with fail
    refine (specEither s t _ (by omega) (by omega)).mono ?_
    rintro e w3 ⟨⟨U, c, rfl, hm3⟩, hx3⟩
    have HB3 := Lib.hid (below_step HB2.out hx3)
    have HL3 := Lib.hid (HL2.out.below hx3)
    obtain ⟨rfl, rfl⟩ := makeIs_unique HM.out hm3
    clear hx3 hm3
    cases b
    · go_wp2
      go_ret
      exact ⟨ret_bool (by simp), HB3.out⟩
    · obtain ⟨hok, hT⟩ := makeIs_true HM.out
      have HT := Lib.hid hT
      have HO := Lib.hid hT.told.ok
      have HF := Lib.hid hT.told.set
      have hTs := told_size hT.told.ok
      go_wp2_with fail
      refine (implOther T m _ hTs HL3.out).mono ?_
      rintro e w4 ⟨⟨Y, a, rfl, hy⟩, hx4⟩
      have HB4 := Lib.hid (below_step HB3.out hx4)
      have HL4 := Lib.hid (HL3.out.below hx4)
      have HY := Lib.hid hy
      clear hx4 hy
      go_wp2_with fail
      refine (implOther s m _ (by omega) HL4.out).mono ?_
      rintro e w5 ⟨⟨U, b, rfl, hu⟩, hx5⟩
      have HB5 := Lib.hid (below_step HB4.out hx5)
      have HL5 := Lib.hid (HL4.out.below hx5)
      have HU := Lib.hid hu
      have hUs := makeIs_size hu
      clear hx5 hu
      go_wp2_with fail
      refine (implOther t m _ (by omega) HL5.out).mono ?_
      rintro e w6 ⟨⟨V, c, rfl, hv⟩, hx6⟩
      have HB6 := Lib.hid (below_step HB5.out hx6)
      have HL6 := Lib.hid (HL5.out.below hx6)
      have HV := Lib.hid hv
      have hVs := makeIs_size hv
      clear hx6 hv
      go_wp2_with fail
      refine (implBoth U V m _ hUs hVs HL6.out).mono ?_
      rintro e w7 ⟨⟨Z, d, rfl, hz⟩, hx7⟩
      have HB7 := Lib.hid (below_step HB6.out hx7)
      have HL7 := Lib.hid (HL6.out.below hx7)
      have HZ := Lib.hid hz
      clear hx7 hz
      clear hUs hVs hTs hT HM
      by_cases hall : a = true ∧ b = true ∧ c = true ∧ d = true
      · obtain ⟨rfl, rfl, rfl, rfl⟩ := hall
        obtain rfl : Y = Z := morgan_same HF.out HY.out HU.out HV.out HZ.out
        go_wp2
        go_ret
        exact ⟨rfl, HB7.out⟩
      · cases a <;> cases b <;> cases c <;> cases d <;> first
          | exact (hall ⟨rfl, rfl, rfl, rfl⟩).elim
          | (go_wp2
             go_ret
             exact ⟨rfl, HB7.out⟩)
  · have hd : (1048576 : Int) < (n : Int) := by omega
    go_enter Try.func12, Try.ntmps12
    go_wp2
    go_ret
    exact ⟨rfl, Below.refl _ _⟩
end Go.Proofs.Ytcljchngjaodgaa
