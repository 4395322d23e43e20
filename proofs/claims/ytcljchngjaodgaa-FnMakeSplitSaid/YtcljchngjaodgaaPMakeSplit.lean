/-
  The walk of the law FnMakeSplit.
-/
import Derived.Test.YtcljchngjaodgaaPMakeBase
import Derived.Test.YtcljchngjaodgaaSpecTwo
import Derived.Test.YtcljchngjaodgaaMakeTwoI
namespace Go.Proofs.Ytcljchngjaodgaa
open Go.RowKit

theorem split_same {s t T Y Z V : ByteArray} (hF : fS T = fun n => fS s n && fS t n) (hY : MakeIs (okS s && okS t) (fun n => fS s n && !fS t n) Y true)
    (hZ : MakeIs (okS T && okS Y) (fun n => fS T n || fS Y n) Z true) (hV : TidyText (fS s) V) : V = Z := by
  have h1 := (makeIs_true hY).2.told.set
  have h2 := (makeIs_true hZ).2
  have e : (fun n => fS T n || fS Y n) = fS s := by
    funext n
    rw [h1, hF]
    show (fS s n && fS t n || fS s n && !fS t n) = fS s n
    cases fS s n <;> cases fS t n <;> rfl
  rw [e] at h2
  exact tidyText_same hV h2

set_option maxRecDepth 100000 in
set_option maxHeartbeats 4000000 in
theorem pMakeSplit (a : Option Addr) (n c : Nat) (zs : List Int) (w : World) (hr : IsRow .u8 w a n c zs) (m : Int) (hg : 0 < w.heap.size) (hm : w.cell? ⟨0, 0, none⟩ = some (.int .i64 m)) :
    Calls Try.prog 13 #[.slice a n c] w fun e w' => e = .returned (.bool true) ∧ Below w.heap.size w w' := by
  by_cases hn : n ≤ 1048576
  · have hL : LibAt m w := ⟨hg, hm⟩
    clear hg hm
    have hB := Lib.hid hr.bytes
    have hC := Lib.hid hr.cap
    clear hr
    go_enter Try.func13, Try.ntmps13
    go_wp2_with fail
    refine (drawMakeBoth a n c _ hB.out hn hC.out).mono ?_
    rintro e w1 ⟨s, t, rfl, hs, ht, hb1⟩
    have HB1 := Lib.hid hb1
    have HL1 := Lib.hid (hL.below hb1)
    clear hb1
    go_wp2_with fail
    refine (implBoth s t m _ (by omega) (by omega) HL1.out).mono ?_
    rintro e w2 ⟨⟨T, b, rfl, hm2⟩, hx2⟩
    have HB2 := Lib.hid (below_step HB1.out hx2)
    have HL2 := Lib.hid (HL1.out.below hx2)
    have HM := Lib.hid hm2
    clear hx2 hm2
    go_wp2_with fail
    refine (specBoth s t _ (by omega) (by omega)).mono ?_
    rintro e w3 ⟨⟨U, c, rfl, hm3⟩, hx3⟩
    have HB3 := Lib.hid (below_step HB2.out hx3)
    have HL3 := Lib.hid (HL2.out.below hx3)
    obtain ⟨rfl, rfl⟩ := makeIs_unique HM.out hm3
    clear hx3 hm3
    cases b
    · go_wp2
      go_ret
      exact ⟨ret_bool (by simp), HB3.out⟩
    · obtain ⟨hok, hT⟩ := makeIs_true HM.out
      have HT := Lib.hid hT
      have HO := Lib.hid hT.told.ok
      have HF := Lib.hid hT.told.set
      have hTs := told_size hT.told.ok
      go_wp2_with fail
      refine (implWithout s t m _ (by omega) (by omega) HL3.out).mono ?_
      rintro e w4 ⟨⟨Y, a, rfl, hy⟩, hx4⟩
      have HB4 := Lib.hid (below_step HB3.out hx4)
      have HL4 := Lib.hid (HL3.out.below hx4)
      have HY := Lib.hid hy
      have hYs := makeIs_size hy
      clear hx4 hy
      go_wp2_with fail
      refine (implEither T Y m _ hTs hYs HL4.out).mono ?_
      rintro e w5 ⟨⟨Z, b, rfl, hz⟩, hx5⟩
      have HB5 := Lib.hid (below_step HB4.out hx5)
      have HL5 := Lib.hid (HL4.out.below hx5)
      have HZ := Lib.hid hz
      clear hx5 hz
      obtain ⟨V, hV⟩ := tidyText_there (and_left hok)
      have HV := Lib.hid hV
      have hos := and_left hok
      clear hYs hTs hT HM hV hok
      go_wp2_with fail
      refine (implTidy s V m _ (by omega) HL5.out (.inl ⟨hos, HV.out⟩)).mono ?_
      rintro e w6 ⟨rfl, hx6⟩
      have HB6 := Lib.hid (below_step HB5.out hx6)
      have HL6 := Lib.hid (HL5.out.below hx6)
      clear hx6
      by_cases hall : a = true ∧ b = true
      · obtain ⟨rfl, rfl⟩ := hall
        obtain rfl : V = Z := split_same HF.out HY.out HZ.out HV.out
        go_wp2
        go_ret
        exact ⟨ret_bool (by simp), HB6.out⟩
      · cases a <;> cases b <;> first
          | exact (hall ⟨rfl, rfl⟩).elim
          | (go_wp2
             go_ret
             exact ⟨rfl, HB6.out⟩)
  · have hd : (1048576 : Int) < (n : Int) := by omega
    go_enter Try.func13, Try.ntmps13
    go_wp2
    go_ret
    exact ⟨rfl, Below.refl _ _⟩
end Go.Proofs.Ytcljchngjaodgaa
