/-
  The walks of RowsIn and RowsHas, of the model.
-/
import Derived.Test.YtdcedkjoligekaaManyS
import Derived.Test.YtdcedkjoligekaaRowsHas
namespace Go.Proofs.Ytdcedkjoligekaa
open Go.RowKit
set_option linter.unusedVariables false

theorem specRowsIn (a : Option Addr) (n c : Nat) (rs : List (List Int)) (w : World) (h : ReadsR w a n rs) (hn : n ≤ 1048576) (hs : Short rs) :
    Calls Try.prog 17 #[.slice a n c] w fun e w' => e = .returned (.bool (goodRows rs)) ∧ Below w.heap.size w w' := by
  have HC := Lib.hid (l3Rows_is a n c rs w h hn hs)
  clear h
  go_enter Try.func17, Try.ntmps17
  go_wp2_with fail
  refine HC.out.mono ?_
  rintro e w1 ⟨rfl, rfl⟩
  go_wp2
  go_ret
  exact ⟨rfl, Below.refl _ _⟩

set_option maxHeartbeats 1000000 in
theorem specRowsHas (a : Option Addr) (n c : Nat) (rs : List (List Int)) (x : Int) (w : World) (h : ReadsR w a n rs) (hn : n ≤ 1048576) (hs : Short rs) :
    Calls Try.prog 29 #[.slice a n c, .int .i64 x] w fun e w' => e = .returned (.tuple #[.int .i64 (hasMany rs x : Nat), .bool (hasOk rs x)]) ∧ Below w.heap.size w w' := by
  have HC := Lib.hid (l3Rows_is a n c rs w h hn hs)
  have H := Lib.hid h
  clear h
  cases hg : goodRows rs
  · have ho : hasOk rs x = false := by unfold hasOk; rw [hg]; rfl
    have HM := Lib.hid (hasMany_off ho)
    have HO := Lib.hid ho
    have HG := Lib.hid hg
    clear ho hg
    go_enter Try.func29, Try.ntmps29
    go_wp2_with fail
    refine HC.out.mono ?_
    rintro e w1 ⟨rfl, rfl⟩
    rw [HG.out]
    go_wp2
    go_ret2
    exact ⟨by rw [HM.out, HO.out]; rfl, Below.refl _ _⟩
  · cases hx : decide (0 ≤ x ∧ x ≤ 10000)
    · have ho : hasOk rs x = false := by unfold hasOk; rw [hg, hx]; rfl
      have HM := Lib.hid (hasMany_off ho)
      have HO := Lib.hid ho
      have HG := Lib.hid hg
      have HX := Lib.hid hx
      clear ho hg hx
      go_enter Try.func29, Try.ntmps29
      go_wp2_with fail
      refine HC.out.mono ?_
      rintro e w1 ⟨rfl, rfl⟩
      rw [HG.out]
      go_wp2_with fail
      refine (l6In_is x 0 10000 _).mono ?_
      rintro e w2 ⟨rfl, rfl⟩
      rw [HX.out]
      go_wp2
      go_ret2
      exact ⟨by rw [HM.out, HO.out]; rfl, Below.refl _ _⟩
    · have hx2 := of_decide_eq_true hx
      obtain ⟨y, rfl⟩ := Int.eq_ofNat_of_zero_le hx2.1
      have ho : hasOk rs y = true := by unfold hasOk; rw [hg, hx]; rfl
      have HM : Hid (hasMany rs y = cnt (theRows rs) y) := Lib.hid (by unfold hasMany; rw [ho, if_pos rfl]; rfl)
      have HO := Lib.hid ho
      have HG := Lib.hid hg
      have HX := Lib.hid hx
      clear ho hg hx
      go_enter Try.func29, Try.ntmps29
      go_wp2_with fail
      refine HC.out.mono ?_
      rintro e w1 ⟨rfl, rfl⟩
      rw [HG.out]
      go_wp2_with fail
      refine (l6In_is y 0 10000 _).mono ?_
      rintro e w2 ⟨rfl, rfl⟩
      rw [HX.out]
      go_wp2_with fail
      refine (l3Many_is a n c rs y _ H.out HG.out (by omega)).mono ?_
      rintro e w3 ⟨rfl, hb3⟩
      have HB3 := Lib.hid hb3
      clear hb3
      go_wp2
      go_ret2
      exact ⟨by rw [HM.out, HO.out]; rfl, HB3.out⟩
end Go.Proofs.Ytdcedkjoligekaa
