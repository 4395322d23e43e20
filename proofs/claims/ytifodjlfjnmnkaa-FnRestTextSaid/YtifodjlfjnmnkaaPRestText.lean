/-
  The walk of the law FnRestText.
-/
import Derived.Test.YtifodjlfjnmnkaaPRestBase
import Derived.Test.YtifodjlfjnmnkaaSpecRest
import Derived.Test.YtifodjlfjnmnkaaRestTextI
set_option linter.unusedVariables false
set_option linter.unusedSimpArgs false
namespace Go.Proofs.Ytifodjlfjnmnkaa
open Go.RowKit

set_option maxRecDepth 100000 in
set_option maxHeartbeats 4000000 in
theorem pRestText (a : Option Addr) (n c : Nat) (zs : List Int) (w : World) (hr : IsRow .u8 w a n c zs) (m : Int) (hg : 0 < w.heap.size) (hm : w.cell? ⟨0, 0, none⟩ = some (.int .i64 m)) :
    Calls Try.prog 8 #[.slice a n c] w fun e w' => e = .returned (.bool true) ∧ Below w.heap.size w w' := by
  by_cases hn : n ≤ 1048576
  · have hL : LibAt m w := ⟨hg, hm⟩
    clear hg hm
    have hB := Lib.hid hr.bytes
    have hC := Lib.hid hr.cap
    clear hr
    go_enter Try.func8, Try.ntmps8
    go_wp2_with fail
    refine (drawRestText a n c _ hB.out hn hC.out).mono ?_
    rintro e w1 ⟨s, x, rfl, hs, hx, hb1⟩
    have HB1 := Lib.hid hb1
    have HL1 := Lib.hid (hL.below hb1)
    clear hb1
    go_wp2_with fail
    refine (implRest s x m _ (by omega) HL1.out).mono ?_
    rintro e w2 ⟨⟨T, b, rfl, hm2⟩, hx2⟩
    have HB2 := Lib.hid (below_step HB1.out hx2)
    have HL2 := Lib.hid (HL1.out.below hx2)
    have HM := Lib.hid hm2
    clear hx2 hm2
    go_wp2_with fail
    refine (specRest s x _ (by omega)).mono ?_
    rintro e w3 ⟨⟨U, c, rfl, hm3⟩, hx3⟩
    have HB3 := Lib.hid (below_step HB2.out hx3)
    have HL3 := Lib.hid (HL2.out.below hx3)
    obtain ⟨rfl, rfl⟩ := makeIs_unique HM.out hm3
    clear hx3 hm3
    cases b
    · go_wp2
      go_ret
      exact ⟨ret_bool (by simp), HB3.out⟩
    · have HX := Lib.hid HM.out
      go_wp2_with fail
      refine (implDown s x m _ (by omega) HL3.out).mono ?_
      rintro e w4 ⟨⟨V, d, rfl, hm4⟩, hx4⟩
      have HB4 := Lib.hid (below_step HB3.out hx4)
      have HL4 := Lib.hid (HL3.out.below hx4)
      obtain ⟨rfl, rfl⟩ := makeIs_unique HX.out hm4
      clear hx4 hm4
      go_wp2
      go_ret
      exact ⟨ret_bool (by simp), HB4.out⟩
  · have hd : (1048576 : Int) < (n : Int) := by omega
    go_enter Try.func8, Try.ntmps8
    go_wp2
    go_ret
    exact ⟨rfl, Below.refl _ _⟩
end Go.Proofs.Ytifodjlfjnmnkaa
