/-
  The walks of TermEmpty, of the program and of the model.
-/
import Derived.Test.YtiphooodijbhiabTermHas
set_option linter.unusedVariables false
set_option linter.unusedSimpArgs false
namespace Go.Proofs.Ytiphooodijbhiab
open Go.RowKit

set_option maxHeartbeats 400000 in
theorem implTermEmpty (s : ByteArray) (m : Int) (w : World) (hL : LibAt m w) : Calls Try.prog 16 #[.string s] w fun e w' => e = .returned (.bool (hasTV s 0)) ∧ Below w.heap.size w w' := by
  go_enter Try.func16, Try.ntmps16
  go_wp2_with fail
  refine (implTermHas s 0 m w hL).mono ?_
  rintro e w1 ⟨rfl, hb⟩
  go_wp2_with fail
  go_ret
  exact ⟨rfl, hb⟩

set_option maxRecDepth 100000 in
set_option maxHeartbeats 2000000 in
theorem specTermEmpty (s : ByteArray) (w : World) : Calls Try.prog 17 #[.string s] w fun e w' => e = .returned (.bool (hasTV s 0)) ∧ Below w.heap.size w w' := by
  have HI := Lib.hid (fun w => l7Of_any s w)
  cases h : termOf s.data.toList with
  | none =>
    rw [hasTV_none h]
    rw [h] at HI
    clear h
    go_enter Try.func17, Try.ntmps17
    go_wp2_with fail
    refine (HI.out _).mono ?_
    rintro e w1 ⟨he, hb⟩
    obtain ⟨c, a, q, k, rfl, _⟩ := he.form
    have HB := Lib.hid (hb.alloc hb.size (.cells #[.int .u8 c.toNat, .slice a q k] 62))
    clear he hb
    go_wp2_with fail
    go_ret
    exact ⟨rfl, HB.out⟩
  | some t =>
    rw [h] at HI
    have HH := Lib.hid (hasTV_in (n := 0) h (by omega))
    rw [show hasTV s 0 = tmF t 0 from HH.out]
    obtain ⟨_, ho, _⟩ := termOf_some h
    have HT := Lib.hid (fun B v N w hI hN => marks_any t B v N w ho hI hN)
    clear h ho
    go_enter Try.func17, Try.ntmps17
    go_wp2_with fail
    refine (HI.out _).mono ?_
    rintro e w1 ⟨he, hb⟩
    obtain ⟨c, a, q, j, rfl, hI⟩ := he.form
    have HB := Lib.hid (hb.alloc hb.size (.cells #[.int .u8 c.toNat, .slice a q j] 62))
    have HX := Lib.hid (HT.out _ _ 1 (w1.alloc (.cells #[.int .u8 c.toNat, .slice a q j] 62)) ((hI t rfl).step ((Below.refl _ _).alloc (Nat.le_refl _) _)) (by omega))
    clear he hb hI
    go_wp2_with fail
    refine HX.out.mono ?_
    rintro e w2 ⟨⟨G, rfl, hG, hr⟩, hb2⟩
    have c1 := hr.cell (i := 0) (by omega)
    have HB2 := Lib.hid (HB.out.trans (hb2.mono HB.out.size))
    clear hG hr hb2
    go_wp2_with fail
    go_ret
    exact ⟨by cases tmF t 0 <;> rfl, HB2.out⟩

end Go.Proofs.Ytiphooodijbhiab
