/-
  The walk of the law FnRestRound.
-/
import Derived.Test.YtifodjlfjnmnkaaPRestBase
import Derived.Test.YtifodjlfjnmnkaaSpecRound
import Derived.Test.YtifodjlfjnmnkaaRestNumI
import Derived.Test.YtifodjlfjnmnkaaRestSameI
import Derived.Test.YtifodjlfjnmnkaaSetSizesI
set_option linter.unusedVariables false
set_option linter.unusedSimpArgs false
namespace Go.Proofs.Ytifodjlfjnmnkaa
open Go.RowKit

theorem ask_same {s : ByteArray} (h : okS s = true) (i k : Nat) (b : Bool) (hb : b = true ↔ downF (fS s) i = downF (fS s) k) (m : Int) (W : World) (hs : s.size ≤ 1048576) (hi : i ≤ 1000) (hk : k ≤ 1000) (hL : LibAt m W) :
    Calls Try.prog 26 #[.string s, .int .i64 i, .int .i64 k] W fun e w' => e = .returned (.bool b) ∧ Below W.heap.size W w' := by
  obtain ⟨m1, q1, ht, hm, hq⟩ := tidy_there h
  refine (implSameRest_on s i k m1 q1 m W hs hL h ht hm hq hi hk).mono fun e w' ⟨⟨c, he, hc⟩, hb2⟩ => ⟨?_, hb2⟩
  rw [he]
  have e2 : c = true ↔ b = true := hc.trans hb.symm
  cases b <;> cases c <;> simp at e2 <;> rfl
set_option maxRecDepth 100000 in
set_option maxHeartbeats 4000000 in
theorem pRestRound (a : Option Addr) (n c : Nat) (zs : List Int) (w : World) (hr : IsRow .u8 w a n c zs) (m : Int) (hg : 0 < w.heap.size) (hm : w.cell? ⟨0, 0, none⟩ = some (.int .i64 m)) :
    Calls Try.prog 9 #[.slice a n c] w fun e w' => e = .returned (.bool true) ∧ Below w.heap.size w w' := by
  by_cases hn : n ≤ 1048576
  · have hL : LibAt m w := ⟨hg, hm⟩
    clear hg hm
    have hB := Lib.hid hr.bytes
    have hC := Lib.hid hr.cap
    clear hr
    go_enter Try.func9, Try.ntmps9
    go_wp2_with fail
    refine (drawRestRound a n c _ hB.out hn hC.out).mono ?_
    rintro e w1 ⟨s, rfl, hs, hb1⟩
    have HB1 := Lib.hid hb1
    have HL1 := Lib.hid (hL.below hb1)
    clear hb1
    go_wp2_with fail
    refine (implRound s m _ (by omega) HL1.out).mono ?_
    rintro e w2 ⟨⟨r, rfl, hm2⟩, hx2⟩
    have HB2 := Lib.hid (below_step HB1.out hx2)
    have HL2 := Lib.hid (HL1.out.below hx2)
    have HM := Lib.hid hm2
    clear hx2 hm2
    go_wp2_with fail
    refine (specRound s _ (by omega)).mono ?_
    rintro e w3 ⟨⟨r2, rfl, hm3⟩, hx3⟩
    have HB3 := Lib.hid (below_step HB2.out hx3)
    have HL3 := Lib.hid (HL2.out.below hx3)
    obtain rfl := numIs_unique round_unique HM.out hm3
    clear hx3 hm3
    cases hok : okS s
    · go_wp2
      go_ret
      exact ⟨ret_bool (by simp), HB3.out⟩
    · obtain ⟨m1, ht1⟩ := HM.out.1 hok
      obtain ⟨m2, q2, ht2, hm2, hq2⟩ := tidy_there hok
      obtain ⟨rfl, rfl⟩ := tidy_unique ht1 ht2
      have HT := Lib.hid ht1
      have HO := Lib.hid hok
      have hr0 := ht1.pos
      have hcall := fun W hW => ask_same (b := true) HO.out 60 (60 + r) ⟨fun _ => (round_back HT.out (by omega)).symm, fun _ => rfl⟩ m W (by omega) (by omega) (by omega) hW
      rw [Int.natCast_add] at hcall
      clear HM hok ht1 ht2
      go_wp2_with fail
      refine (implSizes_on s m1 r m _ (by omega) HL3.out HO.out ⟨HT.out, hm2, hq2⟩).mono ?_
      rintro e w4 ⟨rfl, hx4⟩
      have HB4 := Lib.hid (below_step HB3.out hx4)
      have HL4 := Lib.hid (HL3.out.below hx4)
      clear hx4
      go_wp2_with fail
      refine (hcall _ HL4.out).mono ?_
      rintro e w5 ⟨rfl, hx5⟩
      have HB5 := Lib.hid (below_step HB4.out hx5)
      have HL5 := Lib.hid (HL4.out.below hx5)
      clear hx5 hcall
      by_cases h1 : r = 1
      · subst h1
        go_wp2
        go_ret
        exact ⟨ret_bool (by simp), HB5.out⟩
      · have h1I : ¬ (r : Int) = 1 := by omega
        have hcall := fun W hW => ask_same (b := false) HO.out 60 61 ⟨fun h => (by cases h), fun h => absurd h.symm (round_least HT.out (n := 60) (d := 1) (by decide) (by omega))⟩ m W (by omega) (by omega) (by omega) hW
        go_wp2_with fail
        refine (hcall _ HL5.out).mono ?_
        rintro e w6 ⟨rfl, hx6⟩
        have HB6 := Lib.hid (below_step HB5.out hx6)
        have HL6 := Lib.hid (HL5.out.below hx6)
        clear hx6 hcall
        go_wp2
        go_ret
        exact ⟨ret_bool (by simp), HB6.out⟩
  · have hd : (1048576 : Int) < (n : Int) := by omega
    go_enter Try.func9, Try.ntmps9
    go_wp2
    go_ret
    exact ⟨rfl, Below.refl _ _⟩
end Go.Proofs.Ytifodjlfjnmnkaa
