/-
  The walk of the law FnRestMany.
-/
import Derived.Test.YtifodjlfjnmnkaaPRestBase
import Derived.Test.YtifodjlfjnmnkaaSpecMany
import Derived.Test.YtifodjlfjnmnkaaRestManyI
import Derived.Test.YtifodjlfjnmnkaaRestSameI
import Derived.Test.YtifodjlfjnmnkaaSetSizesI
set_option linter.unusedVariables false
set_option linter.unusedSimpArgs false
namespace Go.Proofs.Ytifodjlfjnmnkaa
open Go.RowKit

theorem ask_same {s : ByteArray} (h : okS s = true) (i k : Nat) (b : Bool) (hb : b = true ↔ downF (fS s) i = downF (fS s) k) (m : Int) (W : World) (hs : s.size ≤ 1048576) (hi : i ≤ 1000) (hk : k ≤ 1000) (hL : LibAt m W) :
    Calls Try.prog 26 #[.string s, .int .i64 i, .int .i64 k] W fun e w' => e = .returned (.bool b) ∧ Below W.heap.size W w' := by
  obtain ⟨m1, q1, ht, hm, hq⟩ := tidy_there h
  refine (implSameRest_on s i k m1 q1 m W hs hL h ht hm hq hi hk).mono fun e w' ⟨⟨c, he, hc⟩, hb2⟩ => ⟨?_, hb2⟩
  rw [he]
  have e2 : c = true ↔ b = true := hc.trans hb.symm
  cases b <;> cases c <;> simp at e2 <;> rfl
set_option maxRecDepth 100000 in
set_option maxHeartbeats 4000000 in
theorem pRestMany (a : Option Addr) (n c : Nat) (zs : List Int) (w : World) (hr : IsRow .u8 w a n c zs) (m : Int) (hg : 0 < w.heap.size) (hm : w.cell? ⟨0, 0, none⟩ = some (.int .i64 m)) :
    Calls Try.prog 5 #[.slice a n c] w fun e w' => e = .returned (.bool true) ∧ Below w.heap.size w w' := by
  by_cases hn : n ≤ 1048576
  · have hL : LibAt m w := ⟨hg, hm⟩
    clear hg hm
    have hB := Lib.hid hr.bytes
    have hC := Lib.hid hr.cap
    clear hr
    go_enter Try.func5, Try.ntmps5
    go_wp2_with fail
    refine (drawRestMany a n c _ hB.out hn hC.out).mono ?_
    rintro e w1 ⟨s, rfl, hs, hb1⟩
    have HB1 := Lib.hid hb1
    have HL1 := Lib.hid (hL.below hb1)
    clear hb1
    go_wp2_with fail
    refine (implMany s m _ (by omega) HL1.out).mono ?_
    rintro e w2 ⟨⟨r, rfl, hm2⟩, hx2⟩
    have HB2 := Lib.hid (below_step HB1.out hx2)
    have HL2 := Lib.hid (HL1.out.below hx2)
    have HM := Lib.hid hm2
    clear hx2 hm2
    go_wp2_with fail
    refine (specMany s _ (by omega)).mono ?_
    rintro e w3 ⟨⟨r2, rfl, hm3⟩, hx3⟩
    have HB3 := Lib.hid (below_step HB2.out hx3)
    have HL3 := Lib.hid (HL2.out.below hx3)
    obtain rfl := numIs_unique many_unique HM.out hm3
    clear hx3 hm3
    cases hok : okS s
    · go_wp2
      go_ret
      exact ⟨ret_bool (by simp), HB3.out⟩
    · obtain ⟨m1, q1, ht1, hr1⟩ := HM.out.1 hok
      obtain ⟨m2, q2, ht2, hm2, hq2⟩ := tidy_there hok
      obtain ⟨rfl, rfl⟩ := tidy_unique ht1 ht2
      have HT := Lib.hid ht1
      have HO := Lib.hid hok
      have hrI : (r : Int) = (m1 : Int) + (q1 : Int) := by omega
      have HRI := Lib.hid hrI
      have hr120 : r ≤ 120 := by omega
      have HR1 := Lib.hid hr1
      clear HM hr1 hrI hok ht1 ht2
      go_wp2_with fail
      refine (implSizes_on s m1 q1 m _ (by omega) HL3.out HO.out ⟨HT.out, hm2, hq2⟩).mono ?_
      rintro e w4 ⟨rfl, hx4⟩
      have HB4 := Lib.hid (below_step HB3.out hx4)
      have HL4 := Lib.hid (HL3.out.below hx4)
      clear hx4
      go_wp2
      go_loopw [12] (fun i wr => ∃ z : Nat, i = .int .i64 z ∧ z ≤ r ∧ Below w.heap.size w wr ∧ LibAt m wr) (fun i _ => r - (intOf i).toNat)
      case atStart => exact ⟨0, rfl, by omega, HB4.out, HL4.out⟩
      case round =>
        obtain ⟨z, rfl, hz, hbz, hLz⟩ := hrel
        have HB0 := Lib.hid hbz
        have HL0 := Lib.hid hLz
        clear hbz hLz
        by_cases hlt : z < r
        · have hltI : (z : Int) < (r : Int) := by omega
          have hltD : decide ((z : Int) < (r : Int)) = true := decide_eq_true hltI
          go_wp2
          go_loopw [13] (fun i wr => ∃ y : Nat, i = .int .i64 y ∧ y ≤ z ∧ Below w.heap.size w wr ∧ LibAt m wr) (fun i _ => z - (intOf i).toNat)
          case atStart => exact ⟨0, rfl, by omega, HB0.out, HL0.out⟩
          case round =>
            obtain ⟨y, rfl, hy, hby, hLy⟩ := hrel
            have HB5 := Lib.hid hby
            have HL5 := Lib.hid hLy
            clear hby hLy HB0 HL0
            by_cases hly : y < z
            · have hlyI : (y : Int) < (z : Int) := by omega
              have hcall := ask_same HO.out z y false (by
                have := down_diff HT.out hly (by have := HR1.out; omega)
                exact ⟨fun h => (by cases h), fun h => absurd h.symm this⟩) m _ (by omega) (by omega) (by omega) HL5.out
              go_wp2_with fail
              refine hcall.mono ?_
              rintro e w6 ⟨rfl, hx6⟩
              have HB6 := Lib.hid (below_step HB5.out hx6)
              have HL6 := Lib.hid (HL5.out.below hx6)
              clear hx6 hcall
              go_wp2
              go_roundw
              case rel => exact ⟨y + 1, by go_num, by omega, HB6.out, HL6.out⟩
              case measure => simp [intOf]; omega
            · obtain rfl : y = z := by omega
              go_wp2
              go_roundw
              case rel => exact ⟨y + 1, by go_num, by omega, HB5.out, HL5.out⟩
              case measure => simp [intOf]; omega
        · obtain rfl : z = r := by omega
          have hrI := HRI.out
          go_wp2
          go_ret
          exact ⟨ret_bool (by simp), HB0.out⟩
  · have hd : (1048576 : Int) < (n : Int) := by omega
    go_enter Try.func5, Try.ntmps5
    go_wp2
    go_ret
    exact ⟨rfl, Below.refl _ _⟩
end Go.Proofs.Ytifodjlfjnmnkaa
