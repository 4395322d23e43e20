/-
  The walk of the law FnRestFirst.
-/
import Derived.Test.YtifodjlfjnmnkaaPRestBase
import Derived.Test.YtifodjlfjnmnkaaSpecRest
import Derived.Test.YtifodjlfjnmnkaaRestNumI
import Derived.Test.YtifodjlfjnmnkaaRestSameI
set_option linter.unusedVariables false
set_option linter.unusedSimpArgs false
namespace Go.Proofs.Ytifodjlfjnmnkaa
open Go.RowKit

theorem ask_same {s : ByteArray} (h : okS s = true) (i k : Nat) (b : Bool) (hb : b = true ↔ downF (fS s) i = downF (fS s) k) (m : Int) (W : World) (hs : s.size ≤ 1048576) (hi : i ≤ 1000) (hk : k ≤ 1000) (hL : LibAt m W) :
    Calls Try.prog 26 #[.string s, .int .i64 i, .int .i64 k] W fun e w' => e = .returned (.bool b) ∧ Below W.heap.size W w' := by
  obtain ⟨m1, q1, ht, hm, hq⟩ := tidy_there h
  refine (implSameRest_on s i k m1 q1 m W hs hL h ht hm hq hi hk).mono fun e w' ⟨⟨c, he, hc⟩, hb2⟩ => ⟨?_, hb2⟩
  rw [he]
  have e2 : c = true ↔ b = true := hc.trans hb.symm
  cases b <;> cases c <;> simp at e2 <;> rfl
theorem place_le (m q k : Nat) : placeF m q k ≤ k := by
  unfold placeF
  have := Nat.mod_le (k - m) q
  split <;> omega
set_option maxRecDepth 100000 in
set_option maxHeartbeats 4000000 in
theorem pRestFirst (a : Option Addr) (n c : Nat) (zs : List Int) (w : World) (hr : IsRow .u8 w a n c zs) (m : Int) (hg : 0 < w.heap.size) (hm : w.cell? ⟨0, 0, none⟩ = some (.int .i64 m)) :
    Calls Try.prog 7 #[.slice a n c] w fun e w' => e = .returned (.bool true) ∧ Below w.heap.size w w' := by
  by_cases hn : n ≤ 1048576
  · have hL : LibAt m w := ⟨hg, hm⟩
    clear hg hm
    have hB := Lib.hid hr.bytes
    have hC := Lib.hid hr.cap
    clear hr
    go_enter Try.func7, Try.ntmps7
    go_wp2_with fail
    refine (drawRestFirst a n c _ hB.out hn hC.out).mono ?_
    rintro e w1 ⟨s, x, rfl, hs, hx, hb1⟩
    have HB1 := Lib.hid hb1
    have HL1 := Lib.hid (hL.below hb1)
    clear hb1
    go_wp2_with fail
    refine (implFirst s x m _ (by omega) HL1.out).mono ?_
    rintro e w2 ⟨⟨r, rfl, hm2⟩, hx2⟩
    have HB2 := Lib.hid (below_step HB1.out hx2)
    have HL2 := Lib.hid (HL1.out.below hx2)
    have HM := Lib.hid hm2
    clear hx2 hm2
    go_wp2_with fail
    refine (specFirst s x _ (by omega)).mono ?_
    rintro e w3 ⟨⟨r2, rfl, hm3⟩, hx3⟩
    have HB3 := Lib.hid (below_step HB2.out hx3)
    have HL3 := Lib.hid (HL2.out.below hx3)
    obtain rfl := numIs_unique first_unique HM.out hm3
    clear hx3 hm3
    cases hok : (okS s && inR x 0 1000)
    · go_wp2
      go_ret
      exact ⟨ret_bool (by simp), HB3.out⟩
    · have hf := HM.out.1 hok
      rw [Bool.and_eq_true] at hok
      obtain ⟨k, rfl, hk⟩ := inR_nat hok.2
      have HO := Lib.hid hok.1
      rw [Int.toNat_natCast] at hf
      obtain ⟨m1, q1, ht1, hr1⟩ := hf
      have hp := place_lt ht1.pos (m := m1) k
      have hps := place_self hp
      have hle : r ≤ k := by rw [hr1]; exact place_le m1 q1 k
      have HP : Hid (downF (fS s) r = downF (fS s) k) := Lib.hid (by rw [hr1]; exact down_place ht1 k)
      have HN : Hid (∀ i, i < r → downF (fS s) i ≠ downF (fS s) k) := Lib.hid fun i hi e => down_diff ht1 hi (by rw [hr1]; exact hp) (e.trans HP.out.symm)
      clear HM hok hr1 hp hps ht1
      go_wp2
      go_loopw [10] (fun i wr => ∃ z : Nat, i = .int .i64 z ∧ z ≤ r ∧ Below w.heap.size w wr ∧ LibAt m wr) (fun i _ => r - (intOf i).toNat)
      case atStart => exact ⟨0, rfl, by omega, HB3.out, HL3.out⟩
      case round =>
        obtain ⟨z, rfl, hz, hbz, hLz⟩ := hrel
        have HB0 := Lib.hid hbz
        have HL0 := Lib.hid hLz
        clear hbz hLz
        by_cases hlt : z < r
        · have hltI : (z : Int) < (r : Int) := by omega
          have hcall := ask_same HO.out z k false ⟨fun h => (by cases h), fun h => absurd h (HN.out z hlt)⟩ m _ (by omega) (by omega) (by omega) HL0.out
          go_wp2_with fail
          refine hcall.mono ?_
          rintro e w6 ⟨rfl, hx6⟩
          have HB6 := Lib.hid (below_step HB0.out hx6)
          have HL6 := Lib.hid (HL0.out.below hx6)
          clear hx6 hcall
          go_wp2
          go_roundw
          case rel => exact ⟨z + 1, by go_num, by omega, HB6.out, HL6.out⟩
          case measure => simp [intOf]; omega
        · obtain rfl : z = r := by omega
          have hcall := ask_same HO.out z k true ⟨fun _ => HP.out, fun _ => rfl⟩ m _ (by omega) (by omega) (by omega) HL0.out
          have hleI : (z : Int) ≤ (k : Int) := by omega
          go_wp2_with fail
          refine hcall.mono ?_
          rintro e w6 ⟨rfl, hx6⟩
          have HB6 := Lib.hid (below_step HB0.out hx6)
          clear hx6 hcall
          go_wp2
          go_ret
          exact ⟨ret_bool (by simp), HB6.out⟩
  · have hd : (1048576 : Int) < (n : Int) := by omega
    go_enter Try.func7, Try.ntmps7
    go_wp2
    go_ret
    exact ⟨rfl, Below.refl _ _⟩
end Go.Proofs.Ytifodjlfjnmnkaa
