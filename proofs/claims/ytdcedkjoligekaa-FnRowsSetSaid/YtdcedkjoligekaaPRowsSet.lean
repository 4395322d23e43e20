/-
  The walk of the law on RowsSet: a number is told by some row.
-/
import Derived.Test.YtdcedkjoligekaaDrawRowsSet
import Derived.Test.YtdcedkjoligekaaRowsSetI
import Derived.Test.YtdcedkjoligekaaRowsSetS
import Derived.Test.YtdcedkjoligekaaRowsHas
import Derived.Test.YtdcedkjoligekaaSetHasI
import Derived.Test.YtdcedkjoligekaaRowBytes
namespace Go.Proofs.Ytdcedkjoligekaa
open Go.RowKit
set_option linter.unusedVariables false

theorem small_lcmR {rs : List (List Int)} (hs : Small rs) (hg : goodRows rs = true) : lcmAll (theRows rs) ≤ 60 := by
  apply Nat.le_of_dvd (by decide)
  apply lcmAll_least
  intro r hr h0
  unfold theRows at hr
  obtain ⟨z, hz, rfl⟩ := List.mem_map.1 hr
  have hgz : goodRow z = true := by
    unfold goodRows at hg
    simp only [Bool.and_eq_true, List.all_eq_true] at hg
    exact hg.2 z hz
  exact (hs z hz).2 hgz h0
theorem told_has {f : Nat → Bool} {T : ByteArray} (h : Told f T) (k : Nat) : setHas T (k : Int) = f k := by
  unfold setHas
  rw [h.ok, Bool.true_and, hasI_nat]
  exact congrFun h.set k
theorem told_sizeR {f : Nat → Bool} {T : ByteArray} (h : Told f T) : T.size ≤ 1048576 := by
  rw [set_size h.ok]
  have h1 := setT_le h.ok
  have h2 := setR_le h.ok
  omega
theorem has_many {rs : List (List Int)} {k : Nat} (hg : goodRows rs = true) (hk : k ≤ 10000) : hasOk rs k = true ∧ hasMany rs k = cnt (theRows rs) k := by
  have h : hasOk rs k = true := by
    unfold hasOk
    rw [hg, Bool.true_and]
    exact decide_eq_true (by omega)
  exact ⟨h, by unfold hasMany; rw [h, if_pos rfl]; rfl⟩

set_option maxRecDepth 100000 in
set_option maxHeartbeats 4000000 in
theorem pRowsSet (a : Option Addr) (n c : Nat) (zs : List Int) (w : World) (hr : IsRow .u8 w a n c zs) (m : Int) (hg : 0 < w.heap.size) (hm : w.cell? ⟨0, 0, none⟩ = some (.int .i64 m)) :
    Calls Try.prog 4 #[.slice a n c] w fun e w' => e = .returned (.bool true) ∧ Below w.heap.size w w' := by
  by_cases hn : n ≤ 1048576
  · have hL : LibAt m w := ⟨hg, hm⟩
    have HD := Lib.hid (drawRowsSet a n c w hr.bytes hn hr.cap)
    clear hg hm hr
    go_enter Try.func4, Try.ntmps4
    go_wp2_with fail
    refine HD.out.mono ?_
    rintro e w1 ⟨a1, d, c1, rs, rfl, hr1, hd, hsh, hsm, hb1⟩
    have R1 := Lib.hid hr1
    have B1 := Lib.hid hb1
    have L1 := Lib.hid (hL.below hb1)
    have hd2 : d ≤ 1048576 := by omega
    have HI := Lib.hid (fun w h hl => implRowsSet a1 d c1 rs m w h hd2 hsh hl)
    have HJ := Lib.hid (fun w h => specRowsSet a1 d c1 rs w h hd2 hsh (fun hg => small_lcmR hsm hg))
    have HK := Lib.hid (fun w x h => implRowsHas a1 d c1 rs x w h hd2 hsh)
    have HCN := Lib.hid (fun hg x => Nat.le_trans (cnt_le (theRows rs) x) (goodRows_fits (zs := rs) hg).1)
    clear hsh hsm hr1 hb1 hL
    go_wp2_with fail
    refine (HI.out _ R1.out L1.out).mono ?_
    rintro e w2 ⟨⟨T, b, rfl, hm2⟩, hb2⟩
    have B2 := Lib.hid (B1.out.trans (hb2.mono B1.out.size))
    have R2 := Lib.hid (R1.out.below hb2 (Nat.le_refl _))
    have L2 := Lib.hid (L1.out.below hb2)
    have HM := Lib.hid hm2
    clear hb2 hm2
    go_wp2_with fail
    refine (HJ.out _ R2.out).mono ?_
    rintro e w3 ⟨⟨U, b3, rfl, hm3⟩, hb3⟩
    obtain ⟨rfl, rfl⟩ := makeIs_unique HM.out hm3
    have B3 := Lib.hid (B2.out.trans (hb3.mono B2.out.size))
    have R3 := Lib.hid (R2.out.below hb3 (Nat.le_refl _))
    have L3 := Lib.hid (L2.out.below hb3)
    clear hb3 hm3 R2 L2 R1 L1 B1 B2 HI HJ
    cases b
    · go_wp2
      go_ret
      exact ⟨by simp, B3.out⟩
    · have hgood : goodRows rs = true := by
        cases e : goodRows rs
        · have := (HM.out.2 e).2; cases this
        · rfl
      have htold : Told (rowsF rs) T := by
        rcases HM.out.1 hgood with ⟨_, h⟩ | ⟨h, _⟩
        · exact h.told
        · cases h
      have HTD := Lib.hid htold
      have HG := Lib.hid hgood
      clear hgood htold HM
      go_wp2
      go_loopw [9] (fun i wr => ∃ k : Nat, k ≤ 201 ∧ i = .int .i64 k ∧ Below w3.heap.size w3 wr) (fun i _ => 201 - (intOf i).toNat)
      case atStart => exact ⟨0, by omega, rfl, Below.refl _ _⟩
      case round =>
        obtain ⟨k, hk, rfl, hB⟩ := hrel
        have HB := Lib.hid hB
        by_cases hlt : k ≤ 200
        · obtain ⟨ho, hmany⟩ := has_many (rs := rs) (k := k) HG.out (by omega)
          have HKK := Lib.hid (HK.out wr k (R3.out.below hB (Nat.le_refl _)))
          obtain ⟨x, hx⟩ : ∃ x, x = cnt (theRows rs) k := ⟨_, rfl⟩
          rw [ho, hmany, ← hx] at HKK
          have hx20 : x ≤ 20 := by rw [hx]; exact HCN.out HG.out k
          have hsh := told_has HTD.out k
          unfold rowsF at hsh
          rw [← hx] at hsh
          have HSH := Lib.hid hsh
          clear hB ho hmany hx hsh
          go_wp2_with fail
          refine HKK.out.mono ?_
          rintro e w4 ⟨rfl, hb4⟩
          have HB4 := Lib.hid (HB.out.trans (hb4.mono HB.out.size))
          clear hb4
          go_wp2_with fail
          refine (implSetHas T k m _ (told_sizeR HTD.out) (by omega) (L3.out.below HB4.out)).mono ?_
          rintro e w5 ⟨rfl, hb5⟩
          rw [HSH.out]
          have HB5 := Lib.hid (HB4.out.trans (hb5.mono HB4.out.size))
          clear hb5
          by_cases h0 : 0 < x
          · have f2 : (0 : Int) < (x : Int) := by omega
            rw [decide_eq_true h0]
            go_wp2
            go_roundw
            case rel => exact ⟨k + 1, by omega, by go_num, HB5.out⟩
            case measure => simp [intOf]; omega
          · have f2 : (x : Int) ≤ 0 := by omega
            have f3 : decide ((0 : Int) < (x : Int)) = false := decide_eq_false (by omega)
            rw [decide_eq_false h0]
            go_wp2
            go_roundw
            case rel => exact ⟨k + 1, by omega, by go_num, HB5.out⟩
            case measure => simp [intOf]; omega
        · obtain rfl : k = 201 := by omega
          go_wp2
          go_ret
          exact ⟨rfl, B3.out.trans (HB.out.mono B3.out.size)⟩
  · have hd : (1048576 : Int) < (n : Int) := by omega
    clear hr
    go_enter Try.func4, Try.ntmps4
    go_wp2
    go_ret
    exact ⟨rfl, Below.refl _ _⟩
end Go.Proofs.Ytdcedkjoligekaa
