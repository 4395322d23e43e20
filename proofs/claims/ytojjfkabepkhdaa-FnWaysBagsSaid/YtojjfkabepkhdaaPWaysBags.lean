/-
  The walk of the law FnWaysBags.
-/
import Derived.Test.YtojjfkabepkhdaaPWayBase
import Derived.Test.YtojjfkabepkhdaaWaysBagsI
import Derived.Test.YtojjfkabepkhdaaWaysBagsS
import Derived.Test.YtojjfkabepkhdaaWaysManyI
import Derived.Test.YtojjfkabepkhdaaStarHasI
import Derived.Test.YtojjfkabepkhdaaDrawWays2
set_option linter.unusedVariables false
set_option linter.unusedSimpArgs false
namespace Go.Proofs.Ytojjfkabepkhdaa
open Go.RowKit

theorem askIBags_on {s : ByteArray} {n : Nat} {v : Int} (h : okW s n 60 = true) (hv : v = bagI (fS s) n) (m : Int) (W : World) (hs : s.size ≤ 1048576) (hL : LibAt m W) :
    Calls Try.prog 20 #[.string s, .int .i64 n] W fun e w' => e = .returned (.tuple #[.int .i64 v, .bool true]) ∧ Below W.heap.size W w' :=
  (implWaysBags s n m W hs hL).mono fun e w' h2 => ⟨by have h3 := h2.1; unfold TellsW at h3; rw [h3, valW_on h, h, hv]; rfl, h2.2⟩
theorem askIBags_off {s : ByteArray} {n : Int} (h : okW s n 60 = false) (m : Int) (W : World) (hs : s.size ≤ 1048576) (hL : LibAt m W) :
    Calls Try.prog 20 #[.string s, .int .i64 n] W fun e w' => e = .returned (.tuple #[.int .i64 0, .bool false]) ∧ Below W.heap.size W w' :=
  (implWaysBags s n m W hs hL).mono fun e w' h2 => ⟨by have h3 := h2.1; unfold TellsW at h3; rw [h3, valW_off h, h], h2.2⟩

theorem askSBags_on {s : ByteArray} {n : Nat} {v : Int} (h : okW s n 60 = true) (hv : v = bagI (fS s) n) (W : World) (hs : s.size ≤ 1048576) :
    Calls Try.prog 21 #[.string s, .int .i64 n] W fun e w' => e = .returned (.tuple #[.int .i64 v, .bool true]) ∧ Below W.heap.size W w' :=
  (specWaysBags s n W hs).mono fun e w' h2 => ⟨by have h3 := h2.1; unfold TellsW at h3; rw [h3, valW_on h, h, hv]; rfl, h2.2⟩
theorem askSBags_off {s : ByteArray} {n : Int} (h : okW s n 60 = false) (W : World) (hs : s.size ≤ 1048576) :
    Calls Try.prog 21 #[.string s, .int .i64 n] W fun e w' => e = .returned (.tuple #[.int .i64 0, .bool false]) ∧ Below W.heap.size W w' :=
  (specWaysBags s n W hs).mono fun e w' h2 => ⟨by have h3 := h2.1; unfold TellsW at h3; rw [h3, valW_off h, h], h2.2⟩

theorem askIMany_on {s : ByteArray} {n : Nat} {v : Int} (h : okW s n 40 = true) (hv : v = manyI (fS s) n) (m : Int) (W : World) (hs : s.size ≤ 1048576) (hL : LibAt m W) :
    Calls Try.prog 16 #[.string s, .int .i64 n] W fun e w' => e = .returned (.tuple #[.int .i64 v, .bool true]) ∧ Below W.heap.size W w' :=
  (implWaysMany s n m W hs hL).mono fun e w' h2 => ⟨by have h3 := h2.1; unfold TellsW at h3; rw [h3, valW_on h, h, hv]; rfl, h2.2⟩
theorem askIMany_off {s : ByteArray} {n : Int} (h : okW s n 40 = false) (m : Int) (W : World) (hs : s.size ≤ 1048576) (hL : LibAt m W) :
    Calls Try.prog 16 #[.string s, .int .i64 n] W fun e w' => e = .returned (.tuple #[.int .i64 0, .bool false]) ∧ Below W.heap.size W w' :=
  (implWaysMany s n m W hs hL).mono fun e w' h2 => ⟨by have h3 := h2.1; unfold TellsW at h3; rw [h3, valW_off h, h], h2.2⟩

theorem ask_star9b {s : ByteArray} (h : smallS s = true) (n : Nat) (hn : n ≤ 2000) {b : Bool} (hb : starB (fS s) n = b) (m : Int) (W : World) (hs : s.size ≤ 1048576) (hL : LibAt m W) :
    Calls Try.prog 22 #[.string s, .int .i64 n] W fun e w' => e = .returned (.bool b) ∧ Below W.heap.size W w' := by
  have := implHas_on s n m W hs hL h hn
  rw [hb] at this
  exact this
theorem okW_far {s : ByteArray} {n : Nat} (h : 40 < n) : okW s n 40 = false := by unfold okW; rw [inR_out (k := (n : Int)) (N := 40) (by omega), Bool.and_false]
theorem star_no {s : ByteArray} {n : Nat} (h : ¬ Star (fS s) n) : starB (fS s) n = false := by
  cases hb : starB (fS s) n
  · rfl
  · exact absurd (starB_iff.1 hb) h

set_option maxRecDepth 100000 in
set_option maxHeartbeats 4000000 in
theorem pWaysBags (a : Option Addr) (n c : Nat) (zs : List Int) (w : World) (hr : IsRow .u8 w a n c zs) (m : Int) (hg : 0 < w.heap.size) (hm : w.cell? ⟨0, 0, none⟩ = some (.int .i64 m)) :
    Calls Try.prog 4 #[.slice a n c] w fun e w' => e = .returned (.bool true) ∧ Below w.heap.size w w' := by
  by_cases hn : n ≤ 1048576
  · have hL : LibAt m w := ⟨hg, hm⟩
    clear hg hm
    have hB := Lib.hid hr.bytes
    have hC := Lib.hid hr.cap
    clear hr
    go_enter Try.func4, Try.ntmps4
    go_wp2_with fail
    refine (drawWaysBags a n c _ hB.out hn hC.out).mono ?_
    rintro e w1 ⟨s, x, rfl, hs, hx, hb1⟩
    have HB1 := Lib.hid hb1
    have HL1 := Lib.hid (hL.below hb1)
    clear hb1
    cases h : okW s x 60
    · go_wp2_with fail
      refine (askIBags_off h m _ (by omega) HL1.out).mono ?_
      rintro e w2 ⟨rfl, hx2⟩
      have HB2 := Lib.hid (below_step HB1.out hx2)
      have HL2 := Lib.hid (HL1.out.below hx2)
      clear hx2
      go_wp2_with fail
      refine (askSBags_off h _ (by omega)).mono ?_
      rintro e w3 ⟨rfl, hx3⟩
      have HB3 := Lib.hid (below_step HB2.out hx3)
      have HL3 := Lib.hid (HL2.out.below hx3)
      clear hx3
      go_wp2
      go_ret
      first | exact ⟨rfl, HB3.out⟩ | exact ⟨ret_bool (by simp), HB3.out⟩
    · obtain ⟨h1, N, rfl, hN40⟩ := okW_nat h
      have hN : N ≤ 60 := by omega
      obtain ⟨M, hM⟩ : ∃ M, M = bagF (fS s) N N := ⟨_, rfl⟩
      have HV : Hid ((M : Int) = bagI (fS s) N) := Lib.hid (by rw [hM]; rfl)
      obtain ⟨A, hA⟩ : ∃ A, A = manyF (fS s) N := ⟨_, rfl⟩
      have HA : Hid ((A : Int) = manyI (fS s) N) := Lib.hid (by rw [hA]; rfl)
      have hst := bag_star (fS s) N N (Nat.le_refl _)
      have hmn := bag_many (fS s) N N
      have hms := manyF_star (fS s) N
      rw [← hM] at hst hmn
      rw [← hA] at hmn hms
      have hMA : (M : Int) ≤ (A : Int) := by omega
      have HIF := Lib.hid hst
      have HIA := Lib.hid hms
      clear hM hA hst hms hmn
      go_wp2_with fail
      refine (askIBags_on (v := (M : Int)) h HV.out m _ (by omega) HL1.out).mono ?_
      rintro e w2 ⟨rfl, hx2⟩
      have HB2 := Lib.hid (below_step HB1.out hx2)
      have HL2 := Lib.hid (HL1.out.below hx2)
      clear hx2
      go_wp2_with fail
      refine (askSBags_on (v := (M : Int)) h HV.out _ (by omega)).mono ?_
      rintro e w3 ⟨rfl, hx3⟩
      have HB3 := Lib.hid (below_step HB2.out hx3)
      have HL3 := Lib.hid (HL2.out.below hx3)
      clear hx3
      by_cases hM0 : 0 < M
      · have HST : Hid (starB (fS s) N = true) := Lib.hid (starB_iff.2 (HIF.out.1 hM0))
        have hA0 : (0 : Int) < (A : Int) := by have := HIA.out.2 (HIF.out.1 hM0); omega
        have hMi : (0 : Int) < (M : Int) := by omega
        clear hM0
        by_cases h40 : 40 < N
        · have HOK := Lib.hid (okW_far (s := s) h40)
          go_wp2_with fail
          refine (askIMany_off HOK.out m _ (by omega) HL3.out).mono ?_
          rintro e w4 ⟨rfl, hx4⟩
          have HB4 := Lib.hid (below_step HB3.out hx4)
          have HL4 := Lib.hid (HL3.out.below hx4)
          clear hx4
          go_wp2_with fail
          refine (ask_star9b h1 N (by omega) HST.out m _ (by omega) HL4.out).mono ?_
          rintro e w5 ⟨rfl, hx5⟩
          have HB5 := Lib.hid (below_step HB4.out hx5)
          have HL5 := Lib.hid (HL4.out.below hx5)
          clear hx5
          go_wp2
          go_ret
          exact ⟨ret_bool (by simp; omega), HB5.out⟩
        · have HOK := Lib.hid (okW_of (s := s) (N := 40) h1 (show (N : Int) ≤ 40 by omega))
          go_wp2_with fail
          refine (askIMany_on (v := (A : Int)) HOK.out HA.out m _ (by omega) HL3.out).mono ?_
          rintro e w4 ⟨rfl, hx4⟩
          have HB4 := Lib.hid (below_step HB3.out hx4)
          have HL4 := Lib.hid (HL3.out.below hx4)
          clear hx4
          go_wp2_with fail
          refine (ask_star9b h1 N (by omega) HST.out m _ (by omega) HL4.out).mono ?_
          rintro e w5 ⟨rfl, hx5⟩
          have HB5 := Lib.hid (below_step HB4.out hx5)
          have HL5 := Lib.hid (HL4.out.below hx5)
          clear hx5
          go_wp2
          go_ret
          exact ⟨ret_bool (by simp; omega), HB5.out⟩
      · have HST : Hid (starB (fS s) N = false) := Lib.hid (star_no (fun x => hM0 (HIF.out.2 x)))
        obtain rfl : A = 0 := by
          rcases Nat.eq_zero_or_pos A with e | e
          · exact e
          · exact absurd (HIF.out.2 (HIA.out.1 e)) hM0
        obtain rfl : M = 0 := by omega
        clear hM0
        by_cases h40 : 40 < N
        · have HOK := Lib.hid (okW_far (s := s) h40)
          go_wp2_with fail
          refine (askIMany_off HOK.out m _ (by omega) HL3.out).mono ?_
          rintro e w4 ⟨rfl, hx4⟩
          have HB4 := Lib.hid (below_step HB3.out hx4)
          have HL4 := Lib.hid (HL3.out.below hx4)
          clear hx4
          go_wp2_with fail
          refine (ask_star9b h1 N (by omega) HST.out m _ (by omega) HL4.out).mono ?_
          rintro e w5 ⟨rfl, hx5⟩
          have HB5 := Lib.hid (below_step HB4.out hx5)
          have HL5 := Lib.hid (HL4.out.below hx5)
          clear hx5
          go_wp2
          go_ret
          first | exact ⟨rfl, HB5.out⟩ | exact ⟨ret_bool (by simp), HB5.out⟩
        · have HOK := Lib.hid (okW_of (s := s) (N := 40) h1 (show (N : Int) ≤ 40 by omega))
          go_wp2_with fail
          refine (askIMany_on (v := ((0 : Nat) : Int)) HOK.out HA.out m _ (by omega) HL3.out).mono ?_
          rintro e w4 ⟨rfl, hx4⟩
          have HB4 := Lib.hid (below_step HB3.out hx4)
          have HL4 := Lib.hid (HL3.out.below hx4)
          clear hx4
          go_wp2_with fail
          refine (ask_star9b h1 N (by omega) HST.out m _ (by omega) HL4.out).mono ?_
          rintro e w5 ⟨rfl, hx5⟩
          have HB5 := Lib.hid (below_step HB4.out hx5)
          have HL5 := Lib.hid (HL4.out.below hx5)
          clear hx5
          go_wp2
          go_ret
          first | exact ⟨rfl, HB5.out⟩ | exact ⟨ret_bool (by simp), HB5.out⟩
  · have hd : (1048576 : Int) < (n : Int) := by omega
    go_enter Try.func4, Try.ntmps4
    go_wp2
    go_ret
    exact ⟨rfl, Below.refl _ _⟩

end Go.Proofs.Ytojjfkabepkhdaa
