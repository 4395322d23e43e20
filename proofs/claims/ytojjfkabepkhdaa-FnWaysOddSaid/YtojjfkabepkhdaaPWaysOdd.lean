/-
  The walk of the law FnWaysOdd.
-/
import Derived.Test.YtojjfkabepkhdaaPWayBase
import Derived.Test.YtojjfkabepkhdaaWaysOddI
import Derived.Test.YtojjfkabepkhdaaWaysOddS
import Derived.Test.YtojjfkabepkhdaaWaysManyI
import Derived.Test.YtojjfkabepkhdaaWaysPartI
set_option linter.unusedVariables false
set_option linter.unusedSimpArgs false
namespace Go.Proofs.Ytojjfkabepkhdaa
open Go.RowKit

theorem askIOdd_on {s : ByteArray} {n : Nat} {v : Int} (h : okW s n 40 = true) (hv : v = oddI (fS s) n) (m : Int) (W : World) (hs : s.size ≤ 1048576) (hL : LibAt m W) :
    Calls Try.prog 37 #[.string s, .int .i64 n] W fun e w' => e = .returned (.tuple #[.int .i64 v, .bool true]) ∧ Below W.heap.size W w' :=
  (implWaysOdd s n m W hs hL).mono fun e w' h2 => ⟨by have h3 := h2.1; unfold TellsW at h3; rw [h3, valW_on h, h, hv]; rfl, h2.2⟩
theorem askIOdd_off {s : ByteArray} {n : Int} (h : okW s n 40 = false) (m : Int) (W : World) (hs : s.size ≤ 1048576) (hL : LibAt m W) :
    Calls Try.prog 37 #[.string s, .int .i64 n] W fun e w' => e = .returned (.tuple #[.int .i64 0, .bool false]) ∧ Below W.heap.size W w' :=
  (implWaysOdd s n m W hs hL).mono fun e w' h2 => ⟨by have h3 := h2.1; unfold TellsW at h3; rw [h3, valW_off h, h], h2.2⟩

theorem askSOdd_on {s : ByteArray} {n : Nat} {v : Int} (h : okW s n 40 = true) (hv : v = oddI (fS s) n) (W : World) (hs : s.size ≤ 1048576) :
    Calls Try.prog 38 #[.string s, .int .i64 n] W fun e w' => e = .returned (.tuple #[.int .i64 v, .bool true]) ∧ Below W.heap.size W w' :=
  (specWaysOdd s n W hs).mono fun e w' h2 => ⟨by have h3 := h2.1; unfold TellsW at h3; rw [h3, valW_on h, h, hv]; rfl, h2.2⟩
theorem askSOdd_off {s : ByteArray} {n : Int} (h : okW s n 40 = false) (W : World) (hs : s.size ≤ 1048576) :
    Calls Try.prog 38 #[.string s, .int .i64 n] W fun e w' => e = .returned (.tuple #[.int .i64 0, .bool false]) ∧ Below W.heap.size W w' :=
  (specWaysOdd s n W hs).mono fun e w' h2 => ⟨by have h3 := h2.1; unfold TellsW at h3; rw [h3, valW_off h, h], h2.2⟩

theorem askIMany_on {s : ByteArray} {n : Nat} {v : Int} (h : okW s n 40 = true) (hv : v = manyI (fS s) n) (m : Int) (W : World) (hs : s.size ≤ 1048576) (hL : LibAt m W) :
    Calls Try.prog 16 #[.string s, .int .i64 n] W fun e w' => e = .returned (.tuple #[.int .i64 v, .bool true]) ∧ Below W.heap.size W w' :=
  (implWaysMany s n m W hs hL).mono fun e w' h2 => ⟨by have h3 := h2.1; unfold TellsW at h3; rw [h3, valW_on h, h, hv]; rfl, h2.2⟩
theorem askIMany_off {s : ByteArray} {n : Int} (h : okW s n 40 = false) (m : Int) (W : World) (hs : s.size ≤ 1048576) (hL : LibAt m W) :
    Calls Try.prog 16 #[.string s, .int .i64 n] W fun e w' => e = .returned (.tuple #[.int .i64 0, .bool false]) ∧ Below W.heap.size W w' :=
  (implWaysMany s n m W hs hL).mono fun e w' h2 => ⟨by have h3 := h2.1; unfold TellsW at h3; rw [h3, valW_off h, h], h2.2⟩

theorem askIPart_on {s : ByteArray} {n k : Nat} {v : Int} (h : partOk s n k = true) (hv : v = (partF (fS s) k n : Int)) (m : Int) (W : World) (hs : s.size ≤ 1048576) (hL : LibAt m W) :
    Calls Try.prog 18 #[.string s, .int .i64 n, .int .i64 k] W fun e w' => e = .returned (.tuple #[.int .i64 v, .bool true]) ∧ Below W.heap.size W w' :=
  (implWaysPart s n k m W hs hL).mono fun e w' h2 => ⟨by have h3 := h2.1; unfold TellsPart partV at h3; rw [h3, h, hv]; rfl, h2.2⟩
theorem askIPart_off {s : ByteArray} {n k : Int} (h : partOk s n k = false) (m : Int) (W : World) (hs : s.size ≤ 1048576) (hL : LibAt m W) :
    Calls Try.prog 18 #[.string s, .int .i64 n, .int .i64 k] W fun e w' => e = .returned (.tuple #[.int .i64 0, .bool false]) ∧ Below W.heap.size W w' :=
  (implWaysPart s n k m W hs hL).mono fun e w' h2 => ⟨by have h3 := h2.1; unfold TellsPart partV at h3; rw [h3, h]; rfl, h2.2⟩


set_option maxRecDepth 100000 in
set_option maxHeartbeats 4000000 in
theorem pWaysOdd (a : Option Addr) (n c : Nat) (zs : List Int) (w : World) (hr : IsRow .u8 w a n c zs) (m : Int) (hg : 0 < w.heap.size) (hm : w.cell? ⟨0, 0, none⟩ = some (.int .i64 m)) :
    Calls Try.prog 9 #[.slice a n c] w fun e w' => e = .returned (.bool true) ∧ Below w.heap.size w w' := by
  by_cases hn : n ≤ 1048576
  · have hL : LibAt m w := ⟨hg, hm⟩
    clear hg hm
    have hB := Lib.hid hr.bytes
    have hC := Lib.hid hr.cap
    clear hr
    go_enter Try.func9, Try.ntmps9
    go_wp2_with fail
    refine (drawWaysOdd a n c _ hB.out hn hC.out).mono ?_
    rintro e w1 ⟨s, x, rfl, hs, hx, hb1⟩
    have HB1 := Lib.hid hb1
    have HL1 := Lib.hid (hL.below hb1)
    clear hb1
    cases h : okW s x 40
    · go_wp2_with fail
      refine (askIOdd_off h m _ (by omega) HL1.out).mono ?_
      rintro e w2 ⟨rfl, hx2⟩
      have HB2 := Lib.hid (below_step HB1.out hx2)
      have HL2 := Lib.hid (HL1.out.below hx2)
      clear hx2
      go_wp2_with fail
      refine (askSOdd_off h _ (by omega)).mono ?_
      rintro e w3 ⟨rfl, hx3⟩
      have HB3 := Lib.hid (below_step HB2.out hx3)
      have HL3 := Lib.hid (HL2.out.below hx3)
      clear hx3
      go_wp2
      go_ret
      first | exact ⟨rfl, HB3.out⟩ | exact ⟨ret_bool (by simp), HB3.out⟩
    · obtain ⟨h1, N, rfl, hN40⟩ := okW_nat h
      have hN : N ≤ 40 := by omega
      obtain ⟨M, hM⟩ : ∃ M, M = oddF (fS s) N := ⟨_, rfl⟩
      have HV : Hid ((M : Int) = oddI (fS s) N) := Lib.hid (by rw [hM]; rfl)
      obtain ⟨A, hA⟩ : ∃ A, A = manyF (fS s) N := ⟨_, rfl⟩
      have HA : Hid ((A : Int) = manyI (fS s) N) := Lib.hid (by rw [hA]; rfl)
      have hb1 := oddF_many (fS s) N
      rw [← hM, ← hA] at hb1
      have h3 : (M : Int) ≤ (A : Int) := by omega
      have HOD : Hid (∀ y, N < y → oddS (fS s) N y = M) := Lib.hid (fun y hy => by rw [hM, oddF_at _ _ _ hy])
      clear hM hA hb1
      go_wp2_with fail
      refine (askIOdd_on (v := (M : Int)) h HV.out m _ (by omega) HL1.out).mono ?_
      rintro e w2 ⟨rfl, hx2⟩
      have HB2 := Lib.hid (below_step HB1.out hx2)
      have HL2 := Lib.hid (HL1.out.below hx2)
      clear hx2
      go_wp2_with fail
      refine (askSOdd_on (v := (M : Int)) h HV.out _ (by omega)).mono ?_
      rintro e w3 ⟨rfl, hx3⟩
      have HB3 := Lib.hid (below_step HB2.out hx3)
      have HL3 := Lib.hid (HL2.out.below hx3)
      clear hx3
      go_wp2
      go_loopw [10, 11] (fun sm kv wr => ∃ k : Nat, k % 2 = 1 ∧ k ≤ N + 2 ∧ kv = .int .i64 k ∧ sm = .int .i64 (oddS (fS s) N k : Nat) ∧ Below w.heap.size w wr) (fun _ kv _ => N + 3 - (intOf kv).toNat)
      case atStart => exact ⟨1, rfl, by omega, rfl, rfl, HB3.out⟩
      case round =>
        obtain ⟨k, hk2, hk, rfl, rfl, hb⟩ := hrel
        have HB := Lib.hid hb
        have HLR := Lib.hid (hL.below hb)
        clear hb
        by_cases hkN : k ≤ N
        · have hki : (k : Int) ≤ (N : Int) := by omega
          obtain ⟨p, hp⟩ : ∃ p, p = partF (fS s) k N := ⟨_, rfl⟩
          have HP : Hid ((p : Int) = (partF (fS s) k N : Int)) := Lib.hid (by rw [hp])
          have hp40 := partF_le40 (fS s) k hN
          have HST : Hid (oddS (fS s) N (k + 2) = oddS (fS s) N k + p) := Lib.hid (by rw [oddS_two _ _ _ hk2, hp])
          have hb1 := oddS_boundS (fS s) hN k
          obtain ⟨u, hu⟩ : ∃ u, u = oddS (fS s) N k := ⟨_, rfl⟩
          rw [← hu] at HST hb1 ⊢
          rw [← hp] at hp40
          have HSV : Hid ((u : Int) + (p : Int) = ((oddS (fS s) N (k + 2) : Nat) : Int)) := Lib.hid (by rw [HST.out]; omega)
          have hsv : (u : Int) + (p : Int) ≤ 1099511627776000 := by omega
          clear hp hu hb1 hp40
          go_wp2_with fail
          refine (askIPart_on (v := (p : Int)) (partOk_of h1 hN (by omega)) HP.out m _ (by omega) HLR.out).mono ?_
          rintro e w6 ⟨rfl, hb6⟩
          have HB6 := Lib.hid (HB.out.trans (hb6.mono HB.out.size))
          clear hb6
          go_wp2
          go_roundw
          case rel => exact ⟨k + 2, by omega, by omega, by go_num, by rw [← HSV.out], HB6.out⟩
          case measure => simp [intOf]; omega
        · rw [HOD.out k (by omega)]
          have hki : ¬ ((k : Int) ≤ (N : Int)) := by omega
          go_wp2_with fail
          refine (askIMany_on (v := (A : Int)) (okW_of h1 hN40) HA.out m _ (by omega) HLR.out).mono ?_
          rintro e w6 ⟨rfl, hb6⟩
          have HB6 := Lib.hid (HB.out.trans (hb6.mono HB.out.size))
          clear hb6
          go_wp2
          go_ret
          first | exact ⟨rfl, HB6.out⟩ | exact ⟨ret_bool (by simp), HB6.out⟩
  · have hd : (1048576 : Int) < (n : Int) := by omega
    go_enter Try.func9, Try.ntmps9
    go_wp2
    go_ret
    exact ⟨rfl, Below.refl _ _⟩

end Go.Proofs.Ytojjfkabepkhdaa
