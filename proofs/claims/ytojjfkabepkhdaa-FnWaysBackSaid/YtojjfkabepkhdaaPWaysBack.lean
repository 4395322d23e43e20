/-
  The walk of the law FnWaysBack.
-/
import Derived.Test.YtojjfkabepkhdaaPWayBase
import Derived.Test.YtojjfkabepkhdaaWaysBackI
import Derived.Test.YtojjfkabepkhdaaWaysBackS
import Derived.Test.YtojjfkabepkhdaaWaysManyI
set_option linter.unusedVariables false
set_option linter.unusedSimpArgs false
namespace Go.Proofs.Ytojjfkabepkhdaa
open Go.RowKit

theorem askIBack_on {s : ByteArray} {n : Nat} {v : Int} (h : okW s n 40 = true) (hv : v = backI (fS s) n) (m : Int) (W : World) (hs : s.size ≤ 1048576) (hL : LibAt m W) :
    Calls Try.prog 40 #[.string s, .int .i64 n] W fun e w' => e = .returned (.tuple #[.int .i64 v, .bool true]) ∧ Below W.heap.size W w' :=
  (implWaysBack s n m W hs hL).mono fun e w' h2 => ⟨by have h3 := h2.1; unfold TellsW at h3; rw [h3, valW_on h, h, hv]; rfl, h2.2⟩
theorem askIBack_off {s : ByteArray} {n : Int} (h : okW s n 40 = false) (m : Int) (W : World) (hs : s.size ≤ 1048576) (hL : LibAt m W) :
    Calls Try.prog 40 #[.string s, .int .i64 n] W fun e w' => e = .returned (.tuple #[.int .i64 0, .bool false]) ∧ Below W.heap.size W w' :=
  (implWaysBack s n m W hs hL).mono fun e w' h2 => ⟨by have h3 := h2.1; unfold TellsW at h3; rw [h3, valW_off h, h], h2.2⟩

theorem askSBack_on {s : ByteArray} {n : Nat} {v : Int} (h : okW s n 40 = true) (hv : v = backI (fS s) n) (W : World) (hs : s.size ≤ 1048576) :
    Calls Try.prog 41 #[.string s, .int .i64 n] W fun e w' => e = .returned (.tuple #[.int .i64 v, .bool true]) ∧ Below W.heap.size W w' :=
  (specWaysBack s n W hs).mono fun e w' h2 => ⟨by have h3 := h2.1; unfold TellsW at h3; rw [h3, valW_on h, h, hv]; rfl, h2.2⟩
theorem askSBack_off {s : ByteArray} {n : Int} (h : okW s n 40 = false) (W : World) (hs : s.size ≤ 1048576) :
    Calls Try.prog 41 #[.string s, .int .i64 n] W fun e w' => e = .returned (.tuple #[.int .i64 0, .bool false]) ∧ Below W.heap.size W w' :=
  (specWaysBack s n W hs).mono fun e w' h2 => ⟨by have h3 := h2.1; unfold TellsW at h3; rw [h3, valW_off h, h], h2.2⟩

theorem askIMany_on {s : ByteArray} {n : Nat} {v : Int} (h : okW s n 40 = true) (hv : v = manyI (fS s) n) (m : Int) (W : World) (hs : s.size ≤ 1048576) (hL : LibAt m W) :
    Calls Try.prog 16 #[.string s, .int .i64 n] W fun e w' => e = .returned (.tuple #[.int .i64 v, .bool true]) ∧ Below W.heap.size W w' :=
  (implWaysMany s n m W hs hL).mono fun e w' h2 => ⟨by have h3 := h2.1; unfold TellsW at h3; rw [h3, valW_on h, h, hv]; rfl, h2.2⟩
theorem askIMany_off {s : ByteArray} {n : Int} (h : okW s n 40 = false) (m : Int) (W : World) (hs : s.size ≤ 1048576) (hL : LibAt m W) :
    Calls Try.prog 16 #[.string s, .int .i64 n] W fun e w' => e = .returned (.tuple #[.int .i64 0, .bool false]) ∧ Below W.heap.size W w' :=
  (implWaysMany s n m W hs hL).mono fun e w' h2 => ⟨by have h3 := h2.1; unfold TellsW at h3; rw [h3, valW_off h, h], h2.2⟩


set_option maxRecDepth 100000 in
set_option maxHeartbeats 4000000 in
theorem pWaysBack (a : Option Addr) (n c : Nat) (zs : List Int) (w : World) (hr : IsRow .u8 w a n c zs) (m : Int) (hg : 0 < w.heap.size) (hm : w.cell? ⟨0, 0, none⟩ = some (.int .i64 m)) :
    Calls Try.prog 10 #[.slice a n c] w fun e w' => e = .returned (.bool true) ∧ Below w.heap.size w w' := by
  by_cases hn : n ≤ 1048576
  · have hL : LibAt m w := ⟨hg, hm⟩
    clear hg hm
    have hB := Lib.hid hr.bytes
    have hC := Lib.hid hr.cap
    clear hr
    go_enter Try.func10, Try.ntmps10
    go_wp2_with fail
    refine (drawWaysBack a n c _ hB.out hn hC.out).mono ?_
    rintro e w1 ⟨s, x, rfl, hs, hx, hb1⟩
    have HB1 := Lib.hid hb1
    have HL1 := Lib.hid (hL.below hb1)
    clear hb1
    cases h : okW s x 40
    · go_wp2_with fail
      refine (askIBack_off h m _ (by omega) HL1.out).mono ?_
      rintro e w2 ⟨rfl, hx2⟩
      have HB2 := Lib.hid (below_step HB1.out hx2)
      have HL2 := Lib.hid (HL1.out.below hx2)
      clear hx2
      go_wp2_with fail
      refine (askSBack_off h _ (by omega)).mono ?_
      rintro e w3 ⟨rfl, hx3⟩
      have HB3 := Lib.hid (below_step HB2.out hx3)
      have HL3 := Lib.hid (HL2.out.below hx3)
      clear hx3
      go_wp2
      go_ret
      first | exact ⟨rfl, HB3.out⟩ | exact ⟨ret_bool (by simp), HB3.out⟩
    · obtain ⟨h1, N, rfl, hN40⟩ := okW_nat h
      have hN : N ≤ 40 := by omega
      obtain ⟨M, hM⟩ : ∃ M, M = backF (fS s) N := ⟨_, rfl⟩
      have HV : Hid ((M : Int) = backI (fS s) N) := Lib.hid (by rw [hM]; rfl)
      obtain ⟨A, hA⟩ : ∃ A, A = manyF (fS s) N := ⟨_, rfl⟩
      have HA : Hid ((A : Int) = manyI (fS s) N) := Lib.hid (by rw [hA]; rfl)
      have hb1 := back_many (fS s) N
      rw [← hM, ← hA] at hb1
      have hb2 := manyF_le40 (fS s) hN
      rw [← hA] at hb2
      have h3 : (M : Int) ≤ (A : Int) := by omega
      have h4 : ((A : Int) - (M : Int)) % 2 = 0 := by omega
      clear hM hA
      go_wp2_with fail
      refine (askIBack_on (v := (M : Int)) h HV.out m _ (by omega) HL1.out).mono ?_
      rintro e w2 ⟨rfl, hx2⟩
      have HB2 := Lib.hid (below_step HB1.out hx2)
      have HL2 := Lib.hid (HL1.out.below hx2)
      clear hx2
      go_wp2_with fail
      refine (askSBack_on (v := (M : Int)) h HV.out _ (by omega)).mono ?_
      rintro e w3 ⟨rfl, hx3⟩
      have HB3 := Lib.hid (below_step HB2.out hx3)
      have HL3 := Lib.hid (HL2.out.below hx3)
      clear hx3
      go_wp2_with fail
      refine (askIMany_on (v := (A : Int)) (okW_of h1 hN40) HA.out m _ (by omega) HL3.out).mono ?_
      rintro e w4 ⟨rfl, hx4⟩
      have HB4 := Lib.hid (below_step HB3.out hx4)
      have HL4 := Lib.hid (HL3.out.below hx4)
      obtain ⟨B, hB⟩ : ∃ B : Nat, B = A - M := ⟨_, rfl⟩
      have hBi : (A : Int) - (M : Int) = (B : Int) := by omega
      have hB2 : (B : Int) % 2 = 0 := by omega
      have hB3 : (B : Int) ≤ 1099511627776 := by omega
      have hB4 : (0 : Int) ≤ (M : Int) := by omega
      clear hB h4 hb1
      clear hx4
      go_wp2
      go_ret
      first | exact ⟨rfl, HB4.out⟩ | exact ⟨ret_bool (by simp), HB4.out⟩
  · have hd : (1048576 : Int) < (n : Int) := by omega
    go_enter Try.func10, Try.ntmps10
    go_wp2
    go_ret
    exact ⟨rfl, Below.refl _ _⟩

end Go.Proofs.Ytojjfkabepkhdaa
