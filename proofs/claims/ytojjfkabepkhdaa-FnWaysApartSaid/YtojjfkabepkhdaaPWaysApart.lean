/-
  The walk of the law FnWaysApart.
-/
import Derived.Test.YtojjfkabepkhdaaPWayBase
import Derived.Test.YtojjfkabepkhdaaWaysApartI
import Derived.Test.YtojjfkabepkhdaaWaysApartS
import Derived.Test.YtojjfkabepkhdaaWaysBagsI
import Derived.Test.YtojjfkabepkhdaaDrawWays2
set_option linter.unusedVariables false
set_option linter.unusedSimpArgs false
namespace Go.Proofs.Ytojjfkabepkhdaa
open Go.RowKit

theorem askIApart_on {s : ByteArray} {n : Nat} {v : Int} (h : okW s n 60 = true) (hv : v = apartI (fS s) n) (m : Int) (W : World) (hs : s.size ≤ 1048576) (hL : LibAt m W) :
    Calls Try.prog 24 #[.string s, .int .i64 n] W fun e w' => e = .returned (.tuple #[.int .i64 v, .bool true]) ∧ Below W.heap.size W w' :=
  (implWaysApart s n m W hs hL).mono fun e w' h2 => ⟨by have h3 := h2.1; unfold TellsW at h3; rw [h3, valW_on h, h, hv]; rfl, h2.2⟩
theorem askIApart_off {s : ByteArray} {n : Int} (h : okW s n 60 = false) (m : Int) (W : World) (hs : s.size ≤ 1048576) (hL : LibAt m W) :
    Calls Try.prog 24 #[.string s, .int .i64 n] W fun e w' => e = .returned (.tuple #[.int .i64 0, .bool false]) ∧ Below W.heap.size W w' :=
  (implWaysApart s n m W hs hL).mono fun e w' h2 => ⟨by have h3 := h2.1; unfold TellsW at h3; rw [h3, valW_off h, h], h2.2⟩

theorem askSApart_on {s : ByteArray} {n : Nat} {v : Int} (h : okW s n 60 = true) (hv : v = apartI (fS s) n) (W : World) (hs : s.size ≤ 1048576) :
    Calls Try.prog 25 #[.string s, .int .i64 n] W fun e w' => e = .returned (.tuple #[.int .i64 v, .bool true]) ∧ Below W.heap.size W w' :=
  (specWaysApart s n W hs).mono fun e w' h2 => ⟨by have h3 := h2.1; unfold TellsW at h3; rw [h3, valW_on h, h, hv]; rfl, h2.2⟩
theorem askSApart_off {s : ByteArray} {n : Int} (h : okW s n 60 = false) (W : World) (hs : s.size ≤ 1048576) :
    Calls Try.prog 25 #[.string s, .int .i64 n] W fun e w' => e = .returned (.tuple #[.int .i64 0, .bool false]) ∧ Below W.heap.size W w' :=
  (specWaysApart s n W hs).mono fun e w' h2 => ⟨by have h3 := h2.1; unfold TellsW at h3; rw [h3, valW_off h, h], h2.2⟩

theorem askIBags_on {s : ByteArray} {n : Nat} {v : Int} (h : okW s n 60 = true) (hv : v = bagI (fS s) n) (m : Int) (W : World) (hs : s.size ≤ 1048576) (hL : LibAt m W) :
    Calls Try.prog 20 #[.string s, .int .i64 n] W fun e w' => e = .returned (.tuple #[.int .i64 v, .bool true]) ∧ Below W.heap.size W w' :=
  (implWaysBags s n m W hs hL).mono fun e w' h2 => ⟨by have h3 := h2.1; unfold TellsW at h3; rw [h3, valW_on h, h, hv]; rfl, h2.2⟩
theorem askIBags_off {s : ByteArray} {n : Int} (h : okW s n 60 = false) (m : Int) (W : World) (hs : s.size ≤ 1048576) (hL : LibAt m W) :
    Calls Try.prog 20 #[.string s, .int .i64 n] W fun e w' => e = .returned (.tuple #[.int .i64 0, .bool false]) ∧ Below W.heap.size W w' :=
  (implWaysBags s n m W hs hL).mono fun e w' h2 => ⟨by have h3 := h2.1; unfold TellsW at h3; rw [h3, valW_off h, h], h2.2⟩


set_option maxRecDepth 100000 in
set_option maxHeartbeats 4000000 in
theorem pWaysApart (a : Option Addr) (n c : Nat) (zs : List Int) (w : World) (hr : IsRow .u8 w a n c zs) (m : Int) (hg : 0 < w.heap.size) (hm : w.cell? ⟨0, 0, none⟩ = some (.int .i64 m)) :
    Calls Try.prog 5 #[.slice a n c] w fun e w' => e = .returned (.bool true) ∧ Below w.heap.size w w' := by
  by_cases hn : n ≤ 1048576
  · have hL : LibAt m w := ⟨hg, hm⟩
    clear hg hm
    have hB := Lib.hid hr.bytes
    have hC := Lib.hid hr.cap
    clear hr
    go_enter Try.func5, Try.ntmps5
    go_wp2_with fail
    refine (drawWaysApart a n c _ hB.out hn hC.out).mono ?_
    rintro e w1 ⟨s, x, rfl, hs, hx, hb1⟩
    have HB1 := Lib.hid hb1
    have HL1 := Lib.hid (hL.below hb1)
    clear hb1
    cases h : okW s x 60
    · go_wp2_with fail
      refine (askIApart_off h m _ (by omega) HL1.out).mono ?_
      rintro e w2 ⟨rfl, hx2⟩
      have HB2 := Lib.hid (below_step HB1.out hx2)
      have HL2 := Lib.hid (HL1.out.below hx2)
      clear hx2
      go_wp2_with fail
      refine (askSApart_off h _ (by omega)).mono ?_
      rintro e w3 ⟨rfl, hx3⟩
      have HB3 := Lib.hid (below_step HB2.out hx3)
      have HL3 := Lib.hid (HL2.out.below hx3)
      clear hx3
      go_wp2
      go_ret
      first | exact ⟨rfl, HB3.out⟩ | exact ⟨ret_bool (by simp), HB3.out⟩
    · obtain ⟨h1, N, rfl, hN40⟩ := okW_nat h
      have hN : N ≤ 60 := by omega
      obtain ⟨M, hM⟩ : ∃ M, M = apartF (fS s) N N := ⟨_, rfl⟩
      have HV : Hid ((M : Int) = apartI (fS s) N) := Lib.hid (by rw [hM]; rfl)
      obtain ⟨A, hA⟩ : ∃ A, A = bagF (fS s) N N := ⟨_, rfl⟩
      have HA : Hid ((A : Int) = bagI (fS s) N) := Lib.hid (by rw [hA]; rfl)
      have hmn := apart_bag (fS s) N N
      rw [← hM, ← hA] at hmn
      have hMA : (M : Int) ≤ (A : Int) := by omega
      have hM1 : N = 0 → M = 1 := fun e => by rw [hM, e]; rfl
      clear hM hA hmn
      go_wp2_with fail
      refine (askIApart_on (v := (M : Int)) h HV.out m _ (by omega) HL1.out).mono ?_
      rintro e w2 ⟨rfl, hx2⟩
      have HB2 := Lib.hid (below_step HB1.out hx2)
      have HL2 := Lib.hid (HL1.out.below hx2)
      clear hx2
      go_wp2_with fail
      refine (askSApart_on (v := (M : Int)) h HV.out _ (by omega)).mono ?_
      rintro e w3 ⟨rfl, hx3⟩
      have HB3 := Lib.hid (below_step HB2.out hx3)
      have HL3 := Lib.hid (HL2.out.below hx3)
      clear hx3
      go_wp2_with fail
      refine (askIBags_on (v := (A : Int)) h HA.out m _ (by omega) HL3.out).mono ?_
      rintro e w4 ⟨rfl, hx4⟩
      have HB4 := Lib.hid (below_step HB3.out hx4)
      have HL4 := Lib.hid (HL3.out.below hx4)
      clear hx4
      by_cases hN0 : N = 0
      · have hM2 := hM1 hN0
        subst hM2
        subst hN0
        go_wp2
        go_ret
        first | exact ⟨rfl, HB4.out⟩ | exact ⟨ret_bool (by simp), HB4.out⟩
      · have hNi : (0 : Int) < (N : Int) := by omega
        clear hM1
        go_wp2
        go_ret
        first | exact ⟨rfl, HB4.out⟩ | exact ⟨ret_bool (by simp), HB4.out⟩
  · have hd : (1048576 : Int) < (n : Int) := by omega
    go_enter Try.func5, Try.ntmps5
    go_wp2
    go_ret
    exact ⟨rfl, Below.refl _ _⟩

end Go.Proofs.Ytojjfkabepkhdaa
