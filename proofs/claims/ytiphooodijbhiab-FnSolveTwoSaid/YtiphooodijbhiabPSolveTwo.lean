/-
  The walk of the law FnSolveTwo.
-/
import Derived.Test.YtiphooodijbhiabPSolveBase
import Derived.Test.YtiphooodijbhiabSpecTwoLow
import Derived.Test.YtiphooodijbhiabTwoLowI
import Derived.Test.YtiphooodijbhiabSetListI
set_option linter.unusedVariables false
set_option linter.unusedSimpArgs false
namespace Go.Proofs.Ytiphooodijbhiab
open Go.RowKit

theorem two_range {s t : ByteArray} {x : Int} (h : twoOk s t x = true) : ∃ k : Nat, x = k ∧ k ≤ 500 ∧ smallS t = true := by
  unfold twoOk at h
  rw [Bool.and_eq_true, Bool.and_eq_true] at h
  rcases inR_cases x 0 500 with ⟨_, k1, k2⟩ | ⟨h2, _⟩
  · obtain ⟨k, rfl⟩ := Int.eq_ofNat_of_zero_le k1
    exact ⟨k, rfl, by omega, h.1.2⟩
  · rw [h2] at h; exact absurd h.2 (by decide)
theorem two_value {s t : ByteArray} {k : Nat} (h : twoOk s t k = true) : twoN s t k = (countF (twoX (fS s) (fS t)) k : Nat) := by
  unfold twoN; rw [if_pos h]; rfl
theorem two_mono (s t : ByteArray) (k : Nat) : countF (fS t) k ≤ countF (twoX (fS s) (fS t)) k := countF_mono (fun n h => low_base h) k
theorem two_next (s t : ByteArray) (k : Nat) : twoN s t ((k : Int) + 1) = 0 ∧ twoOk s t ((k : Int) + 1) = false ∨ (twoOk s t ((k : Int) + 1) = true ∧ (twoN s t ((k : Int) + 1) = (countF (twoX (fS s) (fS t)) k : Nat) ∨ twoN s t ((k : Int) + 1) = ((countF (twoX (fS s) (fS t)) k : Nat) : Int) + 1)) := by
  cases h : twoOk s t ((k : Int) + 1)
  · left; unfold twoN; rw [h]; exact ⟨rfl, rfl⟩
  · right
    refine ⟨rfl, ?_⟩
    have e : ((k : Int) + 1) = ((k + 1 : Nat) : Int) := by omega
    rw [e] at h ⊢
    rw [two_value h]
    cases hv : twoX (fS s) (fS t) k
    · left; rw [countF_off hv]
    · right; rw [countF_on hv]; omega
theorem count_list (t : ByteArray) (k : Nat) : ((listV t (k : Int)).length : Int) = if inN t k = true then ((countF (fS t) k : Nat) : Int) else 0 := by
  unfold listV
  by_cases h : inN t k = true
  · rw [if_pos h, if_pos h, show ((k : Int)).toNat = k from by omega]
    congr 1
    induction k with
    | zero => rfl
    | succ k ih =>
      have ih' : (listN (setT t) (setR t) k).length = countF (fS t) k := by
        apply ih
        unfold inN at h ⊢
        rw [Bool.and_eq_true, Bool.and_eq_true, decide_eq_true_iff, decide_eq_true_iff] at h ⊢
        exact ⟨h.1, by omega, by omega⟩
      cases hv : fS t k
      · rw [listN_miss hv, countF_off hv, ih']
      · rw [listN_hit hv, countF_on hv, List.length_append, ih']; rfl
  · rw [if_neg h, if_neg h]; rfl
theorem count_in {t : ByteArray} {k : Nat} (h : smallS t = true) (hk : k ≤ 500) : inN t k = true := by
  unfold inN; rw [small_ok h, decide_eq_true (by omega), decide_eq_true (by omega)]; rfl

set_option maxRecDepth 100000 in
set_option maxHeartbeats 4000000 in
theorem pSolveTwo (a : Option Addr) (n c : Nat) (zs : List Int) (w : World) (hr : IsRow .u8 w a n c zs) (m : Int) (hg : 0 < w.heap.size) (hm : w.cell? ⟨0, 0, none⟩ = some (.int .i64 m)) :
    Calls Try.prog 10 #[.slice a n c] w fun e w' => e = .returned (.bool true) ∧ Below w.heap.size w w' := by
  by_cases hn : n ≤ 1048576
  · have hL : LibAt m w := ⟨hg, hm⟩
    clear hg hm
    have hB := Lib.hid hr.bytes
    have hC := Lib.hid hr.cap
    clear hr
    go_enter Try.func10, Try.ntmps10
    go_wp2_with fail
    refine (drawSolveTwo a n c _ hB.out hn hC.out).mono ?_
    rintro e w1 ⟨s, t, x, rfl, hs, ht, hx, hb1⟩
    have HB1 := Lib.hid hb1
    have HL1 := Lib.hid (hL.below hb1)
    clear hb1
    go_wp2_with fail
    refine (implSolveTwo s t x m _ (by omega) (by omega) HL1.out).mono ?_
    rintro e w2 ⟨rfl, hx2⟩
    have HB2 := Lib.hid (below_step HB1.out hx2)
    have HL2 := Lib.hid (HL1.out.below hx2)
    clear hx2
    go_wp2_with fail
    refine (specSolveTwo s t x _ (by omega) (by omega)).mono ?_
    rintro e w3 ⟨rfl, hx3⟩
    have HB3 := Lib.hid (below_step HB2.out hx3)
    have HL3 := Lib.hid (HL2.out.below hx3)
    clear hx3
    cases hv : twoOk s t x
    · obtain ⟨y, hy⟩ : ∃ y, y = twoN s t x := ⟨_, rfl⟩
      rw [← hy]
      clear hy
      go_wp2
      go_ret
      exact ⟨ret_bool (by simp), HB3.out⟩
    · obtain ⟨k, rfl, hk, h2⟩ := two_range hv
      rw [two_value hv]
      have hle := countF_le (twoX (fS s) (fS t)) k
      have hmono := two_mono s t k
      have HM := Lib.hid (implSolveTwo s t ((k : Int) + 1) m)
      have HCt := Lib.hid (fun W hL => implCount t k m W (by omega) hL)
      rw [count_list] at HCt
      have HS2 := Lib.hid h2
      have hin : inN t k = true := count_in h2 hk
      rw [hin] at HCt
      have hnx : twoN s t ((k : Int) + 1) = 0 ∧ twoOk s t ((k : Int) + 1) = false ∨ (twoOk s t ((k : Int) + 1) = true ∧ (twoN s t ((k : Int) + 1) = (countF (twoX (fS s) (fS t)) k : Nat) ∨ twoN s t ((k : Int) + 1) = ((countF (twoX (fS s) (fS t)) k : Nat) : Int) + 1)) := two_next s t k
      obtain ⟨z, hz⟩ : ∃ z, z = countF (twoX (fS s) (fS t)) k := ⟨_, rfl⟩
      obtain ⟨y, hy⟩ : ∃ y, y = countF (fS t) k := ⟨_, rfl⟩
      rw [← hz] at hle hmono hnx ⊢
      rw [← hy] at hmono HCt
      clear hz hy hin h2 hv
      have hyz : (y : Int) ≤ (z : Int) := by omega
      have hzk : (z : Int) ≤ (k : Int) := by omega
      obtain ⟨N, hN⟩ : ∃ N, N = twoN s t ((k : Int) + 1) := ⟨_, rfl⟩
      obtain ⟨B, hB⟩ : ∃ B, B = twoOk s t ((k : Int) + 1) := ⟨_, rfl⟩
      rw [← hN, ← hB] at hnx HM
      clear hN hB
      go_wp2_with fail
      refine (HM.out _ (by omega) (by omega) HL3.out).mono ?_
      rintro e w4 ⟨rfl, hx4⟩
      have HB4 := Lib.hid (below_step HB3.out hx4)
      have HL4 := Lib.hid (HL3.out.below hx4)
      clear hx4
      go_wp2_with fail
      refine (HCt.out _ HL4.out).mono ?_
      rintro e w5 ⟨rfl, hx5⟩
      have HB5 := Lib.hid (below_step HB4.out hx5)
      have HL5 := Lib.hid (HL4.out.below hx5)
      clear hx5
      rcases hnx with ⟨rfl, rfl⟩ | ⟨rfl, rfl | rfl⟩
      · go_wp2
        go_ret
        exact ⟨ret_bool (by simp), HB5.out⟩
      · go_wp2
        go_ret
        exact ⟨ret_bool (by simp), HB5.out⟩
      · have hne : ((z : Int) + 1 == (z : Int)) = false := by rw [beq_eq_false_iff_ne]; omega
        go_wp2
        go_ret
        exact ⟨ret_bool (by simp), HB5.out⟩
  · have hd : (1048576 : Int) < (n : Int) := by omega
    go_enter Try.func10, Try.ntmps10
    go_wp2
    go_ret
    exact ⟨rfl, Below.refl _ _⟩

end Go.Proofs.Ytiphooodijbhiab
