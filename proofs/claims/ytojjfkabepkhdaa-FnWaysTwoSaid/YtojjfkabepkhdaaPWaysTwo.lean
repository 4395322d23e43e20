/-
  The walk of the law FnWaysTwo.
-/
import Derived.Test.YtojjfkabepkhdaaPWayBase
import Derived.Test.YtojjfkabepkhdaaWaysManyI
import Derived.Test.YtojjfkabepkhdaaWaysManyS
set_option linter.unusedVariables false
set_option linter.unusedSimpArgs false
namespace Go.Proofs.Ytojjfkabepkhdaa
open Go.RowKit

theorem askIMany_on {s : ByteArray} {n : Nat} {v : Int} (h : okW s n 40 = true) (hv : v = manyI (fS s) n) (m : Int) (W : World) (hs : s.size ≤ 1048576) (hL : LibAt m W) :
    Calls Try.prog 16 #[.string s, .int .i64 n] W fun e w' => e = .returned (.tuple #[.int .i64 v, .bool true]) ∧ Below W.heap.size W w' :=
  (implWaysMany s n m W hs hL).mono fun e w' h2 => ⟨by have h3 := h2.1; unfold TellsW at h3; rw [h3, valW_on h, h, hv]; rfl, h2.2⟩
theorem askIMany_off {s : ByteArray} {n : Int} (h : okW s n 40 = false) (m : Int) (W : World) (hs : s.size ≤ 1048576) (hL : LibAt m W) :
    Calls Try.prog 16 #[.string s, .int .i64 n] W fun e w' => e = .returned (.tuple #[.int .i64 0, .bool false]) ∧ Below W.heap.size W w' :=
  (implWaysMany s n m W hs hL).mono fun e w' h2 => ⟨by have h3 := h2.1; unfold TellsW at h3; rw [h3, valW_off h, h], h2.2⟩

theorem askSMany_on {s : ByteArray} {n : Nat} {v : Int} (h : okW s n 40 = true) (hv : v = manyI (fS s) n) (W : World) (hs : s.size ≤ 1048576) :
    Calls Try.prog 17 #[.string s, .int .i64 n] W fun e w' => e = .returned (.tuple #[.int .i64 v, .bool true]) ∧ Below W.heap.size W w' :=
  (specWaysMany s n W hs).mono fun e w' h2 => ⟨by have h3 := h2.1; unfold TellsW at h3; rw [h3, valW_on h, h, hv]; rfl, h2.2⟩
theorem askSMany_off {s : ByteArray} {n : Int} (h : okW s n 40 = false) (W : World) (hs : s.size ≤ 1048576) :
    Calls Try.prog 17 #[.string s, .int .i64 n] W fun e w' => e = .returned (.tuple #[.int .i64 0, .bool false]) ∧ Below W.heap.size W w' :=
  (specWaysMany s n W hs).mono fun e w' h2 => ⟨by have h3 := h2.1; unfold TellsW at h3; rw [h3, valW_off h, h], h2.2⟩

theorem sumP_le40 (f : Nat → Bool) {n : Nat} (hn : n ≤ 40) (k : Nat) (hk : k ≤ n) : sumP f (manyF f) n k ≤ 1099511627776 := by
  by_cases h0 : n = 0
  · subst h0
    rw [Nat.le_zero.1 hk]; exact Nat.zero_le _
  · have h1 : sumP f (manyF f) n k ≤ sumP f (manyF f) n n := sumP_min hk
    rw [← manyF_step f (by omega)] at h1
    exact Nat.le_trans h1 (manyF_le40 f hn)

set_option maxRecDepth 100000 in
set_option maxHeartbeats 4000000 in
theorem pWaysTwo (a : Option Addr) (n c : Nat) (zs : List Int) (w : World) (hr : IsRow .u8 w a n c zs) (m : Int) (hg : 0 < w.heap.size) (hm : w.cell? ⟨0, 0, none⟩ = some (.int .i64 m)) :
    Calls Try.prog 11 #[.slice a n c] w fun e w' => e = .returned (.bool true) ∧ Below w.heap.size w w' := by
  by_cases hn : n ≤ 1048576
  · have hL : LibAt m w := ⟨hg, hm⟩
    clear hg hm
    have hB := Lib.hid hr.bytes
    have hC := Lib.hid hr.cap
    clear hr
    go_enter Try.func11, Try.ntmps11
    go_wp2_with fail
    refine (drawWaysMany a n c _ hB.out hn hC.out).mono ?_
    rintro e w1 ⟨s, x, rfl, hs, hx, hb1⟩
    have HB1 := Lib.hid hb1
    have HL1 := Lib.hid (hL.below hb1)
    clear hb1
    cases h : okW s x 40
    · go_wp2_with fail
      refine (askIMany_off h m _ (by omega) HL1.out).mono ?_
      rintro e w2 ⟨rfl, hx2⟩
      have HB2 := Lib.hid (below_step HB1.out hx2)
      have HL2 := Lib.hid (HL1.out.below hx2)
      clear hx2
      go_wp2_with fail
      refine (askSMany_off h _ (by omega)).mono ?_
      rintro e w3 ⟨rfl, hx3⟩
      have HB3 := Lib.hid (below_step HB2.out hx3)
      have HL3 := Lib.hid (HL2.out.below hx3)
      clear hx3
      go_wp2
      go_ret
      first | exact ⟨rfl, HB3.out⟩ | exact ⟨ret_bool (by simp), HB3.out⟩
    · obtain ⟨h1, N, rfl, hN40⟩ := okW_nat h
      have hN : N ≤ 40 := by omega
      obtain ⟨M, hM⟩ : ∃ M, M = manyF (fS s) N := ⟨_, rfl⟩
      have HV : Hid ((M : Int) = manyI (fS s) N) := Lib.hid (by rw [hM]; rfl)
      have HST0 : Hid (0 < N → M = sumP (fS s) (manyF (fS s)) N N) := Lib.hid (fun h0 => by rw [hM, manyF_step _ h0])
      clear hM
      go_wp2_with fail
      refine (askIMany_on (v := (M : Int)) h HV.out m _ (by omega) HL1.out).mono ?_
      rintro e w2 ⟨rfl, hx2⟩
      have HB2 := Lib.hid (below_step HB1.out hx2)
      have HL2 := Lib.hid (HL1.out.below hx2)
      clear hx2
      go_wp2_with fail
      refine (askSMany_on (v := (M : Int)) h HV.out _ (by omega)).mono ?_
      rintro e w3 ⟨rfl, hx3⟩
      have HB3 := Lib.hid (below_step HB2.out hx3)
      have HL3 := Lib.hid (HL2.out.below hx3)
      clear hx3
      by_cases hN0 : N = 0
      · subst hN0
        go_wp2
        go_ret
        first | exact ⟨rfl, HB3.out⟩ | exact ⟨ret_bool (by simp), HB3.out⟩
      · have hNi : ¬ (N : Int) = 0 := by omega
        have hNb : ((N : Int) == 0) = false := by simp; omega
        have HST := Lib.hid (HST0.out (by omega))
        go_wp2
        go_loopw [9, 10] (fun sm kv wr => ∃ k : Nat, k ≤ N ∧ kv = .int .i64 ((k : Int) + 1) ∧ sm = .int .i64 (sumP (fS s) (manyF (fS s)) N k : Nat) ∧ Below w.heap.size w wr) (fun _ kv _ => N + 1 - (intOf kv).toNat)
        case atStart => exact ⟨0, Nat.zero_le _, rfl, rfl, HB3.out⟩
        case round =>
          obtain ⟨k, hk, rfl, rfl, hb⟩ := hrel
          have HB := Lib.hid hb
          have HLR := Lib.hid (hL.below hb)
          clear hb
          by_cases hkN : k < N
          · have hki : (k : Int) + 1 ≤ (N : Int) := by omega
            obtain ⟨z, hz⟩ : ∃ z, z = N - (k + 1) := ⟨_, rfl⟩
            have hzi : (N : Int) - ((k : Int) + 1) = (z : Int) := by omega
            obtain ⟨p, hp⟩ : ∃ p, p = manyF (fS s) z := ⟨_, rfl⟩
            have HP : Hid ((p : Int) = manyI (fS s) z) := Lib.hid (by rw [hp]; rfl)
            have hp40 := manyF_le40 (fS s) (i := z) (by omega)
            have hb1 := sumP_le40 (fS s) hN k (by omega)
            have HSS : Hid (sumP (fS s) (manyF (fS s)) N (k + 1) = sumP (fS s) (manyF (fS s)) N k + (if fS s (k + 1) then p else 0)) := Lib.hid (by rw [sumP, hp, hz])
            obtain ⟨u, hu⟩ : ∃ u, u = sumP (fS s) (manyF (fS s)) N k := ⟨_, rfl⟩
            rw [← hu] at HSS hb1 ⊢
            rw [← hp] at hp40
            have hsv : (u : Int) + (p : Int) ≤ 1099511627776000 := by omega
            have HZ := Lib.hid (show (z : Int) ≤ 40 by omega)
            have hk1 : ((k + 1 : Nat) : Int) = (k : Int) + 1 := by omega
            have HAS : Hid (∀ W, LibAt m W → Calls Try.prog 33 #[.string s, .int .i64 ((k : Int) + 1)] W fun e w' => e = .returned (.bool (fS s (k + 1))) ∧ Below W.heap.size W w') := Lib.hid (fun W hLW => by rw [← hk1]; exact ask_set9 h1 (k + 1) m W (by omega) (by omega) hLW)
            clear hp hu hb1 hp40 hz hk1
            go_wp2_with fail
            refine (askIMany_on (v := (p : Int)) (okW_of h1 HZ.out) HP.out m _ (by omega) HLR.out).mono ?_
            rintro e w6 ⟨rfl, hb6⟩
            have HB6 := Lib.hid (HB.out.trans (hb6.mono HB.out.size))
            have HL6 := Lib.hid (HLR.out.below hb6)
            clear hb6
            cases hf : fS s (k + 1)
            · rw [hf] at HAS
              have HSV : Hid ((u : Int) = ((sumP (fS s) (manyF (fS s)) N (k + 1) : Nat) : Int)) := Lib.hid (by rw [HSS.out, hf]; simp)
              clear hf
              go_wp2_with fail
              refine (HAS.out _ HL6.out).mono ?_
              rintro e w7 ⟨rfl, hb7⟩
              have HB7 := Lib.hid (HB6.out.trans (hb7.mono HB6.out.size))
              clear hb7
              go_wp2
              go_roundw
              case rel => exact ⟨k + 1, by omega, by go_num, by rw [← HSV.out], HB7.out⟩
              case measure => simp [intOf]; omega
            · rw [hf] at HAS
              have HSV : Hid ((u : Int) + (p : Int) = ((sumP (fS s) (manyF (fS s)) N (k + 1) : Nat) : Int)) := Lib.hid (by rw [HSS.out, hf]; simp)
              clear hf
              go_wp2_with fail
              refine (HAS.out _ HL6.out).mono ?_
              rintro e w7 ⟨rfl, hb7⟩
              have HB7 := Lib.hid (HB6.out.trans (hb7.mono HB6.out.size))
              clear hb7
              go_wp2
              go_roundw
              case rel => exact ⟨k + 1, by omega, by go_num, by rw [← HSV.out], HB7.out⟩
              case measure => simp [intOf]; omega
          · obtain rfl : k = N := by omega
            rw [← HST.out]
            have hki : ¬ ((k : Int) + 1 ≤ (k : Int)) := by omega
            go_wp2
            go_ret
            first | exact ⟨rfl, HB.out⟩ | exact ⟨ret_bool (by simp), HB.out⟩
  · have hd : (1048576 : Int) < (n : Int) := by omega
    go_enter Try.func11, Try.ntmps11
    go_wp2
    go_ret
    exact ⟨rfl, Below.refl _ _⟩

end Go.Proofs.Ytojjfkabepkhdaa
