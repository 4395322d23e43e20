/-
  The walk of the law FnWaysPart.
-/
import Derived.Test.YtojjfkabepkhdaaPWayBase
import Derived.Test.YtojjfkabepkhdaaWaysPartI
import Derived.Test.YtojjfkabepkhdaaWaysPartS
import Derived.Test.YtojjfkabepkhdaaDrawWaysPart
set_option linter.unusedVariables false
set_option linter.unusedSimpArgs false
namespace Go.Proofs.Ytojjfkabepkhdaa
open Go.RowKit

theorem askIPart_on {s : ByteArray} {n k : Nat} {v : Int} (h : partOk s n k = true) (hv : v = (partF (fS s) k n : Int)) (m : Int) (W : World) (hs : s.size ≤ 1048576) (hL : LibAt m W) :
    Calls Try.prog 18 #[.string s, .int .i64 n, .int .i64 k] W fun e w' => e = .returned (.tuple #[.int .i64 v, .bool true]) ∧ Below W.heap.size W w' :=
  (implWaysPart s n k m W hs hL).mono fun e w' h2 => ⟨by have h3 := h2.1; unfold TellsPart partV at h3; rw [h3, h, hv]; rfl, h2.2⟩
theorem askIPart_off {s : ByteArray} {n k : Int} (h : partOk s n k = false) (m : Int) (W : World) (hs : s.size ≤ 1048576) (hL : LibAt m W) :
    Calls Try.prog 18 #[.string s, .int .i64 n, .int .i64 k] W fun e w' => e = .returned (.tuple #[.int .i64 0, .bool false]) ∧ Below W.heap.size W w' :=
  (implWaysPart s n k m W hs hL).mono fun e w' h2 => ⟨by have h3 := h2.1; unfold TellsPart partV at h3; rw [h3, h]; rfl, h2.2⟩

theorem askSPart_on {s : ByteArray} {n k : Nat} {v : Int} (h : partOk s n k = true) (hv : v = (partF (fS s) k n : Int)) (W : World) (hs : s.size ≤ 1048576) :
    Calls Try.prog 35 #[.string s, .int .i64 n, .int .i64 k] W fun e w' => e = .returned (.tuple #[.int .i64 v, .bool true]) ∧ Below W.heap.size W w' :=
  (specWaysPart s n k W hs).mono fun e w' h2 => ⟨by have h3 := h2.1; unfold TellsPart partV at h3; rw [h3, h, hv]; rfl, h2.2⟩
theorem askSPart_off {s : ByteArray} {n k : Int} (h : partOk s n k = false) (W : World) (hs : s.size ≤ 1048576) :
    Calls Try.prog 35 #[.string s, .int .i64 n, .int .i64 k] W fun e w' => e = .returned (.tuple #[.int .i64 0, .bool false]) ∧ Below W.heap.size W w' :=
  (specWaysPart s n k W hs).mono fun e w' h2 => ⟨by have h3 := h2.1; unfold TellsPart partV at h3; rw [h3, h]; rfl, h2.2⟩

theorem sumP_part40 (f : Nat → Bool) (j : Nat) {n : Nat} (hn : n ≤ 40) (k : Nat) (hk : k ≤ n) : sumP f (partF f j) n k ≤ 1099511627776 := by
  have h1 : sumP f (partF f j) n k ≤ sumP f (partF f j) n n := sumP_min hk
  have h2 := partF_le40 f (j + 1) hn
  exact Nat.le_trans h1 h2
theorem partOk_nat {s : ByteArray} {n k : Int} (h : partOk s n k = true) : smallS s = true ∧ ∃ a b : Nat, n = a ∧ k = b ∧ a ≤ 40 ∧ b ≤ 40 := by
  unfold partOk at h
  rw [Bool.and_eq_true] at h
  obtain ⟨h1, a, e, ha⟩ := okW_nat h.1
  rcases inR_cases k 0 40 with ⟨_, b1, b2⟩ | ⟨b1, _⟩
  · exact ⟨h1, a, k.toNat, e, by omega, by omega, by omega⟩
  · rw [h.2] at b1; cases b1

set_option maxRecDepth 100000 in
set_option maxHeartbeats 4000000 in
theorem pWaysPart (a : Option Addr) (n c : Nat) (zs : List Int) (w : World) (hr : IsRow .u8 w a n c zs) (m : Int) (hg : 0 < w.heap.size) (hm : w.cell? ⟨0, 0, none⟩ = some (.int .i64 m)) :
    Calls Try.prog 8 #[.slice a n c] w fun e w' => e = .returned (.bool true) ∧ Below w.heap.size w w' := by
  by_cases hn : n ≤ 1048576
  · have hL : LibAt m w := ⟨hg, hm⟩
    clear hg hm
    have hB := Lib.hid hr.bytes
    have hC := Lib.hid hr.cap
    clear hr
    go_enter Try.func8, Try.ntmps8
    go_wp2_with fail
    refine (drawWaysPart a n c _ hB.out hn hC.out).mono ?_
    rintro e w1 ⟨s, x, y, rfl, hs, hx, hy, hb1⟩
    have HB1 := Lib.hid hb1
    have HL1 := Lib.hid (hL.below hb1)
    clear hb1
    cases h : partOk s x y
    · go_wp2_with fail
      refine (askIPart_off h m _ (by omega) HL1.out).mono ?_
      rintro e w2 ⟨rfl, hx2⟩
      have HB2 := Lib.hid (below_step HB1.out hx2)
      have HL2 := Lib.hid (HL1.out.below hx2)
      clear hx2
      go_wp2_with fail
      refine (askSPart_off h _ (by omega)).mono ?_
      rintro e w3 ⟨rfl, hx3⟩
      have HB3 := Lib.hid (below_step HB2.out hx3)
      have HL3 := Lib.hid (HL2.out.below hx3)
      clear hx3
      go_wp2
      go_ret
      first | exact ⟨rfl, HB3.out⟩ | exact ⟨ret_bool (by simp), HB3.out⟩
    · obtain ⟨h1, N, K, rfl, rfl, hN, hK40⟩ := partOk_nat h
      obtain ⟨M, hM⟩ : ∃ M, M = partF (fS s) K N := ⟨_, rfl⟩
      have HV : Hid ((M : Int) = (partF (fS s) K N : Int)) := Lib.hid (by rw [hM])
      have HM := Lib.hid hM
      clear hM
      go_wp2_with fail
      refine (askIPart_on (v := (M : Int)) h HV.out m _ (by omega) HL1.out).mono ?_
      rintro e w2 ⟨rfl, hx2⟩
      have HB2 := Lib.hid (below_step HB1.out hx2)
      have HL2 := Lib.hid (HL1.out.below hx2)
      clear hx2
      go_wp2_with fail
      refine (askSPart_on (v := (M : Int)) h HV.out _ (by omega)).mono ?_
      rintro e w3 ⟨rfl, hx3⟩
      have HB3 := Lib.hid (below_step HB2.out hx3)
      have HL3 := Lib.hid (HL2.out.below hx3)
      clear hx3
      by_cases hK0 : K = 0
      · subst hK0
        go_wp2
        go_ret
        first | exact ⟨rfl, HB3.out⟩ | exact ⟨ret_bool (by simp), HB3.out⟩
      · obtain ⟨J, rfl⟩ : ∃ J, K = J + 1 := ⟨K - 1, by omega⟩
        have HST : Hid (M = sumP (fS s) (partF (fS s) J) N N) := Lib.hid (by rw [HM.out]; rfl)
        have hKi : (0 : Int) < ((J + 1 : Nat) : Int) := by omega
        have hKj : ((J + 1 : Nat) : Int) - 1 = (J : Int) := by omega
        obtain ⟨K, hK⟩ : ∃ K, K = J + 1 := ⟨_, rfl⟩
        rw [← hK] at hKi hKj ⊢
        clear hK0
        have HJ := Lib.hid (show J ≤ 40 by omega)
        have hKn : 0 < K := by omega
        clear hK
        go_wp2
        go_loopw [11, 12] (fun sm kv wr => ∃ k : Nat, k ≤ N ∧ kv = .int .i64 ((k : Int) + 1) ∧ sm = .int .i64 (sumP (fS s) (partF (fS s) J) N k : Nat) ∧ Below w.heap.size w wr) (fun _ kv _ => N + 1 - (intOf kv).toNat)
        case atStart => exact ⟨0, Nat.zero_le _, rfl, rfl, HB3.out⟩
        case round =>
          obtain ⟨k, hk, rfl, rfl, hb⟩ := hrel
          have HB := Lib.hid hb
          have HLR := Lib.hid (hL.below hb)
          clear hb
          by_cases hkN : k < N
          · have hki : (k : Int) + 1 ≤ (N : Int) := by omega
            obtain ⟨z, hz⟩ : ∃ z, z = N - (k + 1) := ⟨_, rfl⟩
            have hzi : (N : Int) - ((k : Int) + 1) = (z : Int) := by omega
            obtain ⟨p, hp⟩ : ∃ p, p = partF (fS s) J z := ⟨_, rfl⟩
            have HP : Hid ((p : Int) = (partF (fS s) J z : Int)) := Lib.hid (by rw [hp])
            have hp40 := partF_le40 (fS s) J (i := z) (by omega)
            have hb1 := sumP_part40 (fS s) J hN k (by omega)
            have HSS : Hid (sumP (fS s) (partF (fS s) J) N (k + 1) = sumP (fS s) (partF (fS s) J) N k + (if fS s (k + 1) then p else 0)) := Lib.hid (by rw [sumP, hp, hz])
            obtain ⟨u, hu⟩ : ∃ u, u = sumP (fS s) (partF (fS s) J) N k := ⟨_, rfl⟩
            rw [← hu] at HSS hb1 ⊢
            rw [← hp] at hp40
            have hsv : (u : Int) + (p : Int) ≤ 1099511627776000 := by omega
            have HZ := Lib.hid (show z ≤ 40 by omega)
            have hk1 : ((k + 1 : Nat) : Int) = (k : Int) + 1 := by omega
            have HAS : Hid (∀ W, LibAt m W → Calls Try.prog 33 #[.string s, .int .i64 ((k : Int) + 1)] W fun e w' => e = .returned (.bool (fS s (k + 1))) ∧ Below W.heap.size W w') := Lib.hid (fun W hLW => by rw [← hk1]; exact ask_set9 h1 (k + 1) m W (by omega) (by omega) hLW)
            clear hp hu hb1 hp40 hz hk1
            go_wp2_with fail
            refine (askIPart_on (v := (p : Int)) (partOk_of h1 HZ.out HJ.out) HP.out m _ (by omega) HLR.out).mono ?_
            rintro e w6 ⟨rfl, hb6⟩
            have HB6 := Lib.hid (HB.out.trans (hb6.mono HB.out.size))
            have HL6 := Lib.hid (HLR.out.below hb6)
            clear hb6
            cases hf : fS s (k + 1)
            · rw [hf] at HAS
              have HSV : Hid ((u : Int) = ((sumP (fS s) (partF (fS s) J) N (k + 1) : Nat) : Int)) := Lib.hid (by rw [HSS.out, hf]; simp)
              clear hf
              go_wp2_with fail
              refine (HAS.out _ HL6.out).mono ?_
              rintro e w7 ⟨rfl, hb7⟩
              have HB7 := Lib.hid (HB6.out.trans (hb7.mono HB6.out.size))
              clear hb7
              go_wp2
              go_roundw
              case rel => exact ⟨k + 1, by omega, by go_num, by rw [← HSV.out], HB7.out⟩
              case measure => simp [intOf]; omega
            · rw [hf] at HAS
              have HSV : Hid ((u : Int) + (p : Int) = ((sumP (fS s) (partF (fS s) J) N (k + 1) : Nat) : Int)) := Lib.hid (by rw [HSS.out, hf]; simp)
              clear hf
              go_wp2_with fail
              refine (HAS.out _ HL6.out).mono ?_
              rintro e w7 ⟨rfl, hb7⟩
              have HB7 := Lib.hid (HB6.out.trans (hb7.mono HB6.out.size))
              clear hb7
              go_wp2
              go_roundw
              case rel => exact ⟨k + 1, by omega, by go_num, by rw [← HSV.out], HB7.out⟩
              case measure => simp [intOf]; omega
          · obtain rfl : k = N := by omega
            rw [← HST.out]
            have hki : ¬ ((k : Int) + 1 ≤ (k : Int)) := by omega
            go_wp2
            go_ret
            first | exact ⟨rfl, HB.out⟩ | exact ⟨ret_bool (by simp), HB.out⟩
  · have hd : (1048576 : Int) < (n : Int) := by omega
    go_enter Try.func8, Try.ntmps8
    go_wp2
    go_ret
    exact ⟨rfl, Below.refl _ _⟩

end Go.Proofs.Ytojjfkabepkhdaa
