/-
  The walk of the law FnWaysFew.
-/
import Derived.Test.YtojjfkabepkhdaaPWayBase
import Derived.Test.YtojjfkabepkhdaaWaysFewI
import Derived.Test.YtojjfkabepkhdaaWaysFewS
import Derived.Test.YtojjfkabepkhdaaWaysPartI
import Derived.Test.YtojjfkabepkhdaaStarHasI
import Derived.Test.YtojjfkabepkhdaaDrawWays2
set_option linter.unusedVariables false
set_option linter.unusedSimpArgs false
namespace Go.Proofs.Ytojjfkabepkhdaa
open Go.RowKit

theorem askIFew_on {s : ByteArray} {n : Nat} {v : Int} (h : fewOk s n = true) (hv : v = fewF (fS s) n) (m : Int) (W : World) (hs : s.size ≤ 1048576) (hL : LibAt m W) :
    Calls Try.prog 27 #[.string s, .int .i64 n] W fun e w' => e = .returned (.tuple #[.int .i64 v, .bool true]) ∧ Below W.heap.size W w' :=
  (implWaysFew s n m W hs hL).mono fun e w' h2 => ⟨by have h3 := h2.1; unfold TellsFew fewV at h3; rw [h3, h, hv]; rfl, h2.2⟩
theorem askIFew_off {s : ByteArray} {n : Int} (h : fewOk s n = false) (m : Int) (W : World) (hs : s.size ≤ 1048576) (hL : LibAt m W) :
    Calls Try.prog 27 #[.string s, .int .i64 n] W fun e w' => e = .returned (.tuple #[.int .i64 0, .bool false]) ∧ Below W.heap.size W w' :=
  (implWaysFew s n m W hs hL).mono fun e w' h2 => ⟨by have h3 := h2.1; unfold TellsFew fewV at h3; rw [h3, h]; rfl, h2.2⟩

theorem askSFew_on {s : ByteArray} {n : Nat} {v : Int} (h : fewOk s n = true) (hv : v = fewF (fS s) n) (W : World) (hs : s.size ≤ 1048576) :
    Calls Try.prog 28 #[.string s, .int .i64 n] W fun e w' => e = .returned (.tuple #[.int .i64 v, .bool true]) ∧ Below W.heap.size W w' :=
  (specWaysFew s n W hs).mono fun e w' h2 => ⟨by have h3 := h2.1; unfold TellsFew fewV at h3; rw [h3, h, hv]; rfl, h2.2⟩
theorem askSFew_off {s : ByteArray} {n : Int} (h : fewOk s n = false) (W : World) (hs : s.size ≤ 1048576) :
    Calls Try.prog 28 #[.string s, .int .i64 n] W fun e w' => e = .returned (.tuple #[.int .i64 0, .bool false]) ∧ Below W.heap.size W w' :=
  (specWaysFew s n W hs).mono fun e w' h2 => ⟨by have h3 := h2.1; unfold TellsFew fewV at h3; rw [h3, h]; rfl, h2.2⟩

theorem askIPart_on {s : ByteArray} {n k : Nat} {v : Int} (h : partOk s n k = true) (hv : v = (partF (fS s) k n : Int)) (m : Int) (W : World) (hs : s.size ≤ 1048576) (hL : LibAt m W) :
    Calls Try.prog 18 #[.string s, .int .i64 n, .int .i64 k] W fun e w' => e = .returned (.tuple #[.int .i64 v, .bool true]) ∧ Below W.heap.size W w' :=
  (implWaysPart s n k m W hs hL).mono fun e w' h2 => ⟨by have h3 := h2.1; unfold TellsPart partV at h3; rw [h3, h, hv]; rfl, h2.2⟩
theorem askIPart_off {s : ByteArray} {n k : Int} (h : partOk s n k = false) (m : Int) (W : World) (hs : s.size ≤ 1048576) (hL : LibAt m W) :
    Calls Try.prog 18 #[.string s, .int .i64 n, .int .i64 k] W fun e w' => e = .returned (.tuple #[.int .i64 0, .bool false]) ∧ Below W.heap.size W w' :=
  (implWaysPart s n k m W hs hL).mono fun e w' h2 => ⟨by have h3 := h2.1; unfold TellsPart partV at h3; rw [h3, h]; rfl, h2.2⟩

theorem fewOk_nat {s : ByteArray} {n : Int} (h : fewOk s n = true) : smallS s = true ∧ ∃ N K : Nat, n = N ∧ N ≤ 200 ∧ fewF (fS s) N = K ∧ K ≤ N ∧ 0 < partF (fS s) K N ∧ (∀ j, j < K → partF (fS s) j N = 0) ∧ starB (fS s) N = true := by
  unfold fewOk at h
  rw [Bool.and_eq_true] at h
  obtain ⟨h1, N, e, hN⟩ := okW_nat h.1
  subst e
  have h2 : fewF (fS s) N ≠ -1 := by have := h.2; simpa using this
  refine ⟨h1, N, ?_⟩
  rcases few_part (fS s) N with ⟨e, _⟩ | ⟨K, e, hK, hp, hz⟩
  · exact absurd e h2
  · exact ⟨K, rfl, by omega, e, hK, hp, hz, starB_iff.2 ((few_star (fS s) N).1 h2)⟩
/-- A star is asked. -/
theorem ask_star9 {s : ByteArray} (h : smallS s = true) (n : Nat) (hn : n ≤ 2000) {b : Bool} (hb : starB (fS s) n = b) (m : Int) (W : World) (hs : s.size ≤ 1048576) (hL : LibAt m W) :
    Calls Try.prog 22 #[.string s, .int .i64 n] W fun e w' => e = .returned (.bool b) ∧ Below W.heap.size W w' := by
  have := implHas_on s n m W hs hL h hn
  rw [hb] at this
  exact this

set_option maxRecDepth 100000 in
set_option maxHeartbeats 4000000 in
theorem pWaysFew (a : Option Addr) (n c : Nat) (zs : List Int) (w : World) (hr : IsRow .u8 w a n c zs) (m : Int) (hg : 0 < w.heap.size) (hm : w.cell? ⟨0, 0, none⟩ = some (.int .i64 m)) :
    Calls Try.prog 6 #[.slice a n c] w fun e w' => e = .returned (.bool true) ∧ Below w.heap.size w w' := by
  by_cases hn : n ≤ 1048576
  · have hL : LibAt m w := ⟨hg, hm⟩
    clear hg hm
    have hB := Lib.hid hr.bytes
    have hC := Lib.hid hr.cap
    clear hr
    go_enter Try.func6, Try.ntmps6
    go_wp2_with fail
    refine (drawWaysFew a n c _ hB.out hn hC.out).mono ?_
    rintro e w1 ⟨s, x, rfl, hs, hx, hb1⟩
    have HB1 := Lib.hid hb1
    have HL1 := Lib.hid (hL.below hb1)
    clear hb1
    cases h : fewOk s x
    · go_wp2_with fail
      refine (askIFew_off h m _ (by omega) HL1.out).mono ?_
      rintro e w2 ⟨rfl, hx2⟩
      have HB2 := Lib.hid (below_step HB1.out hx2)
      have HL2 := Lib.hid (HL1.out.below hx2)
      clear hx2
      go_wp2_with fail
      refine (askSFew_off h _ (by omega)).mono ?_
      rintro e w3 ⟨rfl, hx3⟩
      have HB3 := Lib.hid (below_step HB2.out hx3)
      have HL3 := Lib.hid (HL2.out.below hx3)
      clear hx3
      go_wp2
      go_ret
      first | exact ⟨rfl, HB3.out⟩ | exact ⟨ret_bool (by simp), HB3.out⟩
    · obtain ⟨h1, N, K, rfl, hN, hfew, hKN, hpos, hz, hst⟩ := fewOk_nat h
      have HST := Lib.hid hst
      have HZ := Lib.hid hz
      clear hst hz
      have HV : Hid ((K : Int) = fewF (fS s) N) := Lib.hid hfew.symm
      go_wp2_with fail
      refine (askIFew_on (v := (K : Int)) h HV.out m _ (by omega) HL1.out).mono ?_
      rintro e w2 ⟨rfl, hx2⟩
      have HB2 := Lib.hid (below_step HB1.out hx2)
      have HL2 := Lib.hid (HL1.out.below hx2)
      clear hx2
      go_wp2_with fail
      refine (askSFew_on (v := (K : Int)) h HV.out _ (by omega)).mono ?_
      rintro e w3 ⟨rfl, hx3⟩
      have HB3 := Lib.hid (below_step HB2.out hx3)
      have HL3 := Lib.hid (HL2.out.below hx3)
      clear hx3
      clear hfew
      by_cases h40 : 40 < N
      · have hpo : partOk s (N : Int) (K : Int) = false := by
          unfold partOk okW
          rw [inR_out (k := (N : Int)) (N := 40) (by omega), Bool.and_false, Bool.false_and]
        have HPO := Lib.hid hpo
        clear hpo
        go_wp2_with fail
        refine (askIPart_off HPO.out m _ (by omega) HL3.out).mono ?_
        rintro e w4 ⟨rfl, hx4⟩
        have HB4 := Lib.hid (below_step HB3.out hx4)
        have HL4 := Lib.hid (HL3.out.below hx4)
        clear hx4
        go_wp2
        go_loopw [12] (fun kv wr => kv = .int .i64 0 ∧ wr = w4) (fun _ _ => 0)
        case atStart => exact ⟨rfl, rfl⟩
        case round =>
          obtain ⟨rfl, rfl⟩ := hrel
          go_wp2_with fail
          refine (ask_star9 h1 N (by omega) HST.out m _ (by omega) HL4.out).mono ?_
          rintro e w6 ⟨rfl, hb6⟩
          have HB6 := Lib.hid (below_step HB4.out hb6)
          clear hb6
          go_wp2
          go_ret
          first | exact ⟨rfl, HB6.out⟩ | exact ⟨ret_bool (by simp), HB6.out⟩
      · have HPO := Lib.hid (partOk_of (n := N) (k := K) h1 (by omega) (by omega))
        obtain ⟨q, hq⟩ : ∃ q, q = partF (fS s) K N := ⟨_, rfl⟩
        have HQ : Hid ((q : Int) = (partF (fS s) K N : Int)) := Lib.hid (by rw [hq])
        have hq0 : (0 : Int) < (q : Int) := by omega
        clear hq hpos
        go_wp2_with fail
        refine (askIPart_on (v := (q : Int)) HPO.out HQ.out m _ (by omega) HL3.out).mono ?_
        rintro e w4 ⟨rfl, hx4⟩
        have HB4 := Lib.hid (below_step HB3.out hx4)
        have HL4 := Lib.hid (HL3.out.below hx4)
        clear hx4
        go_wp2
        go_loopw [12] (fun kv wr => ∃ k : Nat, k ≤ K ∧ kv = .int .i64 k ∧ Below w.heap.size w wr) (fun kv _ => K - (intOf kv).toNat)
        case atStart => exact ⟨0, Nat.zero_le _, rfl, HB4.out⟩
        case round =>
          obtain ⟨k, hk, rfl, hb⟩ := hrel
          have HB := Lib.hid hb
          have HLR := Lib.hid (hL.below hb)
          clear hb
          by_cases hkK : k < K
          · have hki : (k : Int) < (K : Int) := by omega
            have HZ0 : Hid ((0 : Int) = (partF (fS s) k N : Int)) := Lib.hid (by rw [HZ.out k hkK]; rfl)
            go_wp2_with fail
            refine (askIPart_on (v := 0) (partOk_of (n := N) (k := k) h1 (by omega) (by omega)) HZ0.out m _ (by omega) HLR.out).mono ?_
            rintro e w6 ⟨rfl, hb6⟩
            have HB6 := Lib.hid (HB.out.trans (hb6.mono HB.out.size))
            clear hb6
            go_wp2
            go_roundw
            case rel => exact ⟨k + 1, by omega, by go_num, HB6.out⟩
            case measure => simp [intOf]; omega
          · obtain rfl : k = K := by omega
            have hki : ¬ (k : Int) < (k : Int) := by omega
            go_wp2_with fail
            refine (ask_star9 h1 N (by omega) HST.out m _ (by omega) HLR.out).mono ?_
            rintro e w6 ⟨rfl, hb6⟩
            have HB6 := Lib.hid (HB.out.trans (hb6.mono HB.out.size))
            clear hb6
            go_wp2
            go_ret
            first | exact ⟨rfl, HB6.out⟩ | exact ⟨ret_bool (by simp), HB6.out⟩
  · have hd : (1048576 : Int) < (n : Int) := by omega
    go_enter Try.func6, Try.ntmps6
    go_wp2
    go_ret
    exact ⟨rfl, Below.refl _ _⟩

end Go.Proofs.Ytojjfkabepkhdaa
