/-
  The walk of StarParts, of the program.
-/
import Derived.Test.YtcacdgojibojgadStarOfI
import Derived.Test.YtcacdgojibojgadPartsMath
set_option linter.unusedVariables false
set_option linter.unusedSimpArgs false
namespace Go.Proofs.Ytcacdgojibojgad
open Go.RowKit

theorem partsI_get {f : Nat → Bool} {i k : Nat} (h : i < (partsI f k).length) : ∃ p : Nat, (partsI f k).getD i 0 = (p : Int) ∧ Gen f p ∧ p < k ∧ ∀ q, (parts f k)[i]? = some q → q = p := by
  have h' : i < (parts f k).length := by unfold partsI at h; rw [List.length_map] at h; exact h
  have hm := mem_parts.1 (List.getElem_mem h')
  refine ⟨(parts f k)[i], ?_, hm.2, hm.1, fun q hq => ?_⟩
  · unfold partsI
    rw [List.getD_eq_getElem?_getD, List.getElem?_map, List.getElem?_eq_getElem h']; rfl
  · rw [List.getElem?_eq_getElem h'] at hq; injection hq with hq; exact hq.symm

set_option maxHeartbeats 1000000 in
theorem implParts_on (s : ByteArray) (m : Int) (w : World) (hs : s.size ≤ 1048576) (hL : LibAt m w) (h1 : smallS s = true) :
    Calls Try.prog 36 #[.string s] w (PartsEnd s w) := by
  have H1 := Lib.hid h1
  go_enter Try.func36, Try.ntmps36
  go_wp2_with fail
  refine (smallSet_any s m _ hs hL).mono ?_
  rintro e w1 ⟨⟨T, R, rfl, hsp⟩, hb⟩
  have HB1 := Lib.hid (hb.alloc hb.size (.cells #[.string T, .string R] 47))
  have HSP := Lib.hid (hsp h1)
  clear hsp hb
  rw [h1]
  clear h1
  go_wp2_with fail
  refine (starOf_any (fS s) T R _ HSP.out.parts).mono ?_
  rintro e w2 ⟨G, a, c, rfl, hrow, hown, hG, hb2⟩
  have hrd := readsI_own hown
  have hG2 : w.heap.size ≤ G + 1 := by have := HB1.out.size; omega
  have HO := Lib.hid (own_base hown hG2)
  have HB2 := Lib.hid (HB1.out.trans (hb2.mono HB1.out.size))
  have hl := partsI_len (fS s) 2001
  obtain ⟨ln, hln⟩ : ∃ ln, ln = (partsI (fS s) 2001).length := ⟨_, rfl⟩
  have HLN := Lib.hid hln
  rw [← hln] at hrd hl
  rw [← hln]
  have HRd := Lib.hid hrd
  clear hrow hown hG hb2 hln hrd
  go_wp2
  go_loop [25] (fun i => ∃ k : Nat, k ≤ ln ∧ i = .int .i64 k ∧ ∀ j q, j < k → (parts (fS s) 2001)[j]? = some q → q ≤ 59) (fun i => ln - (intOf i).toNat)
  case atStart => exact ⟨0, Nat.zero_le _, rfl, fun j q h => by omega⟩
  case round =>
    obtain ⟨k, hk, rfl, hall⟩ := hrel
    have HA := Lib.hid hall
    clear hall
    by_cases hlt : k < ln
    · obtain ⟨g, o, rfl, _, hc⟩ := HRd.out.cells.resolve_left (by omega)
      obtain ⟨p, hp, hgen, hp2, hpq⟩ := partsI_get (f := fS s) (i := k) (by rw [← HLN.out]; exact hlt)
      have c0 := hc k hlt
      rw [hp] at c0
      have HG := Lib.hid hgen
      have HQ := Lib.hid hpq
      have hki : (k : Int) < (ln : Int) := by omega
      clear hc hp hgen hpq
      by_cases hp59 : p ≤ 59
      · have hi : ¬ (59 : Int) < (p : Int) := by omega
        go_wp2
        go_round
        case rel => exact ⟨k + 1, by omega, by go_num, fun j q h1 h2 => by
          by_cases e : j = k
          · subst e; rw [HQ.out q h2]; exact hp59
          · exact HA.out j q (by omega) h2⟩
        case measure => simp [intOf]; omega
      · have hi : (59 : Int) < (p : Int) := by omega
        have HX := Lib.hid (partsOk_great HG.out hp2 (by omega))
        go_wp2
        go_ret2
        exact partsEnd_off HX.out HB2.out rfl
    · obtain rfl : k = ln := by omega
      have HX := Lib.hid (partsOk_all H1.out (fun p hp => by
        obtain ⟨j, hj, e⟩ := List.getElem_of_mem hp
        exact HA.out j p (by rw [HLN.out]; unfold partsI; rw [List.length_map]; exact hj) (by rw [List.getElem?_eq_getElem hj, e])))
      go_wp2
      go_ret2
      refine ⟨a, c, ?_, HB2.out, ?_⟩
      · rw [HX.out, partsV_on HX.out, HLN.out]; rfl
      · rw [partsV_on HX.out]; exact HO.out

set_option maxHeartbeats 400000 in
theorem implParts (s : ByteArray) (m : Int) (w : World) (hs : s.size ≤ 1048576) (hL : LibAt m w) :
    Calls Try.prog 36 #[.string s] w (PartsEnd s w) := by
  cases h1 : smallS s
  · have H1 := Lib.hid (partsOk_off h1)
    go_enter Try.func36, Try.ntmps36
    go_wp2_with fail
    refine (smallSet_any s m _ hs hL).mono ?_
    rintro e w1 ⟨⟨T, R, rfl, hsp⟩, hb⟩
    have HB1 := Lib.hid (hb.alloc hb.size (.cells #[.string T, .string R] 47))
    clear hsp hb
    rw [h1]
    clear h1
    go_wp2
    go_ret2
    exact partsEnd_off (S := w1.heap.size + 1) H1.out HB1.out (by simp)
  · exact implParts_on s m w hs hL h1

end Go.Proofs.Ytcacdgojibojgad
