/-
  The walk of the model's l3Many: how many rows have a number.
-/
import Derived.Test.YtdcedkjoligekabRowsS
namespace Go.Proofs.Ytdcedkjoligekab
open Go.RowKit
set_option linter.unusedVariables false

theorem cnt_step (l : List Rw) (n k : Nat) (h : k < l.length) : cnt (l.take (k + 1)) n = cnt (l.take k) n + (if (l.getD k default).has n then 1 else 0) := by
  rw [cnt_take l n k h, List.getD_eq_getElem?_getD, List.getElem?_eq_getElem h]; rfl

set_option maxRecDepth 100000 in
set_option maxHeartbeats 1000000 in
theorem l3Many_is (a : Option Addr) (n c : Nat) (rs : List (List Int)) (x : Nat) (w : World) (h : ReadsR w a n rs) (hg : goodRows rs = true) (hx : x ≤ 1000000) :
    Calls Try.prog 43 #[.slice a n c, .int .i64 x] w fun e w' => e = .returned (.int .i64 (cnt (theRows rs) x : Nat)) ∧ Below w.heap.size w w' := by
  obtain ⟨l, hl⟩ : ∃ l, l = theRows rs := ⟨_, rfl⟩
  have hlen : l.length = n := by rw [hl]; unfold theRows; rw [List.length_map]; exact h.len
  have hn20 : n ≤ 20 := by have := (goodRows_fits hg).1; rw [← hl] at this; omega
  have H := Lib.hid h
  have HG := Lib.hid hg
  rw [← hl]
  have HL := Lib.hid hl
  clear h hl hg
  go_enter Try.func43, Try.ntmps43
  go_wp2
  go_loopw [5, 6] (fun m i wr => ∃ k : Nat, k ≤ n ∧ i = .int .i64 k ∧ m = .int .i64 (cnt (l.take k) x : Nat) ∧ Below w.heap.size w wr) (fun _ i _ => n - (intOf i).toNat)
  case atStart => exact ⟨0, Nat.zero_le _, rfl, rfl, Below.refl _ _⟩
  case round =>
    obtain ⟨k, hk, rfl, rfl, hB⟩ := hrel
    have HB := Lib.hid hB
    by_cases hlt : k < n
    · obtain ⟨g, o, g', o', c', b, s, rfl, hg1, hg2, q0, q1, q2, hrow, hb59, hs60⟩ := (H.out.below hB (Nat.le_refl _)).rw HG.out hlt
      rw [← HL.out] at hrow
      have HT := cnt_step l x k (by omega)
      rw [hrow] at HT
      obtain ⟨m, hm⟩ : ∃ m, m = cnt (l.take k) x := ⟨_, rfl⟩
      have hm20 : m ≤ 20 := by rw [hm]; exact Nat.le_trans (cnt_le _ _) (by rw [List.length_take]; omega)
      rw [← hm] at HT ⊢
      have f1 : (k : Int) < (n : Int) := by omega
      have f2 : (0 : Int) ≤ (k : Int) := by omega
      have HI : Hid (IsRw wr (some ⟨g', o', none⟩) ⟨b, s⟩) := Lib.hid ⟨rfl, .inr ⟨g', o', rfl, hg2, fun i hi => by
        match i, hi with
        | 0, _ => exact q1
        | 1, _ => exact q2⟩⟩
      clear hB hm hrow
      cases hh : (Rw.mk b s).has x
      · rw [hh] at HT
        have HT2 := Lib.hid HT
        have HH := Lib.hid hh
        clear hh HT
        go_wp2_with fail
        refine (l3Has_is _ c' ⟨b, s⟩ x _ HI.out (by show b ≤ 1000000; omega) (by show s ≤ 1000000; omega) hx).mono ?_
        rintro e w3 ⟨rfl, hb3⟩
        rw [HH.out]
        have HB3 := Lib.hid (HB.out.trans (hb3.mono HB.out.size))
        clear hb3
        go_wp2
        go_roundw
        case rel => exact ⟨k + 1, by omega, by go_num, by rw [HT2.out]; rfl, HB3.out⟩
        case measure => simp [intOf]; omega
      · rw [hh] at HT
        have HT2 := Lib.hid HT
        have HH := Lib.hid hh
        clear hh HT
        go_wp2_with fail
        refine (l3Has_is _ c' ⟨b, s⟩ x _ HI.out (by show b ≤ 1000000; omega) (by show s ≤ 1000000; omega) hx).mono ?_
        rintro e w3 ⟨rfl, hb3⟩
        rw [HH.out]
        have HB3 := Lib.hid (HB.out.trans (hb3.mono HB.out.size))
        clear hb3
        go_wp2
        go_roundw
        case rel => exact ⟨k + 1, by omega, by go_num, by rw [HT2.out]; rfl, HB3.out⟩
        case measure => simp [intOf]; omega
    · obtain rfl : k = n := by omega
      have e : l.take k = l := List.take_of_length_le (by omega)
      have HE := Lib.hid e
      clear e
      rw [HE.out]
      go_wp2
      go_ret
      exact ⟨rfl, HB.out⟩
end Go.Proofs.Ytdcedkjoligekab
