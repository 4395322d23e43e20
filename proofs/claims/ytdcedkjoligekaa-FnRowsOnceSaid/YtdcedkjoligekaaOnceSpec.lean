/-
  The walks of the model's RowsCover and RowsOnce.
-/
import Derived.Test.YtdcedkjoligekaaOnceS
namespace Go.Proofs.Ytdcedkjoligekaa
open Go.RowKit
set_option linter.unusedVariables false


set_option maxHeartbeats 1000000 in
theorem specCover (a : Option Addr) (n c : Nat) (rs : List (List Int)) (w : World) (h : ReadsR w a n rs) (hn : n ≤ 1048576) (hs : Short rs) :
    Calls Try.prog 37 #[.slice a n c] w (TruthOut (shortB rs = true ∧ CoverIs rs) w) := by
  have HS := Lib.hid (l3Short_is a n c rs w h hn hs)
  cases hb : shortB rs
  · have HB := Lib.hid hb
    clear hb h
    go_enter Try.func37, Try.ntmps37
    go_wp2_with fail
    refine HS.out.mono ?_
    rintro e w1 ⟨rfl, hb1⟩
    rw [HB.out]
    have HB1 := Lib.hid hb1
    clear hb1
    go_wp2
    go_ret
    exact ⟨false, rfl, ⟨(fun h => (by cases h)), (fun h => (by have := h.1; cases this))⟩, HB1.out⟩
  · have hb2 := hb
    unfold shortB at hb2
    simp only [Bool.and_eq_true, decide_eq_true_eq] at hb2
    have HC := Lib.hid (fun w h => l3Covers_is a n c rs w h hb2.1 hb2.2)
    have HEX := Lib.hid (fun L M h => extremes_cover (rs := rs) (L := L) (M := M) hb2.1 h)
    have HLE := Lib.hid (fun L M h => extremes_le (l := theRows rs) (L := L) (M := M) (K := lcmAll (theRows rs)) h)
    have hl20 := (goodRows_fits hb2.1).1
    have HL20 := Lib.hid hl20
    have H := Lib.hid h
    have HB := Lib.hid hb
    clear hb h hb2 hl20
    go_enter Try.func37, Try.ntmps37
    go_wp2_with fail
    refine HS.out.mono ?_
    rintro e w1 ⟨rfl, hb1⟩
    rw [HB.out]
    have HB1 := Lib.hid hb1
    have H1 := Lib.hid (H.out.below hb1 (Nat.le_refl _))
    clear hb1
    go_wp2_with fail
    refine (HC.out _ H1.out).mono ?_
    rintro e w2 ⟨⟨L, M, rfl, hex⟩, hb2⟩
    have HB2 := Lib.hid (HB1.out.trans (hb2.mono HB1.out.size))
    have HI := Lib.hid (HEX.out L M hex)
    have hle := HLE.out L M hex
    have hL : L ≤ 20 := by have := HL20.out; omega
    have hM : M ≤ 20 := by have := HL20.out; omega
    clear hb2 hex hle HEX HLE
    by_cases h0 : 0 < L
    · have f1 : (0 : Int) < (L : Int) := by omega
      have HCV := Lib.hid (HI.out.1 h0)
      clear HI
      go_wp2
      go_ret
      exact ⟨true, rfl, ⟨fun _ => ⟨by first | exact HB.out | trivial, HCV.out⟩, fun _ => rfl⟩, HB2.out⟩
    · have f1 : (L : Int) ≤ 0 := by omega
      have f2 : decide ((0 : Int) < (L : Int)) = false := decide_eq_false (by omega)
      have HNC := Lib.hid (fun hc => h0 (HI.out.2 hc))
      have F2 : Hid (decide (0 < L) = false) := Lib.hid (decide_eq_false h0)
      clear HI h0 f2
      go_wp2
      go_ret
      rw [F2.out]
      exact ⟨false, rfl, ⟨(fun h => (by cases h)), fun h => (HNC.out h.2).elim⟩, HB2.out⟩

set_option maxHeartbeats 1000000 in
theorem specOnce (a : Option Addr) (n c : Nat) (rs : List (List Int)) (w : World) (h : ReadsR w a n rs) (hn : n ≤ 1048576) (hs : Short rs) :
    Calls Try.prog 42 #[.slice a n c] w (TruthOut (shortB rs = true ∧ OnceIs rs) w) := by
  have HS := Lib.hid (l3Short_is a n c rs w h hn hs)
  cases hb : shortB rs
  · have HB := Lib.hid hb
    clear hb h
    go_enter Try.func42, Try.ntmps42
    go_wp2_with fail
    refine HS.out.mono ?_
    rintro e w1 ⟨rfl, hb1⟩
    rw [HB.out]
    have HB1 := Lib.hid hb1
    clear hb1
    go_wp2
    go_ret
    exact ⟨false, rfl, ⟨(fun h => (by cases h)), (fun h => (by have := h.1; cases this))⟩, HB1.out⟩
  · have hb2 := hb
    unfold shortB at hb2
    simp only [Bool.and_eq_true, decide_eq_true_eq] at hb2
    have HC := Lib.hid (fun w h => l3Covers_is a n c rs w h hb2.1 hb2.2)
    have HEX := Lib.hid (fun L M h => extremes_once (rs := rs) (L := L) (M := M) hb2.1 h)
    have HLE := Lib.hid (fun L M h => extremes_le (l := theRows rs) (L := L) (M := M) (K := lcmAll (theRows rs)) h)
    have hl20 := (goodRows_fits hb2.1).1
    have HL20 := Lib.hid hl20
    have H := Lib.hid h
    have HB := Lib.hid hb
    clear hb h hb2 hl20
    go_enter Try.func42, Try.ntmps42
    go_wp2_with fail
    refine HS.out.mono ?_
    rintro e w1 ⟨rfl, hb1⟩
    rw [HB.out]
    have HB1 := Lib.hid hb1
    have H1 := Lib.hid (H.out.below hb1 (Nat.le_refl _))
    clear hb1
    go_wp2_with fail
    refine (HC.out _ H1.out).mono ?_
    rintro e w2 ⟨⟨L, M, rfl, hex⟩, hb2⟩
    have HB2 := Lib.hid (HB1.out.trans (hb2.mono HB1.out.size))
    have HI := Lib.hid (HEX.out L M hex)
    have hle := HLE.out L M hex
    have hL : L ≤ 20 := by have := HL20.out; omega
    have hM : M ≤ 20 := by have := HL20.out; omega
    clear hb2 hex hle HEX HLE
    by_cases h0 : L = 1 ∧ M = 1
    · have HCV := Lib.hid (HI.out.1 h0)
      obtain ⟨rfl, rfl⟩ := h0
      clear HI
      go_wp2
      go_ret
      exact ⟨true, rfl, ⟨fun _ => ⟨by first | exact HB.out | trivial, HCV.out⟩, fun _ => rfl⟩, HB2.out⟩
    · have HNC := Lib.hid (fun hc => h0 (HI.out.2 hc))
      clear HI
      by_cases h1 : L = 1
      · subst h1
        have f1 : ((M : Int) == 1) = false := by rw [beq_eq_false_iff_ne]; intro e; exact h0 ⟨rfl, by omega⟩
        clear h0
        go_wp2
        go_ret
        exact ⟨false, by first | rfl | (rw [f1]; rfl) | simp, ⟨(fun h => (by cases h)), fun h => (HNC.out h.2).elim⟩, HB2.out⟩
      · have f1 : ((L : Int) == 1) = false := by rw [beq_eq_false_iff_ne]; omega
        clear h0
        go_wp2
        go_ret
        exact ⟨false, by first | rfl | (rw [f1]; rfl) | simp, ⟨(fun h => (by cases h)), fun h => (HNC.out h.2).elim⟩, HB2.out⟩
end Go.Proofs.Ytdcedkjoligekaa
