/-
  The walk of the law FnSetSame.
-/
import Derived.Test.YtndpkmgjmpfgdaaTidyOf
import Derived.Test.YtndpkmgjmpfgdaaDrawS1
import Derived.Test.YtndpkmgjmpfgdaaRowBytes
import Derived.Test.YtndpkmgjmpfgdaaSetSame
import Derived.Test.YtndpkmgjmpfgdaaSetBelow
namespace Go.Proofs.Ytndpkmgjmpfgdaa
open Go.RowKit

/-- What SetSame answers. -/
def sameV (s t : ByteArray) : Bool := okS s && (okS t && agreeB (fS s) (fS t))
theorem sameV_iff (s t : ByteArray) : sameV s t = true ↔ (okS s = true ∧ okS t = true ∧ fS s = fS t) := by
  unfold sameV
  rw [Bool.and_eq_true, Bool.and_eq_true]
  constructor
  · rintro ⟨h1, h2, h3⟩; exact ⟨h1, h2, same_all h1 h2 h3⟩
  · rintro ⟨h1, h2, h3⟩; exact ⟨h1, h2, agree_eq h3⟩
theorem specSame (s t : ByteArray) (w : World) (hs : s.size ≤ 1048576) (ht : t.size ≤ 1048576) :
    Calls Try.prog 26 #[.string s, .string t] w fun e w' => e = .returned (.bool (sameV s t)) ∧ Below w.heap.size w w' := by
  by_cases h : okS s = true ∧ okS t = true
  · refine (specSame_on s t w hs ht h.1 h.2).mono ?_
    rintro e w' ⟨b, rfl, hb, hbl⟩
    refine ⟨ret_bool ?_, hbl⟩
    unfold sameV
    rw [h.1, h.2, same_agree h.1 h.2 hb]; rfl
  · have h' : okS s = false ∨ okS t = false := by
      cases e1 : okS s
      · exact .inl rfl
      · cases e2 : okS t
        · exact .inr rfl
        · exact (h ⟨e1, e2⟩).elim
    have e : sameV s t = false := by
      unfold sameV
      rcases h' with e | e
      · rw [e]; rfl
      · rw [e, Bool.false_and, Bool.and_false]
    rw [e]
    exact specSame_off s t w hs ht h'
theorem implSame (s t : ByteArray) (m : Int) (w : World) (hs : s.size ≤ 1048576) (ht : t.size ≤ 1048576) (hL : LibAt m w) :
    Calls Try.prog 24 #[.string s, .string t] w fun e w' => e = .returned (.bool (sameV s t)) ∧ Below w.heap.size w w' := by
  by_cases h : okS s = true ∧ okS t = true
  · have e : sameV s t = agreeB (fS s) (fS t) := by unfold sameV; rw [h.1, h.2]; rfl
    rw [e]
    exact implSame_on s t m w hs ht hL h.1 h.2
  · have h' : okS s = false ∨ okS t = false := by
      cases e1 : okS s
      · exact .inl rfl
      · cases e2 : okS t
        · exact .inr rfl
        · exact (h ⟨e1, e2⟩).elim
    have e : sameV s t = false := by
      unfold sameV
      rcases h' with e | e
      · rw [e]; rfl
      · rw [e, Bool.false_and, Bool.and_false]
    rw [e]
    exact implSame_off s t m w hs ht hL h'
theorem below_iff {s t : ByteArray} {b : Bool} (h : BelowIs s t b) : b = true ↔ (okS s = true ∧ okS t = true ∧ ∀ n, fS s n = true → fS t n = true) := by
  cases h with
  | off h =>
    refine ⟨fun e => (by cases e), fun ⟨h1, h2, _⟩ => ?_⟩
    rcases h with e | e
    · rw [e] at h1; cases h1
    · rw [e] at h2; cases h2
  | no x h1 h2 hx =>
    refine ⟨fun e => (by cases e), fun ⟨_, _, h3⟩ => ?_⟩
    have hc := hx.is
    unfold cex at hc
    rw [Bool.and_eq_true, Bool.not_eq_true'] at hc
    have := h3 x hc.1
    unfold fS at this
    rw [hc.2] at this; cases this
  | yes h1 h2 hx =>
    refine ⟨fun _ => ⟨h1, h2, fun n hn => ?_⟩, fun _ => rfl⟩
    have hc := hx n
    unfold cex at hc
    unfold fS at hn ⊢
    rw [hn, Bool.true_and, Bool.not_eq_false'] at hc
    exact hc
theorem same_belows {s t : ByteArray} {b1 b2 : Bool} (h1 : BelowIs s t b1) (h2 : BelowIs t s b2) : sameV s t = (b1 && b2) := by
  rw [Bool.eq_iff_iff, sameV_iff, Bool.and_eq_true, below_iff h1, below_iff h2]
  constructor
  · rintro ⟨a, b, h⟩
    exact ⟨⟨a, b, fun n hn => by rw [← h]; exact hn⟩, ⟨b, a, fun n hn => by rw [h]; exact hn⟩⟩
  · rintro ⟨⟨a, b, h⟩, ⟨_, _, k⟩⟩
    refine ⟨a, b, ?_⟩
    funext n
    rw [Bool.eq_iff_iff]
    exact ⟨h n, k n⟩
theorem same_swap (s t : ByteArray) : sameV t s = sameV s t := by
  rw [Bool.eq_iff_iff, sameV_iff, sameV_iff]
  exact ⟨fun ⟨a, b, c⟩ => ⟨b, a, c.symm⟩, fun ⟨a, b, c⟩ => ⟨b, a, c.symm⟩⟩

set_option maxRecDepth 100000 in
set_option maxHeartbeats 4000000 in
theorem pSetSame (a : Option Addr) (n c : Nat) (zs : List Int) (w : World) (hr : IsRow .u8 w a n c zs) (m : Int) (hg : 0 < w.heap.size) (hm : w.cell? ⟨0, 0, none⟩ = some (.int .i64 m)) :
    Calls Try.prog 6 #[.slice a n c] w fun e w' => e = .returned (.bool true) ∧ Below w.heap.size w w' := by
  by_cases hn : n ≤ 1048576
  · have hL : LibAt m w := ⟨hg, hm⟩
    clear hg hm
    have hB := Lib.hid hr.bytes
    have hC := Lib.hid hr.cap
    clear hr
    go_enter Try.func6, Try.ntmps6
    go_wp2_with fail
    refine (drawSetSame a n c _ hB.out hn hC.out).mono ?_
    rintro e w1 ⟨s, t, rfl, hs, ht, hb1⟩
    have hL1 := hL.below hb1
    obtain ⟨b1, h1⟩ := below_form s t
    obtain ⟨b2, h2⟩ := below_form t s
    have hv := same_belows h1 h2
    have hv2 := same_swap s t
    rw [hv] at hv2
    have H1 := Lib.hid h1
    have H2 := Lib.hid h2
    clear h1 h2
    cases b1
    · have hv' : sameV s t = false := by rw [hv]; rfl
      have hv2' : sameV t s = false := by rw [hv2]; rfl
      clear hv hv2
      go_wp2_with fail
      refine (implSame s t m _ (by omega) (by omega) hL1).mono ?_
      rintro e w2 ⟨rfl, hx2⟩
      have hb2 := below_step hb1 hx2
      have hL2 := hL1.below hx2
      clear hx2
      go_wp2_with fail
      refine (specSame s t _ (by omega) (by omega)).mono ?_
      rintro e w3 ⟨rfl, hx3⟩
      have hb3 := below_step hb2 hx3
      have hL3 := hL2.below hx3
      clear hx3
      go_wp2_with fail
      refine (implBelow s t m _ _ (by omega) (by omega) hL3 H1.out).mono ?_
      rintro e w4 ⟨rfl, hx4⟩
      have hb4 := below_step hb3 hx4
      have hL4 := hL3.below hx4
      clear hx4
      go_wp2_with fail
      refine (implSame t s m _ (by omega) (by omega) hL4).mono ?_
      rintro e w5 ⟨rfl, hx5⟩
      have hb5 := below_step hb4 hx5
      have hL5 := hL4.below hx5
      clear hx5
      go_wp2
      go_ret
      exact ⟨rfl, hb5⟩
    · cases b2
      · have hv' : sameV s t = false := by rw [hv]; rfl
        have hv2' : sameV t s = false := by rw [hv2]; rfl
        clear hv hv2
        go_wp2_with fail
        refine (implSame s t m _ (by omega) (by omega) hL1).mono ?_
        rintro e w2 ⟨rfl, hx2⟩
        have hb2 := below_step hb1 hx2
        have hL2 := hL1.below hx2
        clear hx2
        go_wp2_with fail
        refine (specSame s t _ (by omega) (by omega)).mono ?_
        rintro e w3 ⟨rfl, hx3⟩
        have hb3 := below_step hb2 hx3
        have hL3 := hL2.below hx3
        clear hx3
        go_wp2_with fail
        refine (implBelow s t m _ _ (by omega) (by omega) hL3 H1.out).mono ?_
        rintro e w4 ⟨rfl, hx4⟩
        have hb4 := below_step hb3 hx4
        have hL4 := hL3.below hx4
        clear hx4
        go_wp2_with fail
        refine (implBelow t s m _ _ (by omega) (by omega) hL4 H2.out).mono ?_
        rintro e w5 ⟨rfl, hx5⟩
        have hb5 := below_step hb4 hx5
        have hL5 := hL4.below hx5
        clear hx5
        go_wp2_with fail
        refine (implSame t s m _ (by omega) (by omega) hL5).mono ?_
        rintro e w6 ⟨rfl, hx6⟩
        have hb6 := below_step hb5 hx6
        have hL6 := hL5.below hx6
        clear hx6
        go_wp2
        go_ret
        exact ⟨rfl, hb6⟩
      · have hv' : sameV s t = true := by rw [hv]; rfl
        have hv2' : sameV t s = true := by rw [hv2]; rfl
        clear hv hv2
        go_wp2_with fail
        refine (implSame s t m _ (by omega) (by omega) hL1).mono ?_
        rintro e w2 ⟨rfl, hx2⟩
        have hb2 := below_step hb1 hx2
        have hL2 := hL1.below hx2
        clear hx2
        go_wp2_with fail
        refine (specSame s t _ (by omega) (by omega)).mono ?_
        rintro e w3 ⟨rfl, hx3⟩
        have hb3 := below_step hb2 hx3
        have hL3 := hL2.below hx3
        clear hx3
        go_wp2_with fail
        refine (implBelow s t m _ _ (by omega) (by omega) hL3 H1.out).mono ?_
        rintro e w4 ⟨rfl, hx4⟩
        have hb4 := below_step hb3 hx4
        have hL4 := hL3.below hx4
        clear hx4
        go_wp2_with fail
        refine (implBelow t s m _ _ (by omega) (by omega) hL4 H2.out).mono ?_
        rintro e w5 ⟨rfl, hx5⟩
        have hb5 := below_step hb4 hx5
        have hL5 := hL4.below hx5
        clear hx5
        go_wp2_with fail
        refine (implSame t s m _ (by omega) (by omega) hL5).mono ?_
        rintro e w6 ⟨rfl, hx6⟩
        have hb6 := below_step hb5 hx6
        have hL6 := hL5.below hx6
        clear hx6
        go_wp2
        go_ret
        exact ⟨rfl, hb6⟩
  · have hd : (1048576 : Int) < (n : Int) := by omega
    go_enter Try.func6, Try.ntmps6
    go_wp2
    go_ret
    exact ⟨rfl, Below.refl _ _⟩
end Go.Proofs.Ytndpkmgjmpfgdaa
