/-
  The walk of the law FnRestUndo.
-/
import Derived.Test.YtcacdgojibojgacPRestBase
import Derived.Test.YtcacdgojibojgacSumOfAny
import Derived.Test.YtcacdgojibojgacSpecSumOf
import Derived.Test.YtcacdgojibojgacRestSomeI
import Derived.Test.YtcacdgojibojgacSameI
import Derived.Test.YtcacdgojibojgacBelowI
set_option linter.unusedVariables false
set_option linter.unusedSimpArgs false
namespace Go.Proofs.Ytcacdgojibojgac
open Go.RowKit

set_option maxRecDepth 100000 in
set_option maxHeartbeats 1000000 in
theorem drawSumOf (a : Option Addr) (n c : Nat) (w : World) (h : Bytes w a n) (hn : n ≤ 1048576) (hc : n ≤ c) :
    Calls Try.prog 36 #[.slice a n c] w fun e w' => ∃ s t : ByteArray, e = .returned (.tuple #[.string s, .string t]) ∧ s.size ≤ 12 ∧ t.size ≤ 12 ∧ Below w.heap.size w w' := by
  go_enter Try.func36, Try.ntmps36
  go_wp2_with fail
  refine (open_rd a n c _ h hn hc).mono ?_
  rintro e w1 ⟨n', rfl, hrd, hap⟩
  go_wp2_with fail
  refine (set_rd hrd (by omega)).mono ?_
  rintro e w2 ⟨s, p2, rfl, hs, hp2, hrd2, hap2⟩
  go_wp2_with fail
  refine (set_rd hrd2 (by omega)).mono ?_
  rintro e w3 ⟨t, p3, rfl, ht, hp3, hrd3, hap3⟩
  go_wp2
  go_ret2
  exact ⟨s, t, rfl, hs, ht, ((hap.trans hap2).trans hap3).below⟩

theorem someQ_there {T : ByteArray} (hO : okS T = true) {g : Nat → Bool} : ∃ m q, Tidy (someQ (fS T) g) m q ∧ m ≤ 60 ∧ q ≤ 60 := by
  obtain ⟨m, q, ht, hm, hq⟩ := tidy_there hO
  obtain ⟨m2, q2, h, h1, h2⟩ := tidy_per (g := someQ (fS T) g) ht.pos (fun x hx => someQ_round ht.per x hx)
  exact ⟨m2, q2, h, by omega, by omega⟩
theorem allQ_there {T : ByteArray} (hO : okS T = true) {g : Nat → Bool} : ∃ m q, Tidy (allQ (fS T) g) m q ∧ m ≤ 60 ∧ q ≤ 60 := by
  obtain ⟨m, q, ht, hm, hq⟩ := tidy_there hO
  have hn := not_tidy ht
  obtain ⟨m2, q2, h, h1, h2⟩ := tidy_per (g := someQ (fun n => !fS T n) g) hn.pos (fun x hx => someQ_round hn.per x hx)
  exact ⟨m2, q2, not_tidy h, by omega, by omega⟩
theorem undo_made {T t Y : ByteArray} {F : Nat → Bool} {b : Bool} (hO : okS T = true) (ht : okS t = true) (h : MakeIs (okS T && okS t) F Y b) (hF : ∃ m q, Tidy F m q ∧ m ≤ 60 ∧ q ≤ 60) : b = true ∧ okS Y = true ∧ fS Y = F ∧ Y.size ≤ 1048576 := by
  obtain ⟨m, q, h1, h2, h3⟩ := hF
  obtain ⟨k1, k2, k3, k4⟩ := made_told h (fun _ => ⟨h1, h2, h3⟩)
  have hk : (okS T && okS t) = true := by rw [hO, ht]; rfl
  rw [hk] at k2 k3
  exact ⟨k3, k2, k4 hk, k1⟩
theorem below_yes {s t : ByteArray} (hs : okS s = true) (ht : okS t = true) (h : ∀ n, fS s n = true → fS t n = true) : BelowIs s t true := .yes hs ht fun n => by
  show (fS s n && !fS t n) = false
  cases e : fS s n
  · rfl
  · rw [h n e]; rfl
theorem not_empty {t : ByteArray} (h : agreeB (fS t) (fS ⟨#[40, 48, 41]⟩) = false) : ∃ k, fS t k = true := by
  apply Classical.byContradiction
  intro hn
  have e : fS t = fS ⟨#[40, 48, 41]⟩ := by
    funext k
    have h1 : fS t k = false := by
      cases hk : fS t k
      · rfl
      · exact absurd ⟨k, hk⟩ hn
    have h2 : fS ⟨#[40, 48, 41]⟩ k = false := by
      show hasB [] [false] k = false
      unfold hasB
      rw [if_neg (by simp)]
      simp [Nat.mod_one]
    rw [h1, h2]
  rw [agree_eq e] at h
  cases h
set_option maxRecDepth 100000 in
set_option maxHeartbeats 4000000 in
theorem pRestUndo (a : Option Addr) (n c : Nat) (zs : List Int) (w : World) (hr : IsRow .u8 w a n c zs) (m : Int) (hg : 0 < w.heap.size) (hm : w.cell? ⟨0, 0, none⟩ = some (.int .i64 m)) :
    Calls Try.prog 9 #[.slice a n c] w fun e w' => e = .returned (.bool true) ∧ Below w.heap.size w w' := by
  by_cases hn : n ≤ 1048576
  · have hL : LibAt m w := ⟨hg, hm⟩
    clear hg hm
    have hB := Lib.hid hr.bytes
    have hC := Lib.hid hr.cap
    clear hr
    go_enter Try.func9, Try.ntmps9
    go_wp2_with fail
    refine (drawSumOf a n c _ hB.out hn hC.out).mono ?_
    rintro e w1 ⟨s, t, rfl, hs, ht, hb1⟩
    have HB1 := Lib.hid hb1
    have HL1 := Lib.hid (hL.below hb1)
    clear hb1
    go_wp2_with fail
    refine (implSum s t m _ (by omega) (by omega) HL1.out).mono ?_
    rintro e w2 ⟨⟨T, b, rfl, hm2⟩, hx2⟩
    have HB2 := Lib.hid (below_step HB1.out hx2)
    have HL2 := Lib.hid (HL1.out.below hx2)
    have HM := Lib.hid hm2
    clear hx2 hm2
    go_wp2_with fail
    refine (specSum s t _ (by omega) (by omega)).mono ?_
    rintro e w3 ⟨⟨U, c, rfl, hm3⟩, hx3⟩
    have HB3 := Lib.hid (below_step HB2.out hx3)
    have HL3 := Lib.hid (HL2.out.below hx3)
    obtain ⟨rfl, rfl⟩ := makeIs_unique HM.out hm3
    clear hx3 hm3
    cases b
    · go_wp2
      go_ret
      exact ⟨ret_bool (by simp), HB3.out⟩
    · obtain ⟨hok, hT⟩ := makeIs_true HM.out
      have HT := Lib.hid hT
      have HO := Lib.hid hT.told.ok
      have HF := Lib.hid hT.told.set
      have hTs := told_size hT.told.ok
      have HOS := Lib.hid (smallS_iff.1 (and_left hok)).1
      have HOT := Lib.hid (smallS_iff.1 (and_right hok)).1
      clear HM hT hok
      go_wp2_with fail
      refine (implSome T t m _ hTs (by omega) HL3.out).mono ?_
      rintro e w4 ⟨⟨Y, q, rfl, hm4⟩, hx4⟩
      have HB4 := Lib.hid (below_step HB3.out hx4)
      have HL4 := Lib.hid (HL3.out.below hx4)
      have H4 := Lib.hid (undo_made HO.out HOT.out hm4 (someQ_there HO.out))
      clear hx4 hm4
      go_wp2_with fail
      refine (implAll T t m _ hTs (by omega) HL4.out).mono ?_
      rintro e w5 ⟨⟨Z, r, rfl, hm5⟩, hx5⟩
      have HB5 := Lib.hid (below_step HB4.out hx5)
      have HL5 := Lib.hid (HL4.out.below hx5)
      have H5 := Lib.hid (undo_made HO.out HOT.out hm5 (allQ_there HO.out))
      clear hx5 hm5
      obtain ⟨hq, hYo, hYf, hYs⟩ := H4.out
      obtain ⟨hr, hZo, hZf, hZs⟩ := H5.out
      subst hq
      subst hr
      have HY : Hid ((∃ k, fS t k = true) → BelowIs s Y true) := Lib.hid fun ⟨k, hk⟩ => below_yes HOS.out hYo fun n hn => by
        rw [hYf]
        exact someQ_iff.2 ⟨k, hk, by rw [HF.out]; exact sumG_iff.2 ⟨n, k, rfl, hn, hk, by simp⟩⟩
      have HZ : Hid (BelowIs s Z true) := Lib.hid (below_yes HOS.out hZo fun n hn => by
        rw [hZf]
        exact allQ_iff.2 fun k hk => by rw [HF.out]; exact sumG_iff.2 ⟨n, k, rfl, hn, hk, by simp⟩)
      clear H4 H5 hYo hYf hZo hZf
      go_wp2_with fail
      refine (implSame_on t ⟨#[40, 48, 41]⟩ m _ (by omega) (by decide) HL5.out HOT.out (by kernel_rfl)).mono ?_
      rintro e w6 ⟨rfl, hx6⟩
      have HB6 := Lib.hid (below_step HB5.out hx6)
      have HL6 := Lib.hid (HL5.out.below hx6)
      clear hx6
      cases hag : agreeB (fS t) (fS ⟨#[40, 48, 41]⟩)
      · have HYB := Lib.hid (HY.out (not_empty hag))
        clear hag
        go_wp2_with fail
        refine (implBelow s Y m true _ (by omega) hYs HL6.out HYB.out).mono ?_
        rintro e w7 ⟨rfl, hx7⟩
        have HB7 := Lib.hid (below_step HB6.out hx7)
        have HL7 := Lib.hid (HL6.out.below hx7)
        clear hx7
        go_wp2_with fail
        refine (implBelow s Z m true _ (by omega) hZs HL7.out HZ.out).mono ?_
        rintro e w8 ⟨rfl, hx8⟩
        have HB8 := Lib.hid (below_step HB7.out hx8)
        have HL8 := Lib.hid (HL7.out.below hx8)
        clear hx8
        go_wp2
        go_ret
        exact ⟨ret_bool (by simp), HB8.out⟩
      · clear hag
        go_wp2_with fail
        refine (implBelow s Z m true _ (by omega) hZs HL6.out HZ.out).mono ?_
        rintro e w8 ⟨rfl, hx8⟩
        have HB8 := Lib.hid (below_step HB6.out hx8)
        have HL8 := Lib.hid (HL6.out.below hx8)
        clear hx8
        go_wp2
        go_ret
        exact ⟨ret_bool (by simp), HB8.out⟩
  · have hd : (1048576 : Int) < (n : Int) := by omega
    go_enter Try.func9, Try.ntmps9
    go_wp2
    go_ret
    exact ⟨rfl, Below.refl _ _⟩
end Go.Proofs.Ytcacdgojibojgac
