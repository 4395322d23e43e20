/-
  What the model's StarPlus and StarHas answer.
-/
import Derived.Test.YtcacdgojibojgadSpecStar
set_option linter.unusedVariables false
set_option linter.unusedSimpArgs false
namespace Go.Proofs.Ytcacdgojibojgad
open Go.RowKit

theorem BRow.reads {w : World} {g N : Nat} {c : Nat → Bool} (h : BRow w g N c) : Reads w (some ⟨g, 0, none⟩) N (part c 0 N) :=
  ⟨part_length _ _ _, .inr ⟨g, 0, rfl, h.lt, fun i hi => by rw [Nat.zero_add, h.cell hi, part_getD _ _ _ _ hi, Nat.zero_add]⟩⟩
theorem plus_put {f : Nat → Bool} (n : Nat) : put (starB f) 0 (f 0) n = plusF f n := rfl
theorem plus_none {f : Nat → Bool} (h : ∀ x, 0 < x → f x = false) : hasB [f 0] [false] = plusF f := by
  rw [zeroF_eq]
  funext n
  unfold zeroF plusF
  by_cases e : n = 0
  · rw [decide_eq_true e, if_pos e, Bool.true_and]
  · rw [decide_eq_false e, if_neg e, star_none h, Bool.false_and]; unfold zeroOnly; rw [decide_eq_false e]
/-- A tail of one sign and a ring of one sign, as the model lays them. -/
theorem one_less {w : World} {g S : Nat} {c : Nat → Bool} (h : BRow w g 1 c) (hS : S = w.heap.size) : LessIn (w.alloc (.cells #[.bool false] 4)) [c 0] [false] (some ⟨g, 0, none⟩) 1 1 (some ⟨S, 0, none⟩) 1 1 := by
  subst hS
  have h1 := h.reads.below (B := w.heap.size) ((Below.refl _ _).alloc (Nat.le_refl _) (.cells #[.bool false] 4)) (Nat.le_refl _)
  refine ⟨h1, ⟨rfl, .inr ⟨w.heap.size, 0, rfl, by simp, fun i hi => ?_⟩⟩, Nat.le_refl _, Nat.le_refl _, by unfold maxLen; omega, by unfold maxLen; omega, by decide, by decide, by decide⟩
  obtain rfl : i = 0 := by omega
  rw [Nat.add_zero, World.cell?_alloc_at _ _ _ _ rfl]; rfl

set_option maxRecDepth 100000 in
set_option maxHeartbeats 1000000 in
theorem specPlus_on (s : ByteArray) (w : World) (hs : s.size ≤ 1048576) (h1 : smallS s = true) :
    Calls Try.prog 27 #[.string s] w fun e w' => MadeEnd (plusF (fS s)) e ∧ Below w.heap.size w w' := by
  obtain ⟨i0, hi, hz0, hz1, hz2⟩ := info_parts Try.infoBool
  go_enter Try.func27, Try.ntmps27
  go_wp2_with fail
  refine (l4Small_any s _ hs).mono ?_
  rintro e w1 ⟨a1, n1, c1, a2, n2, c2, rfl, hb, hA⟩
  have HB1 := Lib.hid (hb.alloc hb.size (.cells #[.slice a1 n1 c1, .slice a2 n2 c2] 56))
  have HA := Lib.hid ((hA h1).alloc (.cells #[.slice a1 n1 c1, .slice a2 n2 c2] 56))
  clear hb hA
  rw [h1]
  go_wp2_with fail
  refine (l4Least_any (fS s) a1 n1 c1 a2 n2 c2 _ HA.out).mono ?_
  rintro e w2 ⟨k, rfl, hb2, hk⟩
  obtain ⟨q0, q1⟩ := box_later hb2
  have HA2 := Lib.hid (HA.out.below hb2 (Nat.le_refl _))
  have HB2 := Lib.hid (HB1.out.trans (hb2.mono HB1.out.size))
  have hlt1 : w1.heap.size < w2.heap.size := by have := hb2.size; simp at this; omega
  clear hb2
  rcases hk with ⟨hk0, hno⟩ | hk
  · have HNo := Lib.hid hno
    have hki : (k : Int) = 0 := by omega
    clear hk0
    go_wp2_with (at_make; refine wpList_make_row _ rfl _ _ 50 rfl 4 i0 (.bool false) Try.underlying50 hi hz0 hz1 rfl .i64 .i64 1 rfl rfl ?b1 ?b2 ?_)
    case b1 => rw [hz2]; omega
    case b2 => omega
    have HR3 := Lib.hid (bRow_new w2 1)
    have HX3 := Lib.hid ((Below.refl w2.heap.size w2).alloc (Nat.le_refl _) (.cells (madeCells #[.bool false] 1) 4))
    have HB3 := Lib.hid (HB2.out.alloc HB2.out.size (.cells (madeCells #[.bool false] 1) 4))
    generalize w2.alloc (.cells (madeCells #[.bool false] 1) 4) = w3 at HR3 HX3 HB3 ⊢
    have p0 := (HX3.out.cell (p := ⟨w1.heap.size, 0, none⟩) hlt1).trans q0
    have p1 := (HX3.out.cell (p := ⟨w1.heap.size, 1, none⟩) hlt1).trans q1
    have HA3 := Lib.hid (HA2.out.below HX3.out (Nat.le_refl _))
    have hlt3 : w1.heap.size < w3.heap.size := lt_of_some p0
    have hcall := small_has (c1 := c1) (c2 := c2) 0 HA3.out (by omega)
    go_wp2_with fail
    refine hcall.mono ?_
    rintro e w4 ⟨rfl, hb4⟩
    have hr4 := HR3.out.step hb4
    have x0 := hr4.cell (i := 0) (by decide)
    have xf := hr4.free 0
    have hr5 := (hr4.put 0 (fS s 0)).congr (d := fun _ => fS s 0) (fun i hi => by unfold put; rw [if_pos (by omega)])
    have HL := Lib.hid (one_less (S := w4.heap.size) hr5 (by simp [World.setCell]))
    have HB5 := Lib.hid ((HB3.out.trans (hb4.mono HB3.out.size)).setCell (p := ⟨w2.heap.size, 0, none⟩) HB2.out.size (.bool (fS s 0)))
    clear hb4 hr4 hr5 hcall
    go_wp2_with fail
    refine (done_gen [fS s 0] [false] (some ⟨w2.heap.size, 0, none⟩) 1 1 (some ⟨w4.heap.size, 0, none⟩) 1 1 _ HL.out).mono ?_
    rintro e w6 ⟨⟨U, b, rfl, hm⟩, hb6⟩
    rw [plus_none HNo.out] at hm
    have HM := Lib.hid hm
    have HB6 := Lib.hid ((HB5.out.alloc HB5.out.size _).trans (hb6.mono (HB5.out.alloc HB5.out.size _).size))
    clear hm hb6
    go_wp2
    go_ret2
    exact ⟨⟨U, b, rfl, HM.out⟩, HB6.out⟩
  · have hs8 := (smallS_iff.1 h1).2
    have h15 := hk.small hs8
    have h0 := hk.pos
    have HP : Hid (∀ n, 2400 ≤ n → plusF (fS s) (n + k) = plusF (fS s) n) := Lib.hid (fun n hn => by
      rw [plusF_pos (by omega), plusF_pos (by omega)]; exact hk.star hs8 n (by omega))
    have hki : ¬ (k : Int) = 0 := by omega
    have hki2 : (0 : Int) < (k : Int) := by omega
    obtain ⟨N, hN⟩ : ∃ N, 2400 + k = N := ⟨_, rfl⟩
    have hNi : (2400 : Int) + (k : Int) = (N : Int) := by omega
    have HN := Lib.hid hN
    have hN5 : N ≤ 5000 := by omega
    have hN0 : 0 < N := by omega
    clear hk hN hs8
    go_wp2_with (at_make; refine wpList_make_row _ rfl _ _ 50 rfl 4 i0 (.bool false) Try.underlying50 hi hz0 hz1 rfl .i64 .i64 1 rfl rfl ?b1 ?b2 ?_)
    case b1 => rw [hz2]; omega
    case b2 => omega
    have HR3 := Lib.hid (bRow_new w2 1)
    have HX3 := Lib.hid ((Below.refl w2.heap.size w2).alloc (Nat.le_refl _) (.cells (madeCells #[.bool false] 1) 4))
    have HB3 := Lib.hid (HB2.out.alloc HB2.out.size (.cells (madeCells #[.bool false] 1) 4))
    generalize w2.alloc (.cells (madeCells #[.bool false] 1) 4) = w3 at HR3 HX3 HB3 ⊢
    have p0 := (HX3.out.cell (p := ⟨w1.heap.size, 0, none⟩) hlt1).trans q0
    have p1 := (HX3.out.cell (p := ⟨w1.heap.size, 1, none⟩) hlt1).trans q1
    have HA3 := Lib.hid (HA2.out.below HX3.out (Nat.le_refl _))
    have hlt3 : w1.heap.size < w3.heap.size := lt_of_some p0
    go_wp2_with fail
    refine (l4Star_any (fS s) a1 n1 c1 a2 n2 c2 N _ HA3.out hN5).mono ?_
    rintro e w4 ⟨G, rfl, hG, hrow, hb4⟩
    have HB4 := Lib.hid (HB3.out.trans (hb4.mono HB3.out.size))
    have HR4 := Lib.hid hrow
    have r0 := (hb4.cell (p := ⟨w1.heap.size, 0, none⟩) hlt3).trans p0
    have r1 := (hb4.cell (p := ⟨w1.heap.size, 1, none⟩) hlt3).trans p1
    have hcall := small_has (c1 := c1) (c2 := c2) 0 (HA3.out.below hb4 (Nat.le_refl _)) (by omega)
    have hGw : w.heap.size ≤ G := by have := HB3.out.size; omega
    clear hrow hb4
    go_wp2_with fail
    refine hcall.mono ?_
    rintro e w5 ⟨rfl, hb5⟩
    have hr5 := HR4.out.step hb5
    have x0 := hr5.cell hN0
    have xf := hr5.free 0
    have hr6 := (hr5.put 0 (fS s 0)).congr (fun i hi => plus_put i)
    have hown := hr6.own (B := 0) (Nat.zero_le _) (by omega)
    have HB6 := Lib.hid ((HB4.out.trans (hb5.mono HB4.out.size)).setCell (p := ⟨G, 0, none⟩) hGw (.bool (fS s 0)))
    rw [← HN.out] at hown
    have hfill := fill_any (plusF (fS s)) 2400 k (2400 + k) 0 _ _ hown h0 (by omega) (by omega) HP.out
    rw [HN.out] at hfill
    clear hb5 hr5 hr6 hown hcall
    go_wp2_with fail
    refine hfill.mono ?_
    rintro e w7 ⟨⟨U, b, rfl, hm⟩, hb7⟩
    have HM := Lib.hid hm
    have HB7 := Lib.hid (HB6.out.trans (hb7.mono HB6.out.size))
    clear hm hb7 hfill
    go_wp2
    go_ret2
    exact ⟨⟨U, b, rfl, HM.out⟩, HB7.out⟩

set_option maxHeartbeats 400000 in
theorem specPlus (s : ByteArray) (w : World) (hs : s.size ≤ 1048576) :
    Calls Try.prog 27 #[.string s] w fun e w' => MakeEnd (smallS s) (plusF (fS s)) e ∧ Below w.heap.size w w' := by
  cases h1 : smallS s
  · go_enter Try.func27, Try.ntmps27
    go_wp2_with fail
    refine (l4Small_any s _ hs).mono ?_
    rintro e w1 ⟨a1, n1, c1, a2, n2, c2, rfl, hb, hA⟩
    have HB1 := Lib.hid (hb.alloc hb.size (.cells #[.slice a1 n1 c1, .slice a2 n2 c2] 56))
    clear hb hA
    rw [h1]
    clear h1
    go_wp2
    go_ret2
    exact ⟨makeEnd_off rfl, HB1.out⟩
  · refine (specPlus_on s w hs h1).mono ?_
    rintro e w' ⟨⟨U, b, rfl, hm⟩, hb⟩
    exact ⟨makeEnd_on hm, hb⟩

end Go.Proofs.Ytcacdgojibojgad
