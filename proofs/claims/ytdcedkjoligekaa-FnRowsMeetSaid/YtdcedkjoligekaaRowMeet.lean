/-
  The walk of the program's RowsMeet.
-/
import Derived.Test.YtdcedkjoligekaaRowMeetOn
import Derived.Test.YtdcedkjoligekaaRowRead
import Derived.Test.YtdcedkjoligekaaRowMeetA
namespace Go.Proofs.Ytdcedkjoligekaa
open Go.RowKit
set_option linter.unusedVariables false

theorem meet_no1 {z t : List Int} (h : goodRow z = false) : MeetAns z t [] false := .inr ⟨rfl, rfl, fun m hm => by have := hm.1; rw [h] at this; cases this⟩
theorem meet_no2 {z t : List Int} (h : goodRow t = false) : MeetAns z t [] false := .inr ⟨rfl, rfl, fun m hm => by have := hm.2.1; rw [h] at this; cases this⟩

theorem intsOut_none1 {w w1 : World} (hb : Below w.heap.size w w1) (o : Obj) : IntsOut [] false w (.returned (.tuple #[.slice (some ⟨w1.heap.size + 1, 0, none⟩) 0 0, .bool false])) ((w1.alloc o).alloc (.cells #[] 3)) := by
  have h := intsOut_none (hb.alloc hb.size o)
  simp at h
  exact h
/-- A box of two cells behind a call. -/
theorem box2 {w : World} {x y : Value} {wr : World} (hb : Below (w.alloc (.cells #[x, y] 79)).heap.size (w.alloc (.cells #[x, y] 79)) wr) :
    wr.cell? ⟨w.heap.size, 0, none⟩ = some x ∧ wr.cell? ⟨w.heap.size, 1, none⟩ = some y := by
  obtain ⟨q0, q1⟩ := bcell hb
  rw [q0 _ _ (by simp), q0 _ _ (by simp)]
  go_simp

set_option maxRecDepth 100000 in
set_option maxHeartbeats 2000000 in
theorem implMeet (a1 a2 : Option Addr) (n1 c1 n2 c2 : Nat) (z t : List Int) (w : World) (h1 : ReadsI w a1 n1 z) (h2 : ReadsI w a2 n2 t) (hn1 : n1 ≤ 1048576) (hn2 : n2 ≤ 1048576) :
    Calls Try.prog 32 #[.slice a1 n1 c1, .slice a2 n2 c2] w fun e w' => ∃ l b, MeetAns z t l b ∧ IntsOut l b w e w' := by
  have H1 := Lib.hid h1
  have H2 := Lib.hid h2
  clear h1 h2
  go_enter Try.func32, Try.ntmps32
  go_wp2_with fail
  refine (readRow_is a1 n1 c1 z _ H1.out hn1).mono ?_
  rintro e w1 ⟨⟨⟨b, s⟩, hr, rfl⟩, hb1⟩
  have HB1 := Lib.hid hb1
  have HR := Lib.hid hr
  have I2 := Lib.hid ((H2.out.below hb1 (Nat.le_refl _)).below ((Below.refl w1.heap.size w1).alloc (Nat.le_refl _) (.cells #[.int .i64 b, .int .i64 s] 79)) (Nat.le_refl _))
  clear hb1 hr
  unfold rwV
  go_wp2_with fail
  refine (readRow_is a2 n2 c2 t _ I2.out hn2).mono ?_
  rintro e w2 ⟨⟨⟨p, q⟩, hq, rfl⟩, hb2⟩
  obtain ⟨k0, k1⟩ := box2 hb2
  have HB2 := Lib.hid (((HB1.out.alloc HB1.out.size (.cells #[.int .i64 b, .int .i64 s] 79))).trans (hb2.mono (by have := HB1.out.size; simp; omega)))
  have hs2 := hb2.size
  simp at hs2
  have HQ := Lib.hid hq
  have k2 : (w2.alloc (.cells #[.int .i64 p, .int .i64 q] 79)).cell? ⟨w1.heap.size, 0, none⟩ = some (.int .i64 b) := by rw [World.cell?_alloc_past _ _ _ (by show w1.heap.size < w2.heap.size; omega)]; exact k0
  have k3 : (w2.alloc (.cells #[.int .i64 p, .int .i64 q] 79)).cell? ⟨w1.heap.size, 1, none⟩ = some (.int .i64 s) := by rw [World.cell?_alloc_past _ _ _ (by show w1.heap.size < w2.heap.size; omega)]; exact k1
  clear hb2 hq k0 k1
  unfold rwV
  cases hz : goodRow z
  · have HA := Lib.hid (meet_no1 (t := t) hz)
    go_wp2
    go_ret2
    exact ⟨[], false, HA.out, intsOut_none1 HB2.out _⟩
  · cases ht : goodRow t
    · have HA := Lib.hid (meet_no2 (z := z) ht)
      go_wp2
      go_ret2
      exact ⟨[], false, HA.out, intsOut_none1 HB2.out _⟩
    · have er := HR.out hz
      have eq := HQ.out ht
      have f1 := (goodRow_parts hz).2
      have f2 := (goodRow_parts ht).2
      rw [← er] at f1
      rw [← eq] at f2
      have fb : b ≤ 59 := f1.1
      have fs : s ≤ 60 := f1.2
      have fp : p ≤ 59 := f2.1
      have fq : q ≤ 60 := f2.2
      have HE := Lib.hid er
      have HF := Lib.hid eq
      have HZ := Lib.hid hz
      have HT := Lib.hid ht
      clear er eq f1 f2 hz ht
      by_cases hc : ∃ m, Least ⟨b, s⟩ ⟨p, q⟩ m
      · obtain ⟨m, hm⟩ := hc
        have HM := Lib.hid hm
        clear hm
        go_wp2_with fail
        refine (meet_on ⟨b, s⟩ ⟨p, q⟩ m _ (by show b ≤ 200; omega) (by show s ≤ 60; omega) (by show p ≤ 200; omega) (by show q ≤ 60; omega) HM.out).mono ?_
        rintro e w3 ⟨rfl, hb3⟩
        obtain ⟨st, hst⟩ : ∃ st, st = stepOf ⟨b, s⟩ ⟨p, q⟩ := ⟨_, rfl⟩
        rw [← hst]
        have HST := Lib.hid hst
        have HB3 := Lib.hid (((HB2.out.alloc HB2.out.size (.cells #[.int .i64 p, .int .i64 q] 79))).trans (hb3.mono (by have := HB2.out.size; simp; omega)))
        clear hb3 hst
        unfold rwV
        go_wp2_with fail
        refine (rowFits_is ⟨m, st⟩ _).mono ?_
        rintro e w4 ⟨rfl, hb4⟩
        obtain ⟨k2, k3⟩ := box2 hb4
        have HB4 := Lib.hid (((HB3.out.alloc HB3.out.size (.cells #[.int .i64 m, .int .i64 st] 79))).trans (hb4.mono (by have := HB3.out.size; simp; omega)))
        clear hb4
        by_cases hfit : m ≤ 59 ∧ st ≤ 60
        · rw [decide_eq_true (show (Rw.mk m st).b ≤ 59 ∧ (Rw.mk m st).s ≤ 60 from hfit)]
          go_wp2_with fail
          refine (rowList_is ⟨m, st⟩ _).mono ?_
          rintro e w5 ⟨g, rfl, hb5, hown⟩
          have HB5 := Lib.hid (HB4.out.trans (hb5.mono HB4.out.size))
          have HO := Lib.hid (own_base hown HB4.out.size)
          clear hb5 hown
          go_wp2
          go_ret2
          refine ⟨[(m : Int), (st : Int)], true, .inl ⟨rfl, m, ⟨HZ.out, HT.out, ?_, hfit.1, ?_⟩, ?_⟩, ⟨_, _, rfl, HB5.out, HO.out⟩⟩
          · rw [← HE.out, ← HF.out]; exact HM.out
          · rw [← HE.out, ← HF.out, ← HST.out]; exact hfit.2
          · rw [← HE.out, ← HF.out, ← HST.out]
        · rw [decide_eq_false (show ¬ ((Rw.mk m st).b ≤ 59 ∧ (Rw.mk m st).s ≤ 60) from hfit)]
          have HF2 := Lib.hid hfit
          clear hfit
          go_wp2
          go_ret2
          refine ⟨[], false, .inr ⟨rfl, rfl, fun m2 hm2 => ?_⟩, intsOut_none HB4.out⟩
          obtain ⟨_, _, hl, hm59, hst⟩ := hm2
          rw [← HE.out, ← HF.out] at hl hst
          rw [← HST.out] at hst
          obtain rfl := least_one HM.out hl
          exact HF2.out ⟨hm59, hst⟩
      · have HC := Lib.hid hc
        clear hc
        go_wp2_with fail
        refine (meet_off ⟨b, s⟩ ⟨p, q⟩ _ (by show b ≤ 200; omega) (by show s ≤ 60; omega) (by show p ≤ 200; omega) (by show q ≤ 60; omega) (fun n hn => HC.out (least_there hn.1 hn.2))).mono ?_
        rintro e w3 ⟨⟨⟨x, y⟩, rfl⟩, hb3⟩
        have HB3 := Lib.hid (((HB2.out.alloc HB2.out.size (.cells #[.int .i64 p, .int .i64 q] 79))).trans (hb3.mono (by have := HB2.out.size; simp; omega)))
        clear hb3
        unfold rwV
        go_wp2
        go_ret2
        refine ⟨[], false, .inr ⟨rfl, rfl, fun m2 hm2 => ?_⟩, intsOut_none1 HB3.out _⟩
        obtain ⟨_, _, hl, _, _⟩ := hm2
        rw [← HE.out, ← HF.out] at hl
        exact HC.out ⟨_, hl⟩
end Go.Proofs.Ytdcedkjoligekaa
