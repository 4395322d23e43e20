/-
  The walk of the exact law on RowsOf: the rows agree, and what is written into some of them is met by no other.
-/
import Derived.Test.YtdcedkjoligekaaRowsOfS
import Derived.Test.YtdcedkjoligekaaRowsOfI
import Derived.Test.YtdcedkjoligekaaMarkRows
namespace Go.Proofs.Ytdcedkjoligekaa
open Go.RowKit
set_option linter.unusedVariables false

theorem goodRow_two2 {z : List Int} (h : goodRow z = true) : z.length = 2 := by
  unfold goodRow at h
  simp only [Bool.and_eq_true, beq_iff_eq] at h
  exact h.1.1
theorem posR_le (q : Nat) (rs : List (List Int)) (h : ∀ i, i < rs.length → (rs.getD i []).length ≤ 2) (k : Nat) (hk : k ≤ rs.length) : posR q rs k ≤ q + 2 * k := by
  induction k with
  | zero => exact Nat.le_refl _
  | succ k ih =>
    have := ih (by omega)
    have := h k (by omega)
    show posR q rs k + (rs.getD k []).length ≤ _
    omega
theorem ofRows_small (f : Nat → Bool) (T q : Nat) : (ofRows f T q).length ≤ 20 ∧ ∀ i, i < (ofRows f T q).length → ((ofRows f T q).getD i []).length ≤ 2 := by
  have h := ofRows_good f T q
  unfold goodRows at h
  rw [Bool.and_eq_true, decide_eq_true_eq, List.all_eq_true] at h
  refine ⟨h.1, fun i hi => ?_⟩
  rw [List.getD_eq_getElem?_getD, List.getElem?_eq_getElem hi]
  exact Nat.le_of_eq (goodRow_two2 (h.2 _ (List.getElem_mem hi)))

/-- What both answer. -/
theorem rowsOf_both (s : ByteArray) (m : Int) : ∃ rs b, (∀ w : World, s.size ≤ 1048576 → Calls Try.prog 25 #[.string s] w (RowsOut rs b w)) ∧
    (∀ w : World, s.size ≤ 1048576 → LibAt m w → Calls Try.prog 24 #[.string s] w (RowsOut rs b w)) ∧ rs.length ≤ 20 ∧ ∀ i, i < rs.length → (rs.getD i []).length ≤ 2 := by
  cases hok : okS s
  · exact ⟨[], false, fun w hs => specRowsOf_off s w hs hok, fun w hs hL => implRowsOf_off s m w hs hL hok, Nat.zero_le _, fun i hi => absurd hi (Nat.not_lt_zero _)⟩
  · obtain ⟨T, q, ht, hT, hq⟩ := tidy_there hok
    exact ⟨_, _, fun w hs => specRowsOf_on s T q w hs hok ht hT hq, fun w hs hL => implRowsOf_on s T q m w hs hL hok ht hT hq, ofRows_small _ _ _⟩

set_option maxRecDepth 100000 in
set_option maxHeartbeats 1000000 in
theorem lawRowsOf (s : ByteArray) (_ : s.size ≤ maxLen) (m : Int) (w : World) (hg : 0 < w.heap.size) (hm : w.cell? ⟨0, 0, none⟩ = some (.int .i64 m)) :
    Calls Try.prog 13 #[.string s] w fun e w' => e = .returned (.bool true) ∧ Below w.heap.size w w' := by
  by_cases hs : s.size ≤ 1048576
  · have hL : LibAt m w := ⟨hg, hm⟩
    clear hg hm
    obtain ⟨L, b, HLS', HLL', hl20, hl2⟩ := rowsOf_both s m
    have HLS := Lib.hid HLS'
    have HLL := Lib.hid HLL'
    have HSH : Hid (Short L) := Lib.hid (fun i hi => Nat.le_trans (hl2 i hi) (by decide))
    have hpos := posR_le 1 L hl2 L.length (Nat.le_refl _)
    have HP : Hid (posR 1 L L.length ≤ 1048576) := Lib.hid (by omega)
    have HSM : Hid (Short (mixR 1 L L.length)) := Lib.hid (fun i hi => by rw [mixR_length] at hi; rw [mixR_len _ _ _ hi]; exact HSH.out i hi)
    clear HLS' HLL' hl2
    go_enter Try.func13, Try.ntmps13
    go_wp2_with fail
    refine (HLS.out _ hs).mono ?_
    rintro e w1 ⟨a0, n0, c0, rfl, hb1, hown1⟩
    have hL1 := hL.below hb1
    obtain ⟨rfl, r0⟩ := hown1.reads
    have R0 := Lib.hid r0
    have HB1 := Lib.hid hb1
    clear hown1 r0 hb1
    go_wp2_with fail
    refine (HLL.out _ hs hL1).mono ?_
    rintro e w2 ⟨a1, n1, c1, rfl, hb2, hown2⟩
    have HO2 := Lib.hid hown2
    obtain ⟨rfl, r1⟩ := hown2.reads
    have R0' := Lib.hid (R0.out.below hb2 (Nat.le_refl _))
    have R1 := Lib.hid r1
    have HB2 := Lib.hid hb2
    clear hown2 r1 hb2
    go_wp2_with fail
    refine (eqIntSS_same a1 a0 L.length c1 c0 L _ R1.out R0'.out (by omega) HSH.out).mono ?_
    rintro e w3 ⟨rfl, hb3⟩
    have HO3 := Lib.hid (HO2.out.below hb3)
    have HB3 := Lib.hid (HB2.out.trans (hb3.mono HB2.out.size))
    clear R0' R1 hb3
    go_wp2_with fail
    refine (markIntSS_own w1.heap.size 1 a1 L.length c1 L _ HO3.out HSH.out (by omega) HP.out).mono ?_
    rintro e w4 ⟨rfl, hb4, hown4⟩
    have HO4 := Lib.hid hown4
    have HB4 := Lib.hid (HB3.out.trans hb4)
    obtain ⟨-, r4⟩ := hown4.reads
    have R4 := Lib.hid r4
    have HH := Lib.hid (fun W' (hr : ReadsR W' a1 L.length (mixR 1 L L.length)) => heldIntSS_own 1 a1 L.length c1 L W' hr HSH.out (by omega) HP.out)
    obtain ⟨P, hP⟩ : ∃ P, P = posR 1 L L.length := ⟨_, rfl⟩
    rw [← hP] at HH hpos
    rw [← hP]
    clear hown4 hb4 r4 hP HP HO3 HB3 HO2 HB2
    go_wp2_with fail
    refine (HH.out _ R4.out).mono ?_
    rintro e w5 ⟨rfl, rfl⟩
    go_wp2_with fail
    refine (HLL.out _ hs (hL.below (HB1.out.trans (HB4.out.mono HB1.out.size)))).mono ?_
    rintro e w6 ⟨a2, n2, c2, rfl, hb6, hown6⟩
    obtain ⟨rfl, r2⟩ := hown6.reads
    have R2 := Lib.hid r2
    have R0' := Lib.hid ((R0.out.below HB4.out (Nat.le_refl _)).below hb6 (Nat.le_refl _))
    have R1' := Lib.hid (R4.out.below hb6 (Nat.le_refl _))
    have HB6 := Lib.hid (HB4.out.trans (hb6.mono HB4.out.size))
    clear hown6 r2 hb6
    go_wp2_with fail
    refine (eqIntSS_same a2 a0 L.length c2 c0 L _ R2.out R0'.out (by omega) HSH.out).mono ?_
    rintro e w7 ⟨rfl, hb7⟩
    have R1'' := Lib.hid (R1'.out.below hb7 (Nat.le_refl _))
    have HB7 := Lib.hid (HB6.out.trans (hb7.mono HB6.out.size))
    clear hb7
    go_wp2_with fail
    refine (HH.out _ R1''.out).mono ?_
    rintro e w8 ⟨rfl, rfl⟩
    go_wp2
    go_ret
    exact ⟨rfl, HB1.out.trans (HB7.out.mono HB1.out.size)⟩
  · have hd : (1048576 : Int) < (s.size : Int) := by omega
    go_enter Try.func13, Try.ntmps13
    go_wp2
    go_ret
    exact ⟨rfl, Below.refl _ _⟩
end Go.Proofs.Ytdcedkjoligekaa
