/-
  The walk of SumDouble, of the program.
-/
import Derived.Test.YtonphojjlilcnaaNumTextI
set_option linter.unusedVariables false
set_option linter.unusedSimpArgs false
namespace Go.Proofs.Ytonphojjlilcnaa
open Go.RowKit

/-- The sums of a number less than k and a greater one. -/
def dblF (f : Nat → Bool) (k i : Nat) : Bool := someF (fun x => f x && (decide (2 * x < i) && f (i - x))) 0 k
theorem dblF_next (f : Nat → Bool) (k i : Nat) : dblF f (k + 1) i = (dblF f k i || (f k && (decide (2 * k < i) && f (i - k)))) := by
  unfold dblF
  rw [show someF (fun x => f x && (decide (2 * x < i) && f (i - x))) 0 (k + 1) = (someF (fun x => f x && (decide (2 * x < i) && f (i - x))) 0 k || (f (0 + k) && (decide (2 * (0 + k) < i) && f (i - (0 + k))))) from rfl, Nat.zero_add]
theorem dblF_done (f : Nat → Bool) (N i : Nat) (h : i < N) : dblF f N i = sumG true f f i := by
  apply bool_iff
  unfold dblF
  rw [someF_iff, sumG_iff]
  constructor
  · rintro ⟨x, hx, h1⟩
    rw [Nat.zero_add, Bool.and_eq_true, Bool.and_eq_true, decide_eq_true_iff] at h1
    exact ⟨x, i - x, by omega, h1.1, h1.2.2, fun _ => by omega⟩
  · rintro ⟨x, y, rfl, h1, h2, h3⟩
    have h3 := h3 rfl
    rcases Nat.lt_or_ge x y with k | k
    · refine ⟨x, by omega, ?_⟩
      rw [Nat.zero_add, Bool.and_eq_true, Bool.and_eq_true, decide_eq_true_iff, show x + y - x = y from by omega]
      exact ⟨h1, by omega, h2⟩
    · refine ⟨y, by omega, ?_⟩
      rw [Nat.zero_add, Bool.and_eq_true, Bool.and_eq_true, decide_eq_true_iff, show x + y - y = x from by omega]
      exact ⟨h2, by omega, h1⟩
/-- The numbers from k on. -/
def fromF (f : Nat → Bool) (k i : Nat) : Bool := f i && decide (k ≤ i)

/-- The box of a set, the rows of its numbers, of the greater ones and of the sums. -/
structure DblLoop (f : Nat → Bool) (T R : ByteArray) (P GS G1 G2 k : Nat) (w wr : World) : Prop where
  p0 : wr.cell? ⟨P, 0, none⟩ = some (.string T)
  p1 : wr.cell? ⟨P, 1, none⟩ = some (.string R)
  row : BRow wr GS 268 (dblF f k)
  first : BRow wr G1 268 f
  second : BRow wr G2 536 (behind 268 (fromF f k))
  nP : P ≠ GS
  nP2 : P ≠ G2
  n1 : G1 ≠ GS
  n2 : G2 ≠ GS
  n3 : G1 ≠ G2
  le : w.heap.size ≤ GS
  le2 : w.heap.size ≤ G2
  below : Below w.heap.size w wr
theorem DblLoop.skip {f : Nat → Bool} {T R : ByteArray} {P GS G1 G2 k : Nat} {w wr : World} (h : DblLoop f T R P GS G1 G2 k w wr) (hf : f k = false) : DblLoop f T R P GS G1 G2 (k + 1) w wr :=
  ⟨h.p0, h.p1, h.row.congr fun j _ => by rw [dblF_next, hf]; simp, h.first, h.second.congr fun j _ => by
    unfold behind fromF
    by_cases e : j - 268 = k
    · rw [e, hf]; simp
    · have : decide (k ≤ j - 268) = decide (k + 1 ≤ j - 268) := by
        by_cases e2 : k ≤ j - 268
        · rw [decide_eq_true e2, decide_eq_true (by omega)]
        · rw [decide_eq_false e2, decide_eq_false (by omega)]
      rw [this], h.nP, h.nP2, h.n1, h.n2, h.n3, h.le, h.le2, h.below⟩
/-- Behind the write that takes a number out. -/
theorem DblLoop.out {f : Nat → Bool} {T R : ByteArray} {P GS G1 G2 k : Nat} {w wr : World} (h : DblLoop f T R P GS G1 G2 k w wr) (hk : k < 268) :
    BRow (wr.setCell ⟨G2, 268 + k, none⟩ (.bool false)) G2 536 (behind 268 (fromF f (k + 1))) ∧ Else G2 wr (wr.setCell ⟨G2, 268 + k, none⟩ (.bool false)) ∧ (∃ u, wr.cell? ⟨G2, 268 + k, none⟩ = some u) ∧ wr.frozen? ⟨G2, 268 + k, none⟩ = false := by
  refine ⟨(h.second.put (268 + k) false).congr fun j _ => ?_, (Else.refl _ _).put _ _, ⟨_, h.second.cell (by omega)⟩, h.second.free _⟩
  unfold put behind fromF
  by_cases e : j = 268 + k
  · subst e; rw [if_pos rfl, show 268 + k - 268 = k from by omega, decide_eq_false (show ¬ k + 1 ≤ k by omega)]; simp
  · rw [if_neg e]
    by_cases e1 : 268 ≤ j
    · have : decide (k ≤ j - 268) = decide (k + 1 ≤ j - 268) := by
        by_cases e2 : k ≤ j - 268
        · rw [decide_eq_true e2, decide_eq_true (by omega)]
        · rw [decide_eq_false e2, decide_eq_false (by omega)]
      rw [this]
    · rw [decide_eq_false e1, Bool.false_and, Bool.false_and]
theorem DblLoop.add {f : Nat → Bool} {T R : ByteArray} {P GS G1 G2 k : Nat} {w wr : World} (h : DblLoop f T R P GS G1 G2 k w wr) (hk : k < 268) (hf : f k = true) :
    Calls Try.prog 50 #[.slice (some ⟨GS, 0, none⟩) (268 : Nat) (268 : Nat), .slice (some ⟨G2, 268 - k, none⟩) (268 : Nat) (268 : Nat)] (wr.setCell ⟨G2, 268 + k, none⟩ (.bool false)) fun e w' =>
      e = .returned (.tuple #[]) ∧ DblLoop f T R P GS G1 G2 (k + 1) w w' := by
  obtain ⟨h2, he0, _, _⟩ := h.out hk
  have hrow := h.row.else he0 (fun e => h.n2 e.symm)
  have hl := h.row.lt
  refine (add_any GS 0 G2 (268 - k) 268 268 268 268 (dblF f k) (dblF f (k + 1)) (fun j => decide (2 * k < j) && f (j - k)) _ hrow (by decide) (by decide) (fun j hj => absurd hj (Nat.not_lt_zero _)) (fun i hi => by rw [Nat.zero_add, dblF_next, hf, Bool.true_and]) ?_).mono ?_
  · intro j w' hj _ he
    rw [(h2.else he h.n2).cell (i := 268 - k + j) (by omega)]
    unfold behind fromF
    by_cases e : 2 * k < j
    · rw [decide_eq_true e, decide_eq_true (by omega), decide_eq_true (by omega), show 268 - k + j - 268 = j - k from by omega]; simp
    · rw [decide_eq_false e]
      by_cases e2 : k ≤ j
      · rw [decide_eq_true (by omega), decide_eq_false (show ¬ k + 1 ≤ 268 - k + j - 268 by omega)]; simp
      · rw [decide_eq_false (by omega)]; rfl
  · rintro e w' ⟨rfl, hr, he⟩
    refine ⟨rfl, ?_⟩
    have c1 : ∀ i, (wr.setCell ⟨G2, 268 + k, none⟩ (.bool false)).cell? ⟨P, i, none⟩ = wr.cell? ⟨P, i, none⟩ := fun i => he0.cell (p := ⟨P, i, none⟩) h.nP2 (lt_of_some h.p0)
    have c2 : ∀ i, w'.cell? ⟨P, i, none⟩ = wr.cell? ⟨P, i, none⟩ := fun i => (he.cell (p := ⟨P, i, none⟩) h.nP (lt_of_some ((c1 0).trans h.p0))).trans (c1 i)
    exact ⟨(c2 0).trans h.p0, (c2 1).trans h.p1, hr.congr fun j hj => by unfold mix; rw [if_pos (by omega)], (h.first.else he0 h.n3).else he h.n1, h2.else he h.n2, h.nP, h.nP2, h.n1, h.n2, h.n3, h.le, h.le2,
      he.below (he0.below h.below h.le2 h.second.lt) h.le hrow.lt⟩

/-- The box of a set, and the row of its sums, ahead of the loop. -/
structure DblBoxes (T R : ByteArray) (P GS : Nat) (w wr : World) : Prop where
  p0 : wr.cell? ⟨P, 0, none⟩ = some (.string T)
  p1 : wr.cell? ⟨P, 1, none⟩ = some (.string R)
  row : BRow wr GS 268 fun _ => false
  nP : P < GS
  le : w.heap.size ≤ GS
  below : Below w.heap.size w wr
theorem DblBoxes.step {T R : ByteArray} {P GS : Nat} {w wr w' : World} (h : DblBoxes T R P GS w wr) (hb : Below wr.heap.size wr w') : DblBoxes T R P GS w w' :=
  ⟨(hb.cell (p := ⟨P, 0, none⟩) (lt_of_some h.p0)).trans h.p0, (hb.cell (p := ⟨P, 1, none⟩) (lt_of_some h.p0)).trans h.p1, h.row.step hb, h.nP, h.le, h.below.trans (hb.mono h.below.size)⟩
theorem dblBoxes_start {w w1 : World} (T R : ByteArray) (hb : Below w.heap.size w w1) :
    DblBoxes T R w1.heap.size (w1.heap.size + 1) w ((w1.alloc (.cells #[.string T, .string R] 47)).alloc (.cells (madeCells #[.bool false] 268) 4)) := by
  have h1 := hb.size
  have hr := bRow_new (w1.alloc (.cells #[.string T, .string R] 47)) 268
  rw [World.size_alloc] at hr
  refine ⟨?_, ?_, hr, by omega, by omega, ?_⟩
  · rw [World.cell?_alloc_past _ _ _ (by simp), World.cell?_alloc_at _ _ _ _ rfl]; rfl
  · rw [World.cell?_alloc_past _ _ _ (by simp), World.cell?_alloc_at _ _ _ _ rfl]; rfl
  · exact (hb.alloc h1 _).alloc (by simp; omega) _
theorem DblBoxes.loop {f : Nat → Bool} {T R : ByteArray} {P GS G1 G2 : Nat} {w wr : World} (h : DblBoxes T R P GS w wr) (h1 : BRow wr G1 268 f) (h2 : BRow wr G2 536 (behind 268 f)) (n1 : GS < G1) (n2 : G1 < G2) : DblLoop f T R P GS G1 G2 0 w wr :=
  have a := h.nP
  have b := h.le
  ⟨h.p0, h.p1, h.row.congr fun j _ => rfl, h1, h2.congr fun j _ => by unfold behind fromF; simp, by omega, by omega, by omega, by omega, by omega, h.le, by omega, h.below⟩

theorem dbl_per {f : Nat → Bool} {T R : ByteArray} (h1 : SmallParts f T R) (n : Nat) (hn : 144 ≤ n) : sumG true f f (n + R.size) = sumG true f f n := by
  have a1 := h1.tailLe
  have a3 := h1.ringLe
  exact sumD_round (m := 8) h1.ringPos (fun n hn => h1.tidy.per n (by omega)) n (by omega)

set_option maxRecDepth 100000 in
set_option maxHeartbeats 2000000 in
theorem implDouble_on (s : ByteArray) (m : Int) (w : World) (hs : s.size ≤ 1048576) (hL : LibAt m w) (h1 : smallS s = true) :
    Calls Try.prog 25 #[.string s] w fun e w' => MakeEnd true (sumG true (fS s) (fS s)) e ∧ Below w.heap.size w w' := by
  obtain ⟨i0, hi, hz0, hz1, hz2⟩ := info_parts Try.infoBool
  have HL := Lib.hid hL
  clear hL
  go_enter Try.func25, Try.ntmps25
  go_wp2_with fail
  refine (smallSet_any s m _ hs HL.out).mono ?_
  rintro e w1 ⟨⟨T, R, rfl, hsp⟩, hb⟩
  rw [h1]
  have HSP := Lib.hid (hsp h1)
  have HX := Lib.hid (dblBoxes_start T R hb)
  clear hsp hb
  go_wp2_with (at_make; refine wpList_make_row _ rfl _ _ 51 rfl 4 i0 (.bool false) Try.underlying51 hi hz0 hz1 rfl .i64 .i64 268 rfl rfl ?b1 ?b2 ?_)
  case b1 => rw [hz2]; omega
  case b2 => omega
  generalize (w1.alloc (.cells #[.string T, .string R] 47)).alloc (.cells (madeCells #[.bool false] 268) 4) = w4 at HX ⊢
  have p0 := HX.out.p0
  have p1 := HX.out.p1
  go_wp2_with fail
  refine (numbersOf_any (fS s) T R 268 w4 HSP.out.parts (by omega)).mono ?_
  rintro e w5 ⟨G1, rfl, hG1, hr1, hb5⟩
  have HX5 := Lib.hid (HX.out.step hb5)
  have HR1 := Lib.hid hr1
  clear hb5 p0 p1 hr1
  go_wp2_with fail
  refine (shiftsOf_any G1 268 268 (fS s) w5 HR1.out (by omega) (by omega)).mono ?_
  rintro e w6 ⟨G2, rfl, hG2, hr2, hb6⟩
  have hl4 := HX.out.row.lt
  have hl5 := HR1.out.lt
  have HL0 := Lib.hid ((HX5.out.step hb6).loop (HR1.out.step hb6) hr2 (by omega) (by omega))
  clear hb6 hr2
  go_wp2
  go_loopw [25] (fun i wr => ∃ k : Nat, k ≤ 268 ∧ i = .int .i64 k ∧ DblLoop (fS s) T R w1.heap.size (w1.heap.size + 1) G1 G2 k w wr) (fun i _ => 268 - (intOf i).toNat)
  case atStart => exact ⟨0, Nat.zero_le _, rfl, HL0.out⟩
  case round =>
    obtain ⟨k, hk, rfl, hl⟩ := hrel
    by_cases hlt : k < 268
    · have c1 := hl.first.cell hlt
      cases hf : fS s k
      · rw [hf] at c1
        have HK := Lib.hid (hl.skip hf)
        clear hl hf
        go_wp2
        go_roundw
        case rel => exact ⟨k + 1, by omega, by go_num, HK.out⟩
        case measure => simp [intOf]; omega
      · rw [hf] at c1
        obtain ⟨_, _, ⟨u, z1⟩, z2⟩ := hl.out hlt
        have HK := Lib.hid (hl.add hlt hf)
        clear hl hf
        go_wp2_with fail
        refine (up_any G2 268 0 536 _ (by omega) (by omega) (by omega) (by omega)).mono ?_
        rintro e w8 ⟨rfl, rfl⟩
        go_wp2_with fail
        refine (up_any G2 268 k 536 _ (by omega) (by omega) (by omega) (by omega)).mono ?_
        rintro e w8 ⟨rfl, rfl⟩
        go_wp2_with fail
        refine HK.out.mono ?_
        rintro e w9 ⟨rfl, hl9⟩
        have HL9 := Lib.hid hl9
        clear hl9 HK c1
        go_wp2
        go_roundw
        case rel => exact ⟨k + 1, by omega, by go_num, HL9.out⟩
        case measure => simp [intOf]; omega
    · obtain rfl : k = 268 := by omega
      have p1 := hl.p1
      have HK := Lib.hid hl
      clear hl
      have a1 := HSP.out.ringLe
      have a2 := HSP.out.ringPos
      have HPER := Lib.hid (dbl_per HSP.out)
      go_wp2_with fail
      refine (numText_any (w1.heap.size + 1) 268 (sumG true (fS s) (fS s)) 144 R.size m _ (HK.out.row.congr fun i hi => dblF_done _ _ _ hi) (by omega) (by omega) a2 (by omega) (by omega) HPER.out (HL.out.below HK.out.below)).mono ?_
      rintro e w9 ⟨⟨U, b, rfl, hm⟩, hb9⟩
      have HM := Lib.hid hm
      have HB9 := Lib.hid (HK.out.below.trans (hb9.mono HK.out.below.size))
      clear hm hb9
      go_wp2
      go_ret2
      exact ⟨⟨U, b, rfl, HM.out⟩, HB9.out⟩

set_option maxHeartbeats 400000 in
theorem implDouble_off (s : ByteArray) (m : Int) (w : World) (hs : s.size ≤ 1048576) (hL : LibAt m w) (h1 : smallS s = false) :
    Calls Try.prog 25 #[.string s] w fun e w' => MakeEnd false (sumG true (fS s) (fS s)) e ∧ Below w.heap.size w w' := by
  have HL := Lib.hid hL
  clear hL
  go_enter Try.func25, Try.ntmps25
  go_wp2_with fail
  refine (smallSet_any s m _ hs HL.out).mono ?_
  rintro e w1 ⟨⟨T, R, rfl, hsp⟩, hb⟩
  rw [h1]
  have HB1 := Lib.hid hb
  clear hsp hb
  go_wp2
  go_ret2
  exact ⟨makeEnd_off rfl, HB1.out.alloc HB1.out.size _⟩

theorem implDouble (s : ByteArray) (m : Int) (w : World) (hs : s.size ≤ 1048576) (hL : LibAt m w) :
    Calls Try.prog 25 #[.string s] w fun e w' => MakeEnd (smallS s) (sumG true (fS s) (fS s)) e ∧ Below w.heap.size w w' := by
  cases h : smallS s
  · exact implDouble_off s m w hs hL h
  · exact implDouble_on s m w hs hL h

end Go.Proofs.Ytonphojjlilcnaa
