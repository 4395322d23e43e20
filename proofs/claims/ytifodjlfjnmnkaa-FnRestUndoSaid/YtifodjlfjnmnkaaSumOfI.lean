/-
  The walk of SumOf, of the program.
-/
import Derived.Test.YtifodjlfjnmnkaaNumTextI
set_option linter.unusedVariables false
set_option linter.unusedSimpArgs false
namespace Go.Proofs.Ytifodjlfjnmnkaa
open Go.RowKit

/-- The sums by numbers less than k. -/
def accF (f g : Nat → Bool) (k i : Nat) : Bool := someF (fun x => f x && (decide (x ≤ i) && g (i - x))) 0 k
theorem accF_next (f g : Nat → Bool) (k i : Nat) : accF f g (k + 1) i = (accF f g k i || (f k && (decide (k ≤ i) && g (i - k)))) := by
  unfold accF
  rw [show someF (fun x => f x && (decide (x ≤ i) && g (i - x))) 0 (k + 1) = (someF (fun x => f x && (decide (x ≤ i) && g (i - x))) 0 k || (f (0 + k) && (decide (0 + k ≤ i) && g (i - (0 + k))))) from rfl, Nat.zero_add]
theorem accF_done (f g : Nat → Bool) (N i : Nat) (h : i < N) : accF f g N i = sumG false f g i := by
  apply bool_iff
  unfold accF
  rw [someF_iff, sumG_iff]
  constructor
  · rintro ⟨x, hx, h1⟩
    rw [Nat.zero_add, Bool.and_eq_true, Bool.and_eq_true, decide_eq_true_iff] at h1
    exact ⟨x, i - x, by omega, h1.1, h1.2.2, by simp⟩
  · rintro ⟨x, y, rfl, h1, h2, _⟩
    refine ⟨x, by omega, ?_⟩
    rw [Nat.zero_add, Bool.and_eq_true, Bool.and_eq_true, decide_eq_true_iff, show x + y - x = y from by omega]
    exact ⟨h1, by omega, h2⟩
theorem behind_up {g : Nat → Bool} {N k j : Nat} (hk : k ≤ N) : behind N g (N - k + j) = (decide (k ≤ j) && g (j - k)) := by
  unfold behind
  by_cases h : k ≤ j
  · rw [decide_eq_true h, decide_eq_true (by omega), show N - k + j - N = j - k from by omega]
  · rw [decide_eq_false h, decide_eq_false (by omega)]; rfl

/-- The boxes of two sets, and the row of their sum. -/
structure SumBoxes (T R T2 R2 : ByteArray) (P Q GS : Nat) (w wr : World) : Prop where
  p0 : wr.cell? ⟨P, 0, none⟩ = some (.string T)
  p1 : wr.cell? ⟨P, 1, none⟩ = some (.string R)
  q0 : wr.cell? ⟨Q, 0, none⟩ = some (.string T2)
  q1 : wr.cell? ⟨Q, 1, none⟩ = some (.string R2)
  row : BRow wr GS 268 fun _ => false
  nP : P ≠ GS
  nQ : Q ≠ GS
  le : w.heap.size ≤ GS
  below : Below w.heap.size w wr
theorem SumBoxes.step {T R T2 R2 : ByteArray} {P Q GS : Nat} {w wr w' : World} (h : SumBoxes T R T2 R2 P Q GS w wr) (hb : Below wr.heap.size wr w') : SumBoxes T R T2 R2 P Q GS w w' :=
  ⟨(hb.cell (p := ⟨P, 0, none⟩) (lt_of_some h.p0)).trans h.p0, (hb.cell (p := ⟨P, 1, none⟩) (lt_of_some h.p0)).trans h.p1, (hb.cell (p := ⟨Q, 0, none⟩) (lt_of_some h.q0)).trans h.q0, (hb.cell (p := ⟨Q, 1, none⟩) (lt_of_some h.q0)).trans h.q1,
    h.row.step hb, h.nP, h.nQ, h.le, h.below.trans (hb.mono h.below.size)⟩
theorem sumBoxes_start {w w1 w2 : World} (T R T2 R2 : ByteArray) (hb : Below w.heap.size w w1) (hb2 : Below (w1.alloc (.cells #[.string T, .string R] 57)).heap.size (w1.alloc (.cells #[.string T, .string R] 57)) w2) :
    SumBoxes T R T2 R2 w1.heap.size w2.heap.size (w2.heap.size + 1) w ((w2.alloc (.cells #[.string T2, .string R2] 57)).alloc (.cells (madeCells #[.bool false] 268) 4)) := by
  have h1 := hb.size
  have h2 := hb2.size
  simp at h2
  obtain ⟨e1, e2⟩ := box_later hb2
  have e3 : (w2.alloc (.cells #[.string T2, .string R2] 57)).cell? ⟨w2.heap.size, 0, none⟩ = some (.string T2) := by rw [World.cell?_alloc_at _ _ _ _ rfl]; rfl
  have e4 : (w2.alloc (.cells #[.string T2, .string R2] 57)).cell? ⟨w2.heap.size, 1, none⟩ = some (.string R2) := by rw [World.cell?_alloc_at _ _ _ _ rfl]; rfl
  have hr := bRow_new (w2.alloc (.cells #[.string T2, .string R2] 57)) 268
  rw [World.size_alloc] at hr
  refine ⟨?_, ?_, ?_, ?_, hr, by omega, by omega, by omega, ?_⟩
  · rw [World.cell?_alloc_past _ _ _ (by simp; omega), World.cell?_alloc_past _ _ _ (by show w1.heap.size < _; omega)]; exact e1
  · rw [World.cell?_alloc_past _ _ _ (by simp; omega), World.cell?_alloc_past _ _ _ (by show w1.heap.size < _; omega)]; exact e2
  · rw [World.cell?_alloc_past _ _ _ (by simp)]; exact e3
  · rw [World.cell?_alloc_past _ _ _ (by simp)]; exact e4
  · exact (((hb.alloc h1 _).trans (hb2.mono (by simp; omega))).alloc (by omega) _).alloc (by simp; omega) _

/-- The world of SumOf's loop. -/
structure SumLoop (f g : Nat → Bool) (T R T2 R2 : ByteArray) (P Q GS G1 G2 k : Nat) (w wr : World) : Prop where
  p0 : wr.cell? ⟨P, 0, none⟩ = some (.string T)
  p1 : wr.cell? ⟨P, 1, none⟩ = some (.string R)
  q0 : wr.cell? ⟨Q, 0, none⟩ = some (.string T2)
  q1 : wr.cell? ⟨Q, 1, none⟩ = some (.string R2)
  row : BRow wr GS 268 (accF f g k)
  first : BRow wr G1 268 f
  second : BRow wr G2 536 (behind 268 g)
  nP : P ≠ GS
  nQ : Q ≠ GS
  n1 : G1 ≠ GS
  n2 : G2 ≠ GS
  le : w.heap.size ≤ GS
  below : Below w.heap.size w wr
theorem SumBoxes.loop {f g : Nat → Bool} {T R T2 R2 : ByteArray} {P Q GS G1 G2 : Nat} {w wr : World} (h : SumBoxes T R T2 R2 P Q GS w wr) (h1 : BRow wr G1 268 f) (h2 : BRow wr G2 536 (behind 268 g)) (n1 : G1 ≠ GS) (n2 : G2 ≠ GS) :
    SumLoop f g T R T2 R2 P Q GS G1 G2 0 w wr := ⟨h.p0, h.p1, h.q0, h.q1, h.row.congr fun j _ => rfl, h1, h2, h.nP, h.nQ, n1, n2, h.le, h.below⟩
theorem SumLoop.skip {f g : Nat → Bool} {T R T2 R2 : ByteArray} {P Q GS G1 G2 k : Nat} {w wr : World} (h : SumLoop f g T R T2 R2 P Q GS G1 G2 k w wr) (hf : f k = false) : SumLoop f g T R T2 R2 P Q GS G1 G2 (k + 1) w wr :=
  ⟨h.p0, h.p1, h.q0, h.q1, h.row.congr fun j _ => by rw [accF_next, hf]; simp, h.first, h.second, h.nP, h.nQ, h.n1, h.n2, h.le, h.below⟩
theorem SumLoop.added {f g : Nat → Bool} {T R T2 R2 : ByteArray} {P Q GS G1 G2 k : Nat} {w wr w' : World} (h : SumLoop f g T R T2 R2 P Q GS G1 G2 k w wr) (hr : BRow w' GS 268 (mix (accF f g k) (accF f g (k + 1)) 0 268)) (he : Else GS wr w') :
    SumLoop f g T R T2 R2 P Q GS G1 G2 (k + 1) w w' :=
  ⟨(he.cell (p := ⟨P, 0, none⟩) h.nP (lt_of_some h.p0)).trans h.p0, (he.cell (p := ⟨P, 1, none⟩) h.nP (lt_of_some h.p0)).trans h.p1, (he.cell (p := ⟨Q, 0, none⟩) h.nQ (lt_of_some h.q0)).trans h.q0, (he.cell (p := ⟨Q, 1, none⟩) h.nQ (lt_of_some h.q0)).trans h.q1,
    hr.congr fun j hj => by unfold mix; rw [if_pos (by omega)], h.first.else he h.n1, h.second.else he h.n2, h.nP, h.nQ, h.n1, h.n2, h.le, he.below h.below h.le h.row.lt⟩
/-- What add wants where a set is added, k greater. -/
theorem SumLoop.add {f g : Nat → Bool} {T R T2 R2 : ByteArray} {P Q GS G1 G2 k : Nat} {w wr : World} (h : SumLoop f g T R T2 R2 P Q GS G1 G2 k w wr) (hk : k < 268) (hf : f k = true) :
    Calls Try.prog 69 #[.slice (some ⟨GS, 0, none⟩) (268 : Nat) (268 : Nat), .slice (some ⟨G2, 268 - k, none⟩) (268 : Nat) (268 : Nat)] wr fun e w' =>
      e = .returned (.tuple #[]) ∧ SumLoop f g T R T2 R2 P Q GS G1 G2 (k + 1) w w' := by
  refine (add_any GS 0 G2 (268 - k) 268 268 268 268 (accF f g k) (accF f g (k + 1)) (fun j => decide (k ≤ j) && g (j - k)) wr h.row (by decide) (by decide) (fun j hj => absurd hj (Nat.not_lt_zero _)) (fun i hi => by rw [Nat.zero_add, accF_next, hf, Bool.true_and]) ?_).mono ?_
  · intro j w' hj _ he
    rw [(h.second.else he h.n2).cell (i := 268 - k + j) (by omega), behind_up (by omega)]
  · rintro e w' ⟨rfl, hr, he⟩
    exact ⟨rfl, h.added hr he⟩

theorem sum_per {f g : Nat → Bool} {T R T2 R2 : ByteArray} (h1 : SmallParts f T R) (h2 : SmallParts g T2 R2) (n : Nat) (hn : 144 ≤ n) : sumG false f g (n + R.size * R2.size) = sumG false f g n := by
  have a1 := h1.tailLe
  have a2 := h2.tailLe
  have a3 : R.size * R2.size ≤ 8 * 8 := Nat.mul_le_mul h1.ringLe h2.ringLe
  refine sum_round (m := 8) (Nat.mul_pos h1.ringPos h2.ringPos) (fun n hn => ?_) (fun n hn => ?_) n (by omega)
  · rw [Nat.mul_comm]; exact per_rounds h1.tidy.per _ _ (by omega)
  · exact per_rounds h2.tidy.per _ _ (by omega)

set_option maxRecDepth 100000 in
set_option maxHeartbeats 2000000 in
theorem implSum_on (s t : ByteArray) (m : Int) (w : World) (hs : s.size ≤ 1048576) (ht : t.size ≤ 1048576) (hL : LibAt m w) (h1 : smallS s = true) (h2 : smallS t = true) :
    Calls Try.prog 40 #[.string s, .string t] w fun e w' => MakeEnd true (sumG false (fS s) (fS t)) e ∧ Below w.heap.size w w' := by
  obtain ⟨i0, hi, hz0, hz1, hz2⟩ := info_parts Try.infoBool
  have HL := Lib.hid hL
  clear hL
  go_enter Try.func40, Try.ntmps40
  go_wp2_with fail
  refine (smallSet_any s m _ hs HL.out).mono ?_
  rintro e w1 ⟨⟨T, R, rfl, hsp⟩, hb⟩
  rw [h1]
  have HSP := Lib.hid (hsp h1)
  have HB1 := Lib.hid hb
  clear hsp hb
  go_wp2_with fail
  refine (smallSet_any t m _ ht ((HL.out.below HB1.out).alloc _)).mono ?_
  rintro e w2 ⟨⟨T2, R2, rfl, hsp2⟩, hb2⟩
  rw [h2]
  have HSP2 := Lib.hid (hsp2 h2)
  have HX := Lib.hid (sumBoxes_start T R T2 R2 HB1.out hb2)
  clear hsp2 hb2
  go_wp2_with (at_make; refine wpList_make_row _ rfl _ _ 81 rfl 4 i0 (.bool false) Try.underlying81 hi hz0 hz1 rfl .i64 .i64 268 rfl rfl ?b1 ?b2 ?_)
  case b1 => rw [hz2]; omega
  case b2 => omega
  generalize (w2.alloc (.cells #[.string T2, .string R2] 57)).alloc (.cells (madeCells #[.bool false] 268) 4) = w4 at HX ⊢
  have q0 := HX.out.q0
  have q1 := HX.out.q1
  go_wp2_with fail
  refine (numbersOf_any (fS t) T2 R2 268 w4 HSP2.out.parts (by omega)).mono ?_
  rintro e w5 ⟨G0, rfl, hG0, hr0, hb5⟩
  have HX5 := Lib.hid (HX.out.step hb5)
  have HR0 := Lib.hid hr0
  clear hb5 q0 q1 hr0
  go_wp2_with fail
  refine (shiftsOf_any G0 268 268 (fS t) w5 HR0.out (by omega) (by omega)).mono ?_
  rintro e w6 ⟨G2, rfl, hG2, hr2, hb6⟩
  have HX6 := Lib.hid (HX5.out.step hb6)
  have HR2 := Lib.hid hr2
  have p0 := HX6.out.p0
  have p1 := HX6.out.p1
  clear hb6 hr2
  go_wp2_with fail
  refine (numbersOf_any (fS s) T R 268 w6 HSP.out.parts (by omega)).mono ?_
  rintro e w7 ⟨G1, rfl, hG1, hr1, hb7⟩
  have hl4 := HX.out.row.lt
  have hl5 := HX5.out.row.lt
  have hl6 := HX6.out.row.lt
  have HL0 := Lib.hid ((HX6.out.step hb7).loop hr1 (HR2.out.step hb7) (by omega) (by omega))
  clear hb7 hr1 p0 p1
  go_wp2
  go_loopw [37] (fun i wr => ∃ k : Nat, k ≤ 268 ∧ i = .int .i64 k ∧ SumLoop (fS s) (fS t) T R T2 R2 w1.heap.size w2.heap.size (w2.heap.size + 1) G1 G2 k w wr) (fun i _ => 268 - (intOf i).toNat)
  case atStart => exact ⟨0, Nat.zero_le _, rfl, HL0.out⟩
  case round =>
    obtain ⟨k, hk, rfl, hl⟩ := hrel
    by_cases hlt : k < 268
    · have c1 := hl.first.cell hlt
      cases hf : fS s k
      · rw [hf] at c1
        have HK := Lib.hid (hl.skip hf)
        clear hl hf
        go_wp2
        go_roundw
        case rel => exact ⟨k + 1, by omega, by go_num, HK.out⟩
        case measure => simp [intOf]; omega
      · rw [hf] at c1
        have HK := Lib.hid (hl.add hlt hf)
        clear hl hf
        go_wp2_with fail
        refine (up_any G2 268 k 536 _ (by omega) (by omega) (by omega) (by omega)).mono ?_
        rintro e w8 ⟨rfl, rfl⟩
        go_wp2_with fail
        refine HK.out.mono ?_
        rintro e w9 ⟨rfl, hl9⟩
        have HL9 := Lib.hid hl9
        clear hl9 HK c1
        go_wp2
        go_roundw
        case rel => exact ⟨k + 1, by omega, by go_num, HL9.out⟩
        case measure => simp [intOf]; omega
    · obtain rfl : k = 268 := by omega
      have p1 := hl.p1
      have q1 := hl.q1
      have HK := Lib.hid hl
      clear hl
      have a1 := HSP.out.ringLe
      have a2 := HSP2.out.ringLe
      have a3 : R.size * R2.size ≤ 8 * 8 := Nat.mul_le_mul a1 a2
      obtain ⟨p, hp⟩ : ∃ p, p = R.size * R2.size := ⟨_, rfl⟩
      have hpi : (R.size : Int) * (R2.size : Int) = (p : Int) := by rw [hp, Int.natCast_mul]
      have hp0 : 0 < p := by rw [hp]; exact Nat.mul_pos HSP.out.ringPos HSP2.out.ringPos
      have HPER := Lib.hid (sum_per HSP.out HSP2.out)
      rw [← hp] at a3 HPER
      clear hp
      go_wp2_with fail
      refine (numText_any (w2.heap.size + 1) 268 (sumG false (fS s) (fS t)) 144 p m _ (HK.out.row.congr fun i hi => accF_done _ _ _ _ hi) (by omega) (by omega) hp0 (by omega) (by omega) HPER.out (HL.out.below HK.out.below)).mono ?_
      rintro e w9 ⟨⟨U, b, rfl, hm⟩, hb9⟩
      have HM := Lib.hid hm
      have HB9 := Lib.hid (HK.out.below.trans (hb9.mono HK.out.below.size))
      clear hm hb9
      go_wp2
      go_ret2
      exact ⟨⟨U, b, rfl, HM.out⟩, HB9.out⟩

end Go.Proofs.Ytifodjlfjnmnkaa
