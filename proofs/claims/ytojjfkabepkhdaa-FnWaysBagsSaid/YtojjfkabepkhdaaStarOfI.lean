/-
  The walks of impl.numbers.star and impl.starOf: the first numbers of a star, in the memory of its own shifts, and its parts.
-/
import Derived.Test.YtojjfkabepkhdaaSumWithI
import Derived.Test.YtojjfkabepkhdaaStarRound
import Derived.Test.YtojjfkabepkhdaaInts
set_option linter.unusedVariables false
set_option linter.unusedSimpArgs false
namespace Go.Proofs.Ytojjfkabepkhdaa
open Go.RowKit

/-- The parts less than k, as the program lists them. -/
noncomputable def partsI (f : Nat → Bool) (k : Nat) : List Int := (parts f k).map fun (n : Nat) => (n : Int)
theorem partsI_hit {f : Nat → Bool} {k : Nat} (h : genB f k = true) : partsI f (k + 1) = partsI f k ++ [(k : Int)] := by unfold partsI; rw [parts_succ, if_pos h]; simp
theorem partsI_miss {f : Nat → Bool} {k : Nat} (h : genB f k = false) : partsI f (k + 1) = partsI f k := by unfold partsI; rw [parts_succ, h]; simp
theorem partsI_len (f : Nat → Bool) (k : Nat) : (partsI f k).length ≤ k := by
  unfold partsI parts; rw [List.length_map]; exact Nat.le_trans (List.length_filter_le _ _) (by simp)
theorem ints_more (l : List Int) (x : Int) : ints (l ++ [x]) = ints l ++ [.int .i64 x] := by simp [ints]

/-- The star of the numbers less than k, behind as many places. -/
noncomputable def starRowN (N : Nat) (f : Nat → Bool) (k : Nat) : Nat → Bool := behind N (starB (lessF f k))
noncomputable def starRow (f : Nat → Bool) (k : Nat) : Nat → Bool := behind 2001 (starB (lessF f k))

/-- The world of star's loop. -/
structure StarLoop (f : Nat → Bool) (A o N M G k : Nat) (w wr : World) (v : Value) : Prop where
  first : NumAt wr A o N M f
  row : BRow wr G (2 * N) (starRowN N f k)
  own : wr.ownsRow (G + 1) 3 1 v (partsI f k).length (ints (partsI f k))
  ltA : A < w.heap.size
  lt : w.heap.size ≤ G
  below : Below w.heap.size w wr
theorem StarLoop.step {f : Nat → Bool} {A o N M G k : Nat} {w wr w' : World} {v : Value} (h : StarLoop f A o N M G k w wr v) (hb : Below wr.heap.size wr w') : StarLoop f A o N M G k w w' v :=
  ⟨h.first.step hb, h.row.step hb, own_below h.own hb (Nat.le_refl _), h.ltA, h.lt, h.below.trans (hb.mono h.below.size)⟩
theorem StarLoop.skip {f : Nat → Bool} {A o N M G k : Nat} {w wr : World} {v : Value} (h : StarLoop f A o N M G k w wr v) (hf : f k = true → starB (lessF f k) k = true) : StarLoop f A o N M G (k + 1) w wr v := by
  have e1 : starB (lessF f (k + 1)) = starB (lessF f k) := star_same fun x => starB_iff.1 (hf x)
  have e2 : genB f k = false := by
    cases e : genB f k
    · rfl
    · have hg := genB_iff.1 e
      exact absurd (starB_iff.1 (hf hg.1)) hg.2.2
  have e3 := partsI_miss e2
  exact ⟨h.first, by unfold starRowN; rw [e1]; exact h.row, by rw [e3]; exact h.own, h.ltA, h.lt, h.below⟩
theorem star_pos {f : Nat → Bool} {k : Nat} (h : starB (lessF f k) k = false) : 0 < k := by
  rcases Nat.eq_zero_or_pos k with rfl | e
  · rw [starB_zero] at h; cases h
  · exact e
theorem star_gen_is {f : Nat → Bool} {k : Nat} (hf : f k = true) (h : starB (lessF f k) k = false) : genB f k = true :=
  genB_iff.2 ⟨hf, star_pos h, fun x => by rw [starB_iff.2 x] at h; cases h⟩
/-- Behind an append to the parts. -/
theorem StarLoop.grow {f : Nat → Bool} {A o N M G k : Nat} {w wr w1 : World} {u v' : Value} {ob : Obj} (h : StarLoop f A o N M G k w wr u)
    (hown : w1.ownsRow (G + 1) 3 1 v' ((partsI f k).length + 1) (ints (partsI f k) ++ [.int .i64 k])) (hgrow : (wr.alloc ob).grownBy w1 u.ownBlock) (hg : genB f k = true) :
    w1.ownsRow (G + 1) 3 1 v' (partsI f (k + 1)).length (ints (partsI f (k + 1))) ∧ BRow w1 G (2 * N) (starRowN N f k) ∧ Below (G + 1) wr w1 := by
  have hb : Below (G + 1) wr w1 := ((Below.refl (G + 1) wr).alloc (by have := h.row.lt; omega) ob).grown hgrow (by have := h.row.lt; simp; omega) (fun j hj => (h.own.lt j hj).1)
  refine ⟨by rw [partsI_hit hg, ints_more, List.length_append]; exact hown, h.row.below hb (by omega), hb⟩
/-- A part is added as often as one likes: both slices lie in the same memory. -/
theorem StarLoop.add {f : Nat → Bool} {A o N M G k : Nat} {w wr w1 : World} {u v' : Value} (h : StarLoop f A o N M G k w wr u) (hk : k < N) (hN : N ≤ 100000) (hf : f k = true) (hs : starB (lessF f k) k = false)
    (hown : w1.ownsRow (G + 1) 3 1 v' (partsI f (k + 1)).length (ints (partsI f (k + 1)))) (hrow : BRow w1 G (2 * N) (starRowN N f k)) (hb : Below (G + 1) wr w1) :
    Calls Try.prog 86 #[.slice (some ⟨G, N, none⟩) N N, .slice (some ⟨G, N - k, none⟩) N N] w1 fun e w' =>
      e = .returned (.tuple #[]) ∧ StarLoop f A o N M G (k + 1) w w' v' := by
  have h0 := star_pos hs
  have hlt := h.lt
  have hltA := h.ltA
  refine (add_any G N G (N - k) N (2 * N) N N (starRowN N f k) (starRowN N f (k + 1)) (fun j => decide (k ≤ j) && starB (lessF f (k + 1)) (j - k)) w1 hrow (by omega) hN ?_ ?_ ?_).mono ?_
  · intro j hj
    unfold starRowN behind
    rw [decide_eq_false (by omega), Bool.false_and, Bool.false_and]
  · intro i hi
    unfold starRowN behind
    rw [decide_eq_true (by omega), Bool.true_and, Bool.true_and, show N + i - N = i from by omega]
    exact starB_step hf i
  · intro j w' hj hr he
    rw [hr.cell (i := N - k + j) (by omega)]
    unfold mix
    rw [if_pos (by omega)]
    unfold starRowN
    rw [behind_up (by omega)]
  · rintro e w' ⟨rfl, hr, he⟩
    have hnb : v'.ownBlock ≠ some G := fun x => by have := (hown.lt G x).1; omega
    exact ⟨rfl, (h.first.below hb (by omega)).else he (by omega), hr.congr fun j hj => by unfold mix; rw [if_pos (by omega)], he.own hown hnb, hltA, hlt, he.below (h.below.trans (hb.mono (by omega))) (by omega) hrow.lt⟩

/-- What star answers. -/
def StarN (N : Nat) (f : Nat → Bool) (w : World) (e : Ending) (w' : World) : Prop :=
  ∃ G a c, e = .returned (.tuple #[.slice (some ⟨G, N, none⟩) N N, .slice a (partsI f N).length c]) ∧ BRow w' G (2 * N) (starRowN N f N) ∧
    w'.ownsRow (G + 1) 3 1 (.slice a (partsI f N).length c) (partsI f N).length (ints (partsI f N)) ∧ w.heap.size ≤ G ∧ Below w.heap.size w w'
/-- What starOf answers. -/
def StarOut (f : Nat → Bool) (w : World) (e : Ending) (w' : World) : Prop :=
  ∃ G a c, e = .returned (.tuple #[.slice (some ⟨G, 2001, none⟩) (2001 : Nat) (2001 : Nat), .slice a (partsI f 2001).length c]) ∧ BRow w' G 4002 (starRow f 2001) ∧
    w'.ownsRow (G + 1) 3 1 (.slice a (partsI f 2001).length c) (partsI f 2001).length (ints (partsI f 2001)) ∧ w.heap.size ≤ G ∧ Below w.heap.size w w'

theorem starLoop_start {f : Nat → Bool} {A o N M G : Nat} {w w1 : World} (ha : NumAt w A o N M f) (hb : Below w.heap.size w w1) (hG : w.heap.size ≤ G) (hr : BRow w1 G (2 * N) (behind N zeroOnly)) :
    StarLoop f A o N M G 0 w (w1.alloc (.cells #[] 3)) (.slice (some ⟨w1.heap.size, 0, none⟩) 0 0) := by
  have hlt := hr.lt
  have hs := hb.size
  have hb2 := (Below.refl w1.heap.size w1).alloc (Nat.le_refl _) (.cells #[] 3)
  refine ⟨(ha.step hb).step hb2, ?_, ?_, ha.lt, hG, hb.alloc (by omega) _⟩
  · refine (hr.below hb2 hlt).congr fun j _ => ?_
    unfold starRowN behind
    rw [starB_start]
  · exact World.ownsRow_made (base := G + 1) (e := 3) (size := 1) w1 #[] 0 (by omega) (by decide) rfl

set_option maxRecDepth 100000 in
set_option maxHeartbeats 2000000 in
theorem star_call (A o N M c0 : Nat) (f : Nat → Bool) (w : World) (h : NumAt w A o N M f) (h0 : 0 < N) (hN : N ≤ 100000) :
    Calls Try.prog 74 #[.slice (some ⟨A, o, none⟩) N c0] w (StarN N f w) := by
  obtain ⟨i0, hi, hz0, hz1, hz2⟩ := info_parts Try.infoInt
  have H := Lib.hid h
  clear h
  go_enter Try.func74, Try.ntmps74
  go_wp2_with fail
  refine (numbersOf_any zeroOnly ⟨#[49]⟩ ⟨#[48]⟩ N _ tells_zero hN).mono ?_
  rintro e w1 ⟨G0, rfl, hG0, hr0, hb1⟩
  have HR0 := Lib.hid hr0
  have HB1 := Lib.hid hb1
  clear hr0 hb1
  go_wp2_with fail
  refine (shiftsOf_any G0 N N zeroOnly w1 HR0.out h0 hN).mono ?_
  rintro e w2 ⟨G, rfl, hG, hr, hb2⟩
  have HL0 := Lib.hid (starLoop_start (f := f) (o := o) H.out (HB1.out.trans (hb2.mono HB1.out.size)) (Nat.le_trans HB1.out.size hG) hr)
  clear hr hb2
  go_wp2_with fail
  refine (up_any G N 0 (2 * N) _ (by omega) (by omega) (by omega) (by omega)).mono ?_
  rintro e w3 ⟨rfl, rfl⟩
  rw [Nat.sub_zero]
  go_wp2
  go_loopw [6, 19] (fun v i wr => ∃ k : Nat, k ≤ N ∧ i = .int .i64 k ∧ StarLoop f A o N M G k w wr v) (fun _ i _ => N - (intOf i).toNat)
  case atStart => exact ⟨0, Nat.zero_le _, rfl, HL0.out⟩
  case round =>
    obtain ⟨k, hk, rfl, hl⟩ := hrel
    by_cases hlt : k < N
    · have q0 := hl.first.cell hlt
      have HL4 := Lib.hid hl
      clear hl
      cases hf : f k
      · rw [hf] at q0
        have HL5 := Lib.hid (HL4.out.skip (fun x => by rw [hf] at x; cases x))
        clear hf
        go_wp2
        go_roundw
        case rel => exact ⟨k + 1, by omega, by go_num, HL5.out⟩
        case measure => simp [intOf]; omega
      · rw [hf] at q0
        have HK := Lib.hid hf
        clear hf
        have c1 := HL4.out.row.cell (i := N + k) (by omega)
        have e1 : starRowN N f k (N + k) = starB (lessF f k) k := by unfold starRowN behind; rw [decide_eq_true (by omega), Bool.true_and, show N + k - N = k from by omega]
        rw [e1] at c1
        cases hs : starB (lessF f k) k
        · rw [hs] at c1
          have HS := Lib.hid hs
          have HGen := Lib.hid (star_gen_is HK.out hs)
          have hlen := partsI_len f k
          have hG4 := HL4.out.row.lt
          clear hs e1
          go_wp2_with
            (at_builtin; refine wpList_append_own _ rfl _ _ 30 rfl (G + 1) 3 i0 (.int .i64 0) 1 8 Try.underlying30 hi hz0 hz1 hz2 rfl (by decide) _ _ _ rfl (HL4.out.own.alloc _) ⟨wr.heap.size, 0, none⟩ 1 1 [.int .i64 k] rfl rfl ?c1 ?c2 ?c3 ?c4 ?c5 ?_)
          case c1 =>
            intro j u hj
            match j, hj with
            | 0, hj => simp at hj; subst hj; simp [Addr.add]
          case c2 => intro u hu; simp at hu; subst hu; rfl
          case c3 => unfold maxLen; omega
          case c4 => omega
          case c5 => simp; omega
          intro v' w5 hown5 hgrow _
          obtain ⟨g1, g2, g3⟩ := HL4.out.grow hown5 hgrow HGen.out
          have HAdd := Lib.hid (HL4.out.add hlt hN HK.out HS.out g1 g2 g3)
          clear hown5 hgrow g1 g2 g3
          go_wp2_with fail
          refine (up_any G N k (2 * N) _ (by omega) (by omega) (by omega) (by omega)).mono ?_
          rintro e w6 ⟨rfl, rfl⟩
          go_wp2_with fail
          refine HAdd.out.mono ?_
          rintro e w7 ⟨rfl, hl7⟩
          have HL7 := Lib.hid hl7
          clear hl7 HAdd c1 q0
          go_wp2
          go_roundw
          case rel => exact ⟨k + 1, by omega, by go_num, HL7.out⟩
          case measure => simp [intOf]; omega
        · rw [hs] at c1
          have HL5 := Lib.hid (HL4.out.skip (fun _ => hs))
          clear hs e1
          go_wp2
          go_roundw
          case rel => exact ⟨k + 1, by omega, by go_num, HL5.out⟩
          case measure => simp [intOf]; omega
    · obtain rfl : k = N := by omega
      obtain ⟨a, c, rfl⟩ := own_form hl.own
      have HL := Lib.hid hl
      clear hl
      go_wp2
      go_ret2
      exact ⟨G, a, c, rfl, HL.out.row, HL.out.own, HL.out.lt, HL.out.below⟩

set_option maxRecDepth 100000 in
set_option maxHeartbeats 2000000 in
theorem starOf_any (f : Nat → Bool) (T R : ByteArray) (w : World) (h : Tells f T R) :
    Calls Try.prog 54 #[.agg #[.string T, .string R]] w (StarOut f w) := by
  have H := Lib.hid h
  clear h
  go_enter Try.func54, Try.ntmps54
  go_wp2_with fail
  refine (numbersOf_any f T R 2001 _ H.out (by omega)).mono ?_
  rintro e w1 ⟨G0, rfl, hG0, hr0, hb1⟩
  have HR0 := Lib.hid hr0
  have HB1 := Lib.hid hb1
  clear hr0 hb1
  go_wp2_with fail
  refine (star_call G0 0 2001 2001 2001 f w1 HR0.out.num (by omega) (by omega)).mono ?_
  rintro e w2 ⟨G, a, c, rfl, hr, ho, hG, hb2⟩
  have HR := Lib.hid hr
  have HO := Lib.hid ho
  have HB2 := Lib.hid hb2
  clear hr ho hb2
  have HB1 := HB1
  go_wp2
  go_ret2
  exact ⟨G, a, c, rfl, HR.out, HO.out, by have := HB1.out.size; simp at this; omega, by first | exact HB1.out.trans (HB2.out.mono HB1.out.size) | exact (((Below.refl w.heap.size w).alloc (Nat.le_refl _) _).trans (HB1.out.mono (by simp))).trans (HB2.out.mono (by have := HB1.out.size; simp at this; omega))⟩

end Go.Proofs.Ytojjfkabepkhdaa
