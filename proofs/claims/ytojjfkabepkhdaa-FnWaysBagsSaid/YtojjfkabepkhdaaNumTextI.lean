/-
  The walks of impl.numbersOf, impl.numbers.text and its closure, and impl.smallSet. The walk of impl.smallSet. The walk of impl.numbers.text and of its closure.
-/
import Derived.Test.YtojjfkabepkhdaaBRow
import Derived.Test.YtojjfkabepkhdaaHasI
import Derived.Test.YtojjfkabepkhdaaMade
import Derived.Test.YtojjfkabepkhdaaSetTidyI
import Derived.Test.YtojjfkabepkhdaaTimesMath
import Derived.Test.YtojjfkabepkhdaaToldMath
import Derived.Test.YtojjfkabepkhdaaBetween
set_option linter.unusedVariables false
set_option linter.unusedSimpArgs false
namespace Go.Proofs.Ytojjfkabepkhdaa
open Go.RowKit

/-- The program's parts of a small set, and what they tell. -/
structure SmallParts (f : Nat → Bool) (T R : ByteArray) : Prop where
  tailLe : T.size ≤ 8
  ringLe : R.size ≤ 8
  ringPos : 0 < R.size
  tells : hasB (sb T.data.toList) (sb R.data.toList) = f
  tidy : Tidy f T.size R.size

/-- Parts, and what they tell. -/
structure Tells (f : Nat → Bool) (T R : ByteArray) : Prop where
  tailLe : T.size ≤ 60
  ringLe : R.size ≤ 60
  ringPos : 0 < R.size
  tells : hasB (sb T.data.toList) (sb R.data.toList) = f
theorem SmallParts.parts {f : Nat → Bool} {T R : ByteArray} (h : SmallParts f T R) : Tells f T R := ⟨Nat.le_trans h.tailLe (by decide), Nat.le_trans h.ringLe (by decide), h.ringPos, h.tells⟩
theorem SmallParts.small {f : Nat → Bool} {T R : ByteArray} (h : SmallParts f T R) : Small f := ⟨_, _, h.tidy, h.tailLe, h.ringLe⟩
theorem tells_has {f : Nat → Bool} {T R : ByteArray} (h : Tells f T R) (n : Nat) (W : World) (hn : n ≤ 1000000) :
    Calls Try.prog 58 #[.agg #[.string T, .string R], .int .i64 n] W fun e w' => e = .returned (.bool (f n)) ∧ Below W.heap.size W w' := by
  have := has_any T R n W h.tailLe h.ringLe h.ringPos (by omega)
  rw [hasI_nat, h.tells] at this
  exact this
theorem tells_zero : Tells zeroOnly ⟨#[49]⟩ ⟨#[48]⟩ := by
  refine ⟨by decide, by decide, by decide, ?_⟩
  funext n
  cases n with
  | zero => rfl
  | succ n =>
    have h := hasB_ring [true] [false] n
    rw [show [true].length + n = n + 1 from by simp; omega] at h
    show hasB [true] [false] (n + 1) = zeroOnly (n + 1)
    rw [h]
    unfold zeroOnly
    rw [decide_eq_false (by omega)]
    simp [Nat.mod_one]

/-- The world of numbersOf's loop. -/
structure NumLoop (f : Nat → Bool) (T R : ByteArray) (N k : Nat) (w wr : World) : Prop where
  q0 : wr.cell? ⟨w.heap.size, 0, none⟩ = some (.string T)
  q1 : wr.cell? ⟨w.heap.size, 1, none⟩ = some (.string R)
  row : BRow wr (w.heap.size + 1) N (mix (fun _ => false) f 0 k)
  size : w.heap.size + 2 ≤ wr.heap.size
  below : Below w.heap.size w wr
theorem NumLoop.step {f : Nat → Bool} {T R : ByteArray} {N k : Nat} {w wr w1 : World} (h : NumLoop f T R N k w wr) (hb : Below wr.heap.size wr w1) : NumLoop f T R N k w w1 := by
  have hs := h.size
  have hs1 := hb.size
  exact ⟨(hb.cell (p := ⟨w.heap.size, 0, none⟩) (by show w.heap.size < _; omega)).trans h.q0, (hb.cell (p := ⟨w.heap.size, 1, none⟩) (by show w.heap.size < _; omega)).trans h.q1, h.row.step hb, by omega, h.below.trans (hb.mono (by omega))⟩
theorem NumLoop.store {f : Nat → Bool} {T R : ByteArray} {N k : Nat} {w wr : World} (h : NumLoop f T R N k w wr) : NumLoop f T R N (k + 1) w (wr.setCell ⟨w.heap.size + 1, k, none⟩ (.bool (f k))) := by
  have hs := h.size
  have hr := (h.row.put (0 + k) (f k)).congr fun j _ => mix_put (c := fun _ => false) (d := f) (o := 0) (k := k) (f k) (by rw [Nat.zero_add]) j
  rw [Nat.zero_add] at hr
  exact ⟨(World.cell?_setCell_other _ _ _ _ (by simp)).trans h.q0, (World.cell?_setCell_other _ _ _ _ (by simp)).trans h.q1, hr, by simpa [World.setCell] using hs, h.below.setCell (by show w.heap.size ≤ w.heap.size + 1; omega) _⟩
theorem NumLoop.done {f : Nat → Bool} {T R : ByteArray} {N : Nat} {w wr : World} (h : NumLoop f T R N N w wr) : BRow wr (w.heap.size + 1) N f :=
  h.row.congr fun j hj => by unfold mix; rw [if_pos (by omega)]
theorem numLoop_start (f : Nat → Bool) (T R : ByteArray) (N : Nat) (w : World) : NumLoop f T R N 0 w ((w.alloc (.cells #[.string T, .string R] 41)).alloc (.cells (madeCells #[.bool false] N) 4)) := by
  refine ⟨?_, ?_, ?_, by simp, ?_⟩
  · rw [World.cell?_alloc_past _ _ _ (by simp), World.cell?_alloc_at _ _ _ _ rfl]; rfl
  · rw [World.cell?_alloc_past _ _ _ (by simp), World.cell?_alloc_at _ _ _ _ rfl]; rfl
  · have := bRow_new (w.alloc (.cells #[.string T, .string R] 41)) N
    rw [World.size_alloc] at this
    exact this.congr fun j _ => mix_zero (c := fun _ => false) (fun j hj => absurd hj (Nat.not_lt_zero _)) j
  · exact ((Below.refl _ _).alloc (Nat.le_refl _) _).alloc (by simp) _

set_option maxRecDepth 100000 in
set_option maxHeartbeats 1000000 in
theorem numbersOf_any (f : Nat → Bool) (T R : ByteArray) (N : Nat) (w : World) (h : Tells f T R) (hN : N ≤ 100000) :
    Calls Try.prog 73 #[.agg #[.string T, .string R], .int .i64 N] w fun e w' =>
      ∃ G, e = .returned (.slice (some ⟨G, 0, none⟩) N N) ∧ w.heap.size ≤ G ∧ BRow w' G N f ∧ Below w.heap.size w w' := by
  obtain ⟨i0, hi, hz0, hz1, hz2⟩ := info_parts Try.infoBool
  have H := Lib.hid h
  clear h
  go_enter Try.func73, Try.ntmps73
  go_wp2_with (at_make; refine wpList_make_row _ rfl _ _ 59 rfl 4 i0 (.bool false) Try.underlying59 hi hz0 hz1 rfl .i64 .i64 N rfl rfl ?b1 ?b2 ?_)
  case b1 => rw [hz2]; omega
  case b2 => omega
  have HL0 := Lib.hid (numLoop_start f T R N w)
  go_wp2
  go_loopw [11] (fun i wr => ∃ k : Nat, k ≤ N ∧ i = .int .i64 k ∧ NumLoop f T R N k w wr) (fun i _ => N - (intOf i).toNat)
  case atStart => exact ⟨0, Nat.zero_le _, rfl, HL0.out⟩
  case round =>
    obtain ⟨k, hk, rfl, hl⟩ := hrel
    by_cases hlt : k < N
    · have q0 := hl.q0; have q1 := hl.q1
      have HL := Lib.hid hl
      clear hl
      go_wp2_with fail
      refine (tells_has H.out k _ (by omega)).mono ?_
      rintro e w3 ⟨rfl, hb3⟩
      have HL3 := Lib.hid (HL.out.step hb3)
      have hu := HL3.out.row.cell hlt
      have hf := HL3.out.row.free k
      have HL4 := Lib.hid HL3.out.store
      clear hb3 q0 q1
      go_wp2
      go_roundw
      case rel => exact ⟨k + 1, by omega, by go_num, HL4.out⟩
      case measure => simp [intOf]; omega
    · obtain rfl : k = N := by omega
      have HL := Lib.hid hl
      clear hl
      go_wp2
      go_ret
      exact ⟨_, rfl, by simp, HL.out.done, HL.out.below⟩

theorem tidyText_sizes {f : Nat → Bool} {T : ByteArray} (h : TidyText f T) : Tidy f (setT T).length (setR T).length := by
  obtain ⟨m, q, ht, hm, hq, rfl⟩ := h
  have hT := textOf_isText (part f 0 m) (part f m q) (by rw [part_length]; exact hm) (by rw [part_length]; exact hq) (by rw [part_length]; exact ht.pos)
  have e1 : setTail (textOf (part f 0 m) (part f m q)) = signsOf (part f 0 m) := text_tail hT
  have e2 : setRing (textOf (part f 0 m) (part f m q)) = signsOf (part f m q) := text_ring hT
  have e3 : (setT ⟨(textOf (part f 0 m) (part f m q)).toArray⟩).length = m := by
    show (sb (setTail (textOf (part f 0 m) (part f m q)))).length = m
    rw [e1, sb_signsOf, part_length]
  have e4 : (setR ⟨(textOf (part f 0 m) (part f m q)).toArray⟩).length = q := by
    show (sb (setRing (textOf (part f 0 m) (part f m q)))).length = q
    rw [e2, sb_signsOf, part_length]
  rw [e3, e4]; exact ht
theorem split_parts {s U T R : ByteArray} (hU : TidyText (fS s) U) (h : IsSplit U T R) : Tidy (fS s) T.size R.size ∧ (T.size ≤ 8 → R.size ≤ 8 → SmallParts (fS s) T R) := by
  have ht := tidyText_sizes hU
  rw [h.tailLen, h.ringLen] at ht
  refine ⟨ht, fun h1 h2 => ⟨h1, h2, h.ringPos, ?_, ht⟩⟩
  rw [h.tail, h.ring]
  exact hU.told.set

theorem sbox_cells {w w1 : World} {T R x y : ByteArray} {ty ty2 : TypeId} (h1 : w.heap.size < w1.heap.size) (hb : Below (w.alloc (.cells #[.string x, .string y] ty)).heap.size (w.alloc (.cells #[.string x, .string y] ty)) w1) :
    (w1.alloc (.cells #[.string T, .string R] ty2)).cell? ⟨w.heap.size, 0, none⟩ = some (.string x) ∧ (w1.alloc (.cells #[.string T, .string R] ty2)).cell? ⟨w.heap.size, 1, none⟩ = some (.string y) ∧ ∀ i, (w1.alloc (.cells #[.string T, .string R] ty2)).frozen? ⟨w.heap.size, i, none⟩ = false := by
  have hb2 := hb.alloc hb.size (.cells #[.string T, .string R] ty2)
  obtain ⟨e1, e2⟩ := box_later hb2
  refine ⟨e1, e2, fun i => ?_⟩
  rw [hb2.frozen (p := ⟨w.heap.size, i, none⟩) (by show w.heap.size < _; simp)]
  exact frozen_of_row _ _ _ _ _ (heap_alloc_new w _)
theorem set_cellsI {w : World} {g : Nat} {u v x y : Value} (h0 : w.cell? ⟨g, 0, none⟩ = some u) (h1 : w.cell? ⟨g, 1, none⟩ = some v) :
    ((w.setCell ⟨g, 0, none⟩ x).setCell ⟨g, 1, none⟩ y).cell? ⟨g, 0, none⟩ = some x ∧ ((w.setCell ⟨g, 0, none⟩ x).setCell ⟨g, 1, none⟩ y).cell? ⟨g, 1, none⟩ = some y := by
  have e1 : (w.setCell ⟨g, 0, none⟩ x).cell? ⟨g, 1, none⟩ = some v := (World.cell?_setCell_other _ _ _ _ (by simp)).trans h1
  exact ⟨(World.cell?_setCell_other _ _ _ _ (by simp)).trans (World.cell?_setCell_same' _ _ _ (by rw [h0]; rfl)), World.cell?_setCell_same' _ _ _ (by rw [e1]; rfl)⟩

/-- What a second box leaves of the first one, which is then written. -/
theorem small_set {w w1 w2 : World} {x y : ByteArray} {ty ty2 : TypeId} (T R X Y : ByteArray) (hb : Below (w.alloc (.cells #[.string x, .string y] ty)).heap.size (w.alloc (.cells #[.string x, .string y] ty)) w1) (hb2 : Below w1.heap.size w1 w2) :
    ((w2.alloc (.cells #[.string T, .string R] ty2)).cell? ⟨w.heap.size, 0, none⟩ = some (.string x) ∧ (w2.alloc (.cells #[.string T, .string R] ty2)).cell? ⟨w.heap.size, 1, none⟩ = some (.string y) ∧ ∀ i, (w2.alloc (.cells #[.string T, .string R] ty2)).frozen? ⟨w.heap.size, i, none⟩ = false) ∧
    Below w.heap.size w (((w2.alloc (.cells #[.string T, .string R] ty2)).setCell ⟨w.heap.size, 0, none⟩ (.string X)).setCell ⟨w.heap.size, 1, none⟩ (.string Y)) ∧
    ((((w2.alloc (.cells #[.string T, .string R] ty2)).setCell ⟨w.heap.size, 0, none⟩ (.string X)).setCell ⟨w.heap.size, 1, none⟩ (.string Y)).cell? ⟨w.heap.size, 0, none⟩ = some (.string X) ∧
      (((w2.alloc (.cells #[.string T, .string R] ty2)).setCell ⟨w.heap.size, 0, none⟩ (.string X)).setCell ⟨w.heap.size, 1, none⟩ (.string Y)).cell? ⟨w.heap.size, 1, none⟩ = some (.string Y)) := by
  have hbb := hb.trans (hb2.mono hb.size)
  have hs := hbb.size
  simp at hs
  have h3 := sbox_cells (T := T) (R := R) (ty2 := ty2) (by omega) hbb
  refine ⟨h3, ?_, set_cellsI h3.1 h3.2.1⟩
  exact ((((Below.refl w.heap.size w).alloc (Nat.le_refl _) _).trans (hbb.mono (by simp))).alloc (by omega) _).setCell (p := ⟨w.heap.size, 0, none⟩) (Nat.le_refl _) _ |>.setCell (p := ⟨w.heap.size, 1, none⟩) (Nat.le_refl _) _

def SmallEnd (s : ByteArray) (e : Ending) : Prop := ∃ T R, e = .returned (.tuple #[.agg #[.string T, .string R], .bool (smallS s)]) ∧ (smallS s = true → SmallParts (fS s) T R)

set_option maxHeartbeats 400000 in
theorem smallSet_off (s : ByteArray) (m : Int) (w : World) (hs : s.size ≤ 1048576) (hL : LibAt m w) (h : okS s = false) :
    Calls Try.prog 52 #[.string s] w fun e w' => SmallEnd s e ∧ Below w.heap.size w w' := by
  have HS8 := Lib.hid (smallS_off h)
  go_enter Try.func52, Try.ntmps52
  go_wp2_with fail
  refine (implTidy_off s m _ hs (hL.alloc _) h).mono ?_
  rintro e w1 ⟨rfl, hb1⟩
  have hL1 := (hL.alloc _).below hb1
  have HB1 := Lib.hid hb1
  clear hb1
  go_wp2_with fail
  refine (split_off ⟨#[]⟩ m _ (by decide) hL1 (by decide)).mono ?_
  rintro e w2 ⟨rfl, hb2⟩
  obtain ⟨⟨q0, q1, hf⟩, hB2, hF⟩ := small_set (ty2 := 41) ⟨#[]⟩ ⟨#[]⟩ ⟨#[]⟩ ⟨#[]⟩ HB1.out hb2
  have HB2 := Lib.hid hB2
  have HF := Lib.hid hF
  clear hb2 hB2 hF
  go_wp2
  generalize ((w2.alloc _).setCell ⟨w.heap.size, 0, none⟩ _).setCell ⟨w.heap.size, 1, none⟩ _ = wF at HB2 HF ⊢
  obtain ⟨f0, f1⟩ := HF.out
  exact bodyPost_ret (v := .tuple #[.agg #[.string ⟨#[]⟩, .string ⟨#[]⟩], .bool false]) (by simp [results, Try.results52, go_sem, f0, f1]) rfl ⟨⟨⟨#[]⟩, ⟨#[]⟩, by rw [HS8.out], fun x => by rw [HS8.out] at x; cases x⟩, HB2.out⟩

set_option maxHeartbeats 1000000 in
theorem smallSet_on (s : ByteArray) (m : Int) (w : World) (hs : s.size ≤ 1048576) (hL : LibAt m w) (h : okS s = true) :
    Calls Try.prog 52 #[.string s] w fun e w' => SmallEnd s e ∧ Below w.heap.size w w' := by
  obtain ⟨m0, q00, ht0, hm0, hq0⟩ := tidy_there h
  obtain ⟨U, hU⟩ : ∃ U, TidyText (fS s) U := ⟨_, m0, q00, ht0, hm0, hq0, rfl⟩
  have hUs : U.size ≤ 1048576 := by have := tidyText_short h hU; omega
  have HU := Lib.hid hU
  clear hU ht0 hm0 hq0
  go_enter Try.func52, Try.ntmps52
  go_wp2_with fail
  refine (implTidy_on s U m _ hs (hL.alloc _) h HU.out).mono ?_
  rintro e w1 ⟨rfl, hb1⟩
  have hL1 := (hL.alloc _).below hb1
  have HB1 := Lib.hid hb1
  clear hb1
  go_wp2_with fail
  refine (split_on U m _ hUs hL1 HU.out.told.ok).mono ?_
  rintro e w2 ⟨T, R, rfl, hb2, hsp⟩
  obtain ⟨ht, hgood⟩ := split_parts HU.out hsp
  by_cases h1 : T.size ≤ 8
  · by_cases h2 : R.size ≤ 8
    · have HS8 := Lib.hid (smallS_on h ht ⟨h1, h2⟩)
      have HG := Lib.hid (hgood h1 h2)
      have i1 : ¬ (8 : Int) < (T.size : Int) := by omega
      have i2 : ¬ (8 : Int) < (R.size : Int) := by omega
      clear ht hgood hsp
      obtain ⟨⟨q0, q1, hf⟩, hB2, hF⟩ := small_set (ty2 := 41) T R T R HB1.out hb2
      have HB2 := Lib.hid hB2
      have HF := Lib.hid hF
      clear hb2 hB2 hF
      go_wp2
      generalize ((w2.alloc _).setCell ⟨w.heap.size, 0, none⟩ _).setCell ⟨w.heap.size, 1, none⟩ _ = wF at HB2 HF ⊢
      obtain ⟨f0, f1⟩ := HF.out
      exact bodyPost_ret (v := .tuple #[.agg #[.string T, .string R], .bool true]) (by simp [results, Try.results52, go_sem, f0, f1]) rfl ⟨⟨T, R, by rw [HS8.out], fun _ => HG.out⟩, HB2.out⟩
    · have HS8 := Lib.hid (smallS_not ht (fun x => h2 x.2))
      have i1 : ¬ (8 : Int) < (T.size : Int) := by omega
      have i2 : (8 : Int) < (R.size : Int) := by omega
      clear ht hgood hsp
      obtain ⟨⟨q0, q1, hf⟩, hB2, hF⟩ := small_set (ty2 := 41) T R ⟨#[]⟩ ⟨#[]⟩ HB1.out hb2
      have HB2 := Lib.hid hB2
      have HF := Lib.hid hF
      clear hb2 hB2 hF
      go_wp2
      generalize ((w2.alloc _).setCell ⟨w.heap.size, 0, none⟩ _).setCell ⟨w.heap.size, 1, none⟩ _ = wF at HB2 HF ⊢
      obtain ⟨f0, f1⟩ := HF.out
      exact bodyPost_ret (v := .tuple #[.agg #[.string ⟨#[]⟩, .string ⟨#[]⟩], .bool false]) (by simp [results, Try.results52, go_sem, f0, f1]) rfl ⟨⟨⟨#[]⟩, ⟨#[]⟩, by rw [HS8.out], fun x => by rw [HS8.out] at x; cases x⟩, HB2.out⟩
  · have HS8 := Lib.hid (smallS_not ht (fun x => h1 x.1))
    have i1 : (8 : Int) < (T.size : Int) := by omega
    clear ht hgood hsp
    obtain ⟨⟨q0, q1, hf⟩, hB2, hF⟩ := small_set (ty2 := 41) T R ⟨#[]⟩ ⟨#[]⟩ HB1.out hb2
    have HB2 := Lib.hid hB2
    have HF := Lib.hid hF
    clear hb2 hB2 hF
    go_wp2
    generalize ((w2.alloc _).setCell ⟨w.heap.size, 0, none⟩ _).setCell ⟨w.heap.size, 1, none⟩ _ = wF at HB2 HF ⊢
    obtain ⟨f0, f1⟩ := HF.out
    exact bodyPost_ret (v := .tuple #[.agg #[.string ⟨#[]⟩, .string ⟨#[]⟩], .bool false]) (by simp [results, Try.results52, go_sem, f0, f1]) rfl ⟨⟨⟨#[]⟩, ⟨#[]⟩, by rw [HS8.out], fun x => by rw [HS8.out] at x; cases x⟩, HB2.out⟩

theorem smallSet_any (s : ByteArray) (m : Int) (w : World) (hs : s.size ≤ 1048576) (hL : LibAt m w) :
    Calls Try.prog 52 #[.string s] w fun e w' => SmallEnd s e ∧ Below w.heap.size w w' := by
  cases h : okS s
  · exact smallSet_off s m w hs hL h
  · exact smallSet_on s m w hs hL h

end Go.Proofs.Ytojjfkabepkhdaa
