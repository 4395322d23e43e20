/-
  The walks of impl.numbersOf, impl.numbers.text and its closure, and impl.smallSet.
-/
import Derived.Test.YtonphojjlilcnabBRow
import Derived.Test.YtonphojjlilcnabHasI
import Derived.Test.YtonphojjlilcnabMade
import Derived.Test.YtonphojjlilcnabSetTidyI
import Derived.Test.YtonphojjlilcnabSumMath
set_option linter.unusedVariables false
set_option linter.unusedSimpArgs false
namespace Go.Proofs.Ytonphojjlilcnab
open Go.RowKit

/-- The program's parts of a small set, and what they tell. -/
structure SmallParts (f : Nat → Bool) (T R : ByteArray) : Prop where
  tailLe : T.size ≤ 8
  ringLe : R.size ≤ 8
  ringPos : 0 < R.size
  tells : hasB (sb T.data.toList) (sb R.data.toList) = f
  tidy : Tidy f T.size R.size

/-- Parts, and what they tell. -/
structure Tells (f : Nat → Bool) (T R : ByteArray) : Prop where
  tailLe : T.size ≤ 60
  ringLe : R.size ≤ 60
  ringPos : 0 < R.size
  tells : hasB (sb T.data.toList) (sb R.data.toList) = f
theorem SmallParts.parts {f : Nat → Bool} {T R : ByteArray} (h : SmallParts f T R) : Tells f T R := ⟨Nat.le_trans h.tailLe (by decide), Nat.le_trans h.ringLe (by decide), h.ringPos, h.tells⟩
theorem SmallParts.small {f : Nat → Bool} {T R : ByteArray} (h : SmallParts f T R) : Small f := ⟨_, _, h.tidy, h.tailLe, h.ringLe⟩
theorem tells_has {f : Nat → Bool} {T R : ByteArray} (h : Tells f T R) (n : Nat) (W : World) (hn : n ≤ 1000000) :
    Calls Try.prog 39 #[.agg #[.string T, .string R], .int .i64 n] W fun e w' => e = .returned (.bool (f n)) ∧ Below W.heap.size W w' := by
  have := has_any T R n W h.tailLe h.ringLe h.ringPos (by omega)
  rw [hasI_nat, h.tells] at this
  exact this
theorem tells_zero : Tells zeroOnly ⟨#[49]⟩ ⟨#[48]⟩ := by
  refine ⟨by decide, by decide, by decide, ?_⟩
  funext n
  cases n with
  | zero => rfl
  | succ n =>
    have h := hasB_ring [true] [false] n
    rw [show [true].length + n = n + 1 from by simp; omega] at h
    show hasB [true] [false] (n + 1) = zeroOnly (n + 1)
    rw [h]
    unfold zeroOnly
    rw [decide_eq_false (by omega)]
    simp [Nat.mod_one]

/-- The world of numbersOf's loop. -/
structure NumLoop (f : Nat → Bool) (T R : ByteArray) (N k : Nat) (w wr : World) : Prop where
  q0 : wr.cell? ⟨w.heap.size, 0, none⟩ = some (.string T)
  q1 : wr.cell? ⟨w.heap.size, 1, none⟩ = some (.string R)
  row : BRow wr (w.heap.size + 1) N (mix (fun _ => false) f 0 k)
  size : w.heap.size + 2 ≤ wr.heap.size
  below : Below w.heap.size w wr
theorem NumLoop.step {f : Nat → Bool} {T R : ByteArray} {N k : Nat} {w wr w1 : World} (h : NumLoop f T R N k w wr) (hb : Below wr.heap.size wr w1) : NumLoop f T R N k w w1 := by
  have hs := h.size
  have hs1 := hb.size
  exact ⟨(hb.cell (p := ⟨w.heap.size, 0, none⟩) (by show w.heap.size < _; omega)).trans h.q0, (hb.cell (p := ⟨w.heap.size, 1, none⟩) (by show w.heap.size < _; omega)).trans h.q1, h.row.step hb, by omega, h.below.trans (hb.mono (by omega))⟩
theorem NumLoop.store {f : Nat → Bool} {T R : ByteArray} {N k : Nat} {w wr : World} (h : NumLoop f T R N k w wr) : NumLoop f T R N (k + 1) w (wr.setCell ⟨w.heap.size + 1, k, none⟩ (.bool (f k))) := by
  have hs := h.size
  have hr := (h.row.put (0 + k) (f k)).congr fun j _ => mix_put (c := fun _ => false) (d := f) (o := 0) (k := k) (f k) (by rw [Nat.zero_add]) j
  rw [Nat.zero_add] at hr
  exact ⟨(World.cell?_setCell_other _ _ _ _ (by simp)).trans h.q0, (World.cell?_setCell_other _ _ _ _ (by simp)).trans h.q1, hr, by simpa [World.setCell] using hs, h.below.setCell (by show w.heap.size ≤ w.heap.size + 1; omega) _⟩
theorem NumLoop.done {f : Nat → Bool} {T R : ByteArray} {N : Nat} {w wr : World} (h : NumLoop f T R N N w wr) : BRow wr (w.heap.size + 1) N f :=
  h.row.congr fun j hj => by unfold mix; rw [if_pos (by omega)]
theorem numLoop_start (f : Nat → Bool) (T R : ByteArray) (N : Nat) (w : World) : NumLoop f T R N 0 w ((w.alloc (.cells #[.string T, .string R] 40)).alloc (.cells (madeCells #[.bool false] N) 4)) := by
  refine ⟨?_, ?_, ?_, by simp, ?_⟩
  · rw [World.cell?_alloc_past _ _ _ (by simp), World.cell?_alloc_at _ _ _ _ rfl]; rfl
  · rw [World.cell?_alloc_past _ _ _ (by simp), World.cell?_alloc_at _ _ _ _ rfl]; rfl
  · have := bRow_new (w.alloc (.cells #[.string T, .string R] 40)) N
    rw [World.size_alloc] at this
    exact this.congr fun j _ => mix_zero (c := fun _ => false) (fun j hj => absurd hj (Nat.not_lt_zero _)) j
  · exact ((Below.refl _ _).alloc (Nat.le_refl _) _).alloc (by simp) _

set_option maxRecDepth 100000 in
set_option maxHeartbeats 1000000 in
theorem numbersOf_any (f : Nat → Bool) (T R : ByteArray) (N : Nat) (w : World) (h : Tells f T R) (hN : N ≤ 100000) :
    Calls Try.prog 27 #[.agg #[.string T, .string R], .int .i64 N] w fun e w' =>
      ∃ G, e = .returned (.slice (some ⟨G, 0, none⟩) N N) ∧ w.heap.size ≤ G ∧ BRow w' G N f ∧ Below w.heap.size w w' := by
  obtain ⟨i0, hi, hz0, hz1, hz2⟩ := info_parts Try.infoBool
  have H := Lib.hid h
  clear h
  go_enter Try.func27, Try.ntmps27
  go_wp2_with (at_make; refine wpList_make_row _ rfl _ _ 43 rfl 4 i0 (.bool false) Try.underlying43 hi hz0 hz1 rfl .i64 .i64 N rfl rfl ?b1 ?b2 ?_)
  case b1 => rw [hz2]; omega
  case b2 => omega
  have HL0 := Lib.hid (numLoop_start f T R N w)
  go_wp2
  go_loopw [11] (fun i wr => ∃ k : Nat, k ≤ N ∧ i = .int .i64 k ∧ NumLoop f T R N k w wr) (fun i _ => N - (intOf i).toNat)
  case atStart => exact ⟨0, Nat.zero_le _, rfl, HL0.out⟩
  case round =>
    obtain ⟨k, hk, rfl, hl⟩ := hrel
    by_cases hlt : k < N
    · have q0 := hl.q0; have q1 := hl.q1
      have HL := Lib.hid hl
      clear hl
      go_wp2_with fail
      refine (tells_has H.out k _ (by omega)).mono ?_
      rintro e w3 ⟨rfl, hb3⟩
      have HL3 := Lib.hid (HL.out.step hb3)
      have hu := HL3.out.row.cell hlt
      have hf := HL3.out.row.free k
      have HL4 := Lib.hid HL3.out.store
      clear hb3 q0 q1
      go_wp2
      go_roundw
      case rel => exact ⟨k + 1, by omega, by go_num, HL4.out⟩
      case measure => simp [intOf]; omega
    · obtain rfl : k = N := by omega
      have HL := Lib.hid hl
      clear hl
      go_wp2
      go_ret
      exact ⟨_, rfl, by simp, HL.out.done, HL.out.below⟩

end Go.Proofs.Ytonphojjlilcnab
