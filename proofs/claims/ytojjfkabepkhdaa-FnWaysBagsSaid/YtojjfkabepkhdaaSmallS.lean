/-
  The walk of spec.l4Small; what a small set of the model's is, and what it has.
-/
import Derived.Test.YtojjfkabepkhdaaReadLess
import Derived.Test.YtojjfkabepkhdaaTimesMath
import Derived.Test.YtojjfkabepkhdaaHasS
import Derived.Laws.Rows
import Derived.Test.YtojjfkabepkhdaaToldMath
set_option linter.unusedVariables false
set_option linter.unusedSimpArgs false
namespace Go.Proofs.Ytojjfkabepkhdaa
open Go.RowKit

/-- A small set of the model's, in memory. -/
structure SmallIn (w : World) (f : Nat → Bool) (a1 : Option Addr) (n1 : Nat) (a2 : Option Addr) (n2 : Nat) : Prop where
  tidy : Tidy f n1 n2
  tail : Reads w a1 n1 (part f 0 n1)
  ring : Reads w a2 n2 (part f n1 n2)
  le1 : n1 ≤ 8
  le2 : n2 ≤ 8
theorem SmallIn.below {w w' : World} {f : Nat → Bool} {a1 a2 : Option Addr} {n1 n2 B : Nat} (h : SmallIn w f a1 n1 a2 n2) (hb : Below B w w') (hB : w.heap.size ≤ B) : SmallIn w' f a1 n1 a2 n2 :=
  ⟨h.tidy, h.tail.below hb hB, h.ring.below hb hB, h.le1, h.le2⟩
theorem SmallIn.alloc {w : World} {f : Nat → Bool} {a1 a2 : Option Addr} {n1 n2 : Nat} (h : SmallIn w f a1 n1 a2 n2) (o : Obj) : SmallIn (w.alloc o) f a1 n1 a2 n2 := h.below ((Below.refl w.heap.size w).alloc (Nat.le_refl _) o) (Nat.le_refl _)
theorem SmallIn.drew {w : World} {f : Nat → Bool} {a1 a2 : Option Addr} {n1 n2 : Nat} (h : SmallIn w f a1 n1 a2 n2) : SmallIn w.drew f a1 n1 a2 n2 := h.below (Below.refl w.heap.size w).drew (Nat.le_refl _)
theorem SmallIn.small {w : World} {f : Nat → Bool} {a1 a2 : Option Addr} {n1 n2 : Nat} (h : SmallIn w f a1 n1 a2 n2) : Small f := ⟨n1, n2, h.tidy, h.le1, h.le2⟩

theorem small_out {w2 : World} {f : Nat → Bool} {b1 b2 : Option Addr} {m e1 q e2 g : Nat} {o : Obj} {p p' : Option Addr} {k k' c c' : Nat} {x y : Value} (h : LessOut w2 f b1 m e1 b2 q e2) (hm : m ≤ 8) (hq : q ≤ 8)
    (h0 : (w2.alloc o).cell? ⟨g, 0, none⟩ = some (.slice p k c)) (h1 : (w2.alloc o).cell? ⟨g, 1, none⟩ = some (.slice p' k' c')) : SmallIn (((w2.alloc o).setCell ⟨g, 0, none⟩ x).setCell ⟨g, 1, none⟩ y) f b1 m b2 q := by
  have hl := h.lies.below (B := w2.heap.size) ((Below.refl _ _).alloc (Nat.le_refl _) o) (Nat.le_refl _)
  exact ⟨h.tidy, hl.tail.set h0 h1, hl.ring.set h0 h1, hm, hq⟩
/-- What a small set of the model's has. -/
theorem small_has {f : Nat → Bool} {a1 a2 : Option Addr} {n1 c1 n2 c2 : Nat} (k : Nat) {w : World} (h : SmallIn w f a1 n1 a2 n2) (hk : k ≤ 1000000) :
    Calls Try.prog 51 #[.agg #[.slice a1 n1 c1, .slice a2 n2 c2], .int .i64 k] w fun e w' => e = .returned (.bool (f k)) ∧ Below w.heap.size w w' := by
  have h1 := h.le1
  have h2 := h.le2
  have := l1Has_any a1 a2 n1 c1 n2 c2 _ _ k w h.tail h.ring (by omega) (by omega) h.tidy.pos (by omega)
  rw [fS_part h.tidy] at this
  exact this

/-- The box of a result, behind what a call has laid. -/
theorem result_box {w w1 : World} {u v : Value} {T : TypeId} (hb : Below (w.alloc (.cells #[u, v] T)).heap.size (w.alloc (.cells #[u, v] T)) w1) :
    (w1.cell? ⟨w.heap.size, 0, none⟩ = some u ∧ w1.cell? ⟨w.heap.size, 1, none⟩ = some v) ∧ (∀ i, w1.frozen? ⟨w.heap.size, i, none⟩ = false) ∧ w.heap.size + 1 ≤ w1.heap.size := by
  have hs := hb.size
  simp at hs
  refine ⟨box_later hb, fun i => ?_, hs⟩
  rw [hb.frozen (p := ⟨w.heap.size, i, none⟩) (by show w.heap.size < _; simp)]
  exact frozen_of_row _ _ _ _ _ (heap_alloc_new w _)
theorem result_set {w w1 : World} {o : Obj} (hb : Below (w.alloc o).heap.size (w.alloc o) w1) (x y : Value) : Below w.heap.size w ((w1.setCell ⟨w.heap.size, 0, none⟩ x).setCell ⟨w.heap.size, 1, none⟩ y) :=
  (((Below.refl w.heap.size w).alloc (Nat.le_refl _) o).trans (hb.mono (by simp))).setCell (Nat.le_refl _) x |>.setCell (Nat.le_refl _) y

set_option maxHeartbeats 400000 in
theorem l4Small_off (s : ByteArray) (w : World) (hs : s.size ≤ 1048576) (h : okS s = false) :
    Calls Try.prog 66 #[.string s] w fun e w' => ∃ a1 n1 c1 a2 n2 c2, e = .returned (.tuple #[.agg #[.slice a1 n1 c1, .slice a2 n2 c2], .bool (smallS s)]) ∧ Below w.heap.size w w' ∧
      (smallS s = true → SmallIn w' (fS s) a1 n1 a2 n2) := by
  rw [smallS_off h]
  go_enter Try.func66, Try.ntmps66
  go_wp2_with fail
  refine (read_off s _ hs h).mono ?_
  rintro e w1 ⟨a1, n1, c1, a2, n2, c2, rfl, hb⟩
  have hb1 := hb.alloc hb.size (.cells #[.slice a1 n1 c1, .slice a2 n2 c2] 48)
  obtain ⟨⟨q0, q1⟩, hf, hsz⟩ := result_box hb1
  have HB := Lib.hid (result_set hb1 (.slice a1 n1 c1) (.slice a2 n2 c2))
  have HF := Lib.hid (set_cells (x := .slice a1 n1 c1) (y := .slice a2 n2 c2) q0 q1)
  clear hb hb1
  go_wp2
  generalize ((w1.alloc _).setCell ⟨w.heap.size, 0, none⟩ _).setCell ⟨w.heap.size, 1, none⟩ _ = wF at HB HF ⊢
  obtain ⟨f0, f1⟩ := HF.out
  refine bodyPost_ret (v := .tuple #[.agg #[.slice a1 n1 c1, .slice a2 n2 c2], .bool false]) (by simp [results, Try.results66, go_sem, f0, f1]) rfl ⟨a1, n1, c1, a2, n2, c2, rfl, HB.out, fun h => by cases h⟩

set_option maxHeartbeats 400000 in
theorem l4Small_on (s : ByteArray) (w : World) (hs : s.size ≤ 1048576) (h : okS s = true) :
    Calls Try.prog 66 #[.string s] w fun e w' => ∃ a1 n1 c1 a2 n2 c2, e = .returned (.tuple #[.agg #[.slice a1 n1 c1, .slice a2 n2 c2], .bool (smallS s)]) ∧ Below w.heap.size w w' ∧
      (smallS s = true → SmallIn w' (fS s) a1 n1 a2 n2) := by
  go_enter Try.func66, Try.ntmps66
  go_wp2_with fail
  refine (read_less s _ hs h).mono ?_
  rintro e w1 ⟨a1, n1, c1, a2, n2, c2, rfl, hb, hr⟩
  have HB := Lib.hid hb
  have HR := Lib.hid (hr.below (B := w1.heap.size) ((Below.refl _ _).alloc (Nat.le_refl _) (.cells #[.slice a1 n1 c1, .slice a2 n2 c2] 48)) (Nat.le_refl _))
  clear hb hr
  go_wp2_with fail
  refine (less_on s a1 n1 c1 a2 n2 c2 _ HR.out).mono ?_
  rintro e w2 ⟨b1, m, e1, b2, q, e2, rfl, hb2, hout⟩
  have hbb := ((HB.out.alloc HB.out.size (.cells #[.slice a1 n1 c1, .slice a2 n2 c2] 48)).trans (hb2.mono (by have := HB.out.size; simp at this ⊢; omega)))
  have hb3 := hbb.alloc hbb.size (.cells #[.slice b1 m e1, .slice b2 q e2] 48)
  obtain ⟨⟨q0, q1⟩, hf, hsz⟩ := result_box hb3
  have HS := Lib.hid (result_set hb3 (.slice b1 m e1) (.slice b2 q e2))
  have HF := Lib.hid (set_cells (x := .slice b1 m e1) (y := .slice b2 q e2) q0 q1)
  have HO := Lib.hid hout
  have hne : w.heap.size ≠ w2.heap.size := by have := hb2.size; have := HB.out.size; simp at *; omega
  have d0 := other_cell (x := .slice b1 m e1) (y := .slice b2 q e2) hne (show (w2.alloc (.cells #[.slice b1 m e1, .slice b2 q e2] 48)).cell? ⟨w2.heap.size, 0, none⟩ = some (.slice b1 m e1) by rw [World.cell?_alloc_at _ _ _ _ rfl]; rfl)
  have d1 := other_cell (x := .slice b1 m e1) (y := .slice b2 q e2) hne (show (w2.alloc (.cells #[.slice b1 m e1, .slice b2 q e2] 48)).cell? ⟨w2.heap.size, 1, none⟩ = some (.slice b2 q e2) by rw [World.cell?_alloc_at _ _ _ _ rfl]; rfl)
  clear hb2 hout hb3 hbb hne
  have HSM := Lib.hid (fun hm hq => small_out (x := .slice b1 m e1) (y := .slice b2 q e2) HO.out hm hq q0 q1)
  by_cases hm : m ≤ 8
  · have hmi : (m : Int) ≤ 8 := by omega
    by_cases hq : q ≤ 8
    · have hqi : (q : Int) ≤ 8 := by omega
      have HB8 := Lib.hid (smallS_on h HO.out.tidy ⟨hm, hq⟩)
      go_wp2
      go_region
      go_wp2
      generalize ((w2.alloc _).setCell ⟨w.heap.size, 0, none⟩ _).setCell ⟨w.heap.size, 1, none⟩ _ = wF at HS HF HSM ⊢
      obtain ⟨f0, f1⟩ := HF.out
      refine bodyPost_ret (v := .tuple #[.agg #[.slice b1 m e1, .slice b2 q e2], .bool true]) (by simp [results, Try.results66, go_sem, f0, f1]) rfl ⟨b1, m, e1, b2, q, e2, by rw [HB8.out], HS.out.drew, fun _ => (HSM.out hm hq).drew⟩
    · have hqi : ¬ (q : Int) ≤ 8 := by omega
      have hqd : decide ((q : Int) ≤ 8) = false := decide_eq_false hqi
      have HB8 := Lib.hid (smallS_not HO.out.tidy (fun x => hq x.2))
      go_wp2
      go_region
      go_wp2
      generalize ((w2.alloc _).setCell ⟨w.heap.size, 0, none⟩ _).setCell ⟨w.heap.size, 1, none⟩ _ = wF at HS HF HSM ⊢
      obtain ⟨f0, f1⟩ := HF.out
      refine bodyPost_ret (v := .tuple #[.agg #[.slice b1 m e1, .slice b2 q e2], .bool false]) (by simp [results, Try.results66, go_sem, f0, f1]) rfl ⟨b1, m, e1, b2, q, e2, by rw [HB8.out], HS.out.drew, fun x => by rw [HB8.out] at x; cases x⟩
  · have hmi : ¬ (m : Int) ≤ 8 := by omega
    have hmd : decide ((m : Int) ≤ 8) = false := decide_eq_false hmi
    have HB8 := Lib.hid (smallS_not HO.out.tidy (fun x => hm x.1))
    go_wp2
    go_region
    go_wp2
    generalize ((w2.alloc _).setCell ⟨w.heap.size, 0, none⟩ _).setCell ⟨w.heap.size, 1, none⟩ _ = wF at HS HF HSM ⊢
    obtain ⟨f0, f1⟩ := HF.out
    refine bodyPost_ret (v := .tuple #[.agg #[.slice b1 m e1, .slice b2 q e2], .bool false]) (by simp [results, Try.results66, go_sem, f0, f1]) rfl ⟨b1, m, e1, b2, q, e2, by rw [HB8.out], HS.out.drew, fun x => by rw [HB8.out] at x; cases x⟩

theorem l4Small_any (s : ByteArray) (w : World) (hs : s.size ≤ 1048576) :
    Calls Try.prog 66 #[.string s] w fun e w' => ∃ a1 n1 c1 a2 n2 c2, e = .returned (.tuple #[.agg #[.slice a1 n1 c1, .slice a2 n2 c2], .bool (smallS s)]) ∧ Below w.heap.size w w' ∧
      (smallS s = true → SmallIn w' (fS s) a1 n1 a2 n2) := by
  cases h : okS s
  · exact l4Small_off s w hs h
  · exact l4Small_on s w hs h

end Go.Proofs.Ytojjfkabepkhdaa
