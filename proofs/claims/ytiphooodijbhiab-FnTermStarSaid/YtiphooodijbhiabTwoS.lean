/-
  The walk of spec.l2Two: two sets are made into one.
-/
import Derived.Test.YtiphooodijbhiabSteps
import Derived.Test.YtiphooodijbhiabMarks
import Derived.Test.YtiphooodijbhiabMakeMath
import Derived.Test.YtiphooodijbhiabReadS
import Derived.Test.YtiphooodijbhiabHasS
import Derived.Test.YtiphooodijbhiabShapeS
import Derived.Test.YtiphooodijbhiabWrite
namespace Go.Proofs.Ytiphooodijbhiab
open Go.RowKit

theorem bit_any (b : Bool) (w : World) : Calls Try.prog 95 #[.bool b] w fun e w' => e = .returned (.int .i64 (b.toNat : Int)) ∧ w = w' := by
  cases b
  · exact bit_false w
  · exact bit_true w
theorem shape_two (s t : ByteArray) (a1 a2 b1 b2 : Option Addr) (n1 c1 n2 c2 m1 d1 m2 d2 : Nat) (w : World) (h : IsRead w s a1 n1 a2 n2) (h2 : IsRead w t b1 m1 b2 m2) :
    Calls Try.prog 73 #[.agg #[.slice a1 n1 c1, .slice a2 n2 c2], .agg #[.slice b1 m1 d1, .slice b2 m2 d2]] w fun e w' =>
      ∃ tl p : Nat, e = .returned (.tuple #[.int .i64 tl, .int .i64 p]) ∧ Below w.heap.size w w' ∧ tl ≤ 60 ∧ p ≤ 3600 ∧ 0 < p ∧ ∀ kind n, tl ≤ n → twoF kind (fS s) (fS t) (n + p) = twoF kind (fS s) (fS t) n := by
  refine (shape_any a1 a2 b1 b2 n1 c1 n2 c2 m1 d1 m2 d2 w h.ringLe h.ringPos h2.ringLe h2.ringPos).mono ?_
  rintro e w' ⟨rfl, hb⟩
  obtain ⟨p0, p1, p2, p3⟩ := shape_common h.ringPos h2.ringPos
  have l1 := h.tailLe
  have l2 := h2.tailLe
  have l3 : n2 * m2 ≤ 60 * 60 := Nat.mul_le_mul h.ringLe h2.ringLe
  refine ⟨_, _, rfl, hb, by omega, by omega, p0, fun kind n hn => ?_⟩
  refine twoF_round kind s t (max n1 m1) _ n ?_ ?_ (by rw [h.ring.len]; exact p1) (by rw [h2.ring.len]; exact p2) hn
  · rw [h.tail.len]; omega
  · rw [h2.tail.len]; omega

/-- The rows of the set that is made: its box, its tail, its ring. -/
structure TwoRows (f : Nat → Bool) (tl B3 T0 n : Nat) (wr : World) (g1 k1 g2 k2 : Nat) : Prop where
  lt : B3 < wr.heap.size
  t0 : wr.cell? ⟨B3, 0, none⟩ = some (.slice (some ⟨g1, 0, none⟩) (min n tl : Nat) k1)
  t1 : wr.cell? ⟨B3, 1, none⟩ = some (.slice (some ⟨g2, 0, none⟩) (n - tl) k2)
  f0 : wr.frozen? ⟨B3, 0, none⟩ = false
  f1 : wr.frozen? ⟨B3, 1, none⟩ = false
  r0 : wr.ownsRow T0 4 1 (.slice (some ⟨g1, 0, none⟩) (min n tl) k1) (min n tl) ((part f 0 (min n tl)).map Value.bool)
  r1 : wr.ownsRow T0 4 1 (.slice (some ⟨g2, 0, none⟩) (n - tl) k2) (n - tl) ((part f tl (n - tl)).map Value.bool)
  l0 : g1 < wr.heap.size
  l1 : g2 < wr.heap.size
  ne : g1 ≠ g2
  n0 : g1 ≠ B3
  n1 : g2 ≠ B3
theorem TwoRows.step {f : Nat → Bool} {tl B3 T0 n : Nat} {wr w' : World} {g1 k1 g2 k2 : Nat} (h : TwoRows f tl B3 T0 n wr g1 k1 g2 k2) (hb : Below wr.heap.size wr w') : TwoRows f tl B3 T0 n w' g1 k1 g2 k2 :=
  ⟨Nat.lt_of_lt_of_le h.lt hb.size, (hb.cell (p := ⟨B3, 0, none⟩) h.lt).trans h.t0, (hb.cell (p := ⟨B3, 1, none⟩) h.lt).trans h.t1, (hb.frozen (p := ⟨B3, 0, none⟩) h.lt).trans h.f0, (hb.frozen (p := ⟨B3, 1, none⟩) h.lt).trans h.f1,
    own_below h.r0 hb (Nat.le_refl _), own_below h.r1 hb (Nat.le_refl _), Nat.lt_of_lt_of_le h.l0 hb.size, Nat.lt_of_lt_of_le h.l1 hb.size, h.ne, h.n0, h.n1⟩

theorem bit_low (q : Nat) (h : q ≤ 15) : Go.bits BinOp.and .i64 (q : Int) 1 = ((q % 2 : Nat) : Int) := by
  have h16 : ∀ q : Fin 16, Go.bits BinOp.and .i64 ((q.val : Nat) : Int) 1 = ((q.val % 2 : Nat) : Int) := by decide
  exact h16 ⟨q, by omega⟩
theorem bit_one (q : Nat) : ((((q % 2 : Nat) : Int)) == 1) = (q % 2 == 1) := by
  rcases Nat.mod_two_eq_zero_or_one q with h | h <;> rw [h] <;> rfl
theorem own_set {w : World} {base n c g : Nat} {e : TypeId} {xs : List Value} (h : w.ownsRow base e 1 (.slice (some ⟨g, 0, none⟩) n c) n xs) {p : Addr} (hp : p.block ≠ g) (v : Value) :
    (w.setCell p v).ownsRow base e 1 (.slice (some ⟨g, 0, none⟩) n c) n xs := by
  refine ⟨h.1, ?_⟩
  rcases h.2 with h2 | ⟨g', cap, cur, hv, hg, hh, r⟩
  · exact .inl h2
  · have hv' := hv
    injection hv with ha _ _
    injection ha with ha
    injection ha with ha _ _
    subst ha
    exact .inr ⟨g, cap, cur, hv', hg, by rw [Below.heap_setCell _ _ _ _ (Ne.symm hp)]; exact hh, r⟩
theorem two_below {B : Nat} {W w6 w7 : World} {o : Obj} {row : Option Nat} (h : Below B W w6) (hg : (w6.alloc o).grownBy w7 row) (hr : ∀ j, row = some j → B ≤ j) (hB : B ≤ w6.heap.size) : Below B W w7 :=
  (h.alloc hB o).grown hg (by simp; omega) hr
/-- What an append to a row of its own leaves of the box and of the other row. -/
theorem TwoRows.tail {f : Nat → Bool} {tl B3 T0 n : Nat} {wr w7 : World} {g1 k1 g2 k2 g cap : Nat} {b : Bool} {o : Obj} (h : TwoRows f tl B3 T0 n wr g1 k1 g2 k2) (hn : n < tl) (hf : f n = b)
    (hown : w7.ownsRow T0 4 1 (.slice (some ⟨g, 0, none⟩) (n + 1) cap) (n + 1) ((part f 0 n).map Value.bool ++ [.bool b])) (hgrow : (wr.alloc o).grownBy w7 (some g1)) (hat : some g1 = some g ∨ g = wr.heap.size + 1) (hg : g < w7.heap.size) :
    w7.cell? ⟨B3, 0, none⟩ = some (.slice (some ⟨g1, 0, none⟩) n k1) ∧ w7.frozen? ⟨B3, 0, none⟩ = false ∧
      TwoRows f tl B3 T0 (n + 1) (w7.setCell ⟨B3, 0, none⟩ (.slice (some ⟨g, 0, none⟩) (n + 1 : Nat) cap)) g cap g2 k2 := by
  have hm : min n tl = n := by omega
  have hm1 : min (n + 1) tl = n + 1 := by omega
  have hz : n - tl = 0 := by omega
  have hz1 : n + 1 - tl = 0 := by omega
  have lB := h.lt
  have la : B3 < (wr.alloc o).heap.size := by simp; omega
  have ne0 : some B3 ≠ some g1 := fun e => h.n0 (by injection e with e; exact e.symm)
  have hs : wr.heap.size ≤ w7.heap.size := by have := hgrow.size; simp at this; omega
  have t0 := (hgrow.cell_far ⟨B3, 0, none⟩ la ne0).trans ((World.cell?_alloc_past _ _ _ lB).trans h.t0)
  have t1 := (hgrow.cell_far ⟨B3, 1, none⟩ la ne0).trans ((World.cell?_alloc_past _ _ _ lB).trans h.t1)
  have f0 := (hgrow.frozen_far ⟨B3, 0, none⟩ la ne0).trans ((Below.refl _ _).alloc (Nat.le_refl _) o |>.frozen (p := ⟨B3, 0, none⟩) lB |>.trans h.f0)
  have f1 := (hgrow.frozen_far ⟨B3, 1, none⟩ la ne0).trans ((Below.refl _ _).alloc (Nat.le_refl _) o |>.frozen (p := ⟨B3, 1, none⟩) lB |>.trans h.f1)
  have r1 := (own_below h.r1 ((Below.refl wr.heap.size wr).alloc (Nat.le_refl _) o) (Nat.le_refl _)).kept hgrow (Or.inr (fun e => h.ne (by injection e with e; exact e.symm)))
  have hgB : g ≠ B3 := by rcases hat with e | e; (injection e with e; rw [← e]; exact h.n0); omega
  have hg2 : g ≠ g2 := by rcases hat with e | e; (injection e with e; rw [← e]; exact h.ne); (have := h.l1; omega)
  rw [hm] at t0
  refine ⟨t0, f0, ⟨?_, ?_, ?_, ?_, ?_, ?_, ?_, ?_, ?_, hg2, hgB, h.n1⟩⟩
  · simp; omega
  · rw [hm1]; exact World.cell?_setCell_same _ _ _ t0
  · rw [hz1, World.cell?_setCell_other _ _ _ _ (by simp)]; rw [hz] at t1; exact t1
  · rw [World.frozen?_setCell]; exact f0
  · rw [World.frozen?_setCell]; exact f1
  · rw [hm1, part_snoc, List.map_append, Nat.zero_add, hf]; exact own_set hown (Ne.symm hgB) _
  · rw [hz1]; rw [hz] at r1; exact own_set r1 (Ne.symm h.n1) _
  · simpa using hg
  · have := h.l1; simp; omega
theorem TwoRows.ring {f : Nat → Bool} {tl B3 T0 n : Nat} {wr w7 : World} {g1 k1 g2 k2 g cap : Nat} {b : Bool} {o : Obj} (h : TwoRows f tl B3 T0 n wr g1 k1 g2 k2) (hn : tl ≤ n) (hf : f n = b)
    (hown : w7.ownsRow T0 4 1 (.slice (some ⟨g, 0, none⟩) (n - tl + 1) cap) (n - tl + 1) ((part f tl (n - tl)).map Value.bool ++ [.bool b])) (hgrow : (wr.alloc o).grownBy w7 (some g2)) (hat : some g2 = some g ∨ g = wr.heap.size + 1) (hg : g < w7.heap.size) :
    w7.cell? ⟨B3, 1, none⟩ = some (.slice (some ⟨g2, 0, none⟩) (n - tl : Nat) k2) ∧ w7.frozen? ⟨B3, 1, none⟩ = false ∧
      TwoRows f tl B3 T0 (n + 1) (w7.setCell ⟨B3, 1, none⟩ (.slice (some ⟨g, 0, none⟩) (n - tl + 1 : Nat) cap)) g1 k1 g cap := by
  have hm : min n tl = tl := by omega
  have hm1 : min (n + 1) tl = tl := by omega
  have hz1 : n + 1 - tl = n - tl + 1 := by omega
  have lB := h.lt
  have la : B3 < (wr.alloc o).heap.size := by simp; omega
  have ne0 : some B3 ≠ some g2 := fun e => h.n1 (by injection e with e; exact e.symm)
  have hs : wr.heap.size ≤ w7.heap.size := by have := hgrow.size; simp at this; omega
  have t0 := (hgrow.cell_far ⟨B3, 0, none⟩ la ne0).trans ((World.cell?_alloc_past _ _ _ lB).trans h.t0)
  have t1 := (hgrow.cell_far ⟨B3, 1, none⟩ la ne0).trans ((World.cell?_alloc_past _ _ _ lB).trans h.t1)
  have f0 := (hgrow.frozen_far ⟨B3, 0, none⟩ la ne0).trans ((Below.refl _ _).alloc (Nat.le_refl _) o |>.frozen (p := ⟨B3, 0, none⟩) lB |>.trans h.f0)
  have f1 := (hgrow.frozen_far ⟨B3, 1, none⟩ la ne0).trans ((Below.refl _ _).alloc (Nat.le_refl _) o |>.frozen (p := ⟨B3, 1, none⟩) lB |>.trans h.f1)
  have r0 := (own_below h.r0 ((Below.refl wr.heap.size wr).alloc (Nat.le_refl _) o) (Nat.le_refl _)).kept hgrow (Or.inr (fun e => h.ne (by injection e with e)))
  have hgB : g ≠ B3 := by rcases hat with e | e; (injection e with e; rw [← e]; exact h.n1); omega
  have hg1 : g1 ≠ g := by rcases hat with e | e; (injection e with e; rw [← e]; exact h.ne); (have := h.l0; omega)
  refine ⟨t1, f1, ⟨?_, ?_, ?_, ?_, ?_, ?_, ?_, ?_, ?_, hg1, h.n0, hgB⟩⟩
  · simp; omega
  · rw [hm1, World.cell?_setCell_other _ _ _ _ (by simp)]; rw [hm] at t0; exact t0
  · rw [hz1]; exact World.cell?_setCell_same _ _ _ t1
  · rw [World.frozen?_setCell]; exact f0
  · rw [World.frozen?_setCell]; exact f1
  · rw [hm1]; rw [hm] at r0; exact own_set r0 (Ne.symm h.n0) _
  · rw [hz1, part_snoc, List.map_append, show tl + (n - tl) = n from by omega, hf]; exact own_set hown (Ne.symm hgB) _
  · have := h.l0; simp; omega
  · simpa using hg
theorem below_three (w : World) (o1 o2 o3 : Obj) : Below w.heap.size w (((w.alloc o1).alloc o2).alloc o3) :=
  (((Below.refl _ _).alloc (Nat.le_refl _) _).alloc (by simp) _).alloc (by simp; omega) _
theorem twoRows_start (f : Nat → Bool) (tl : Nat) (w : World) : TwoRows f tl (w.heap.size + 1 + 1) w.heap.size 0 (((w.alloc (.cells #[] 4)).alloc (.cells #[] 4)).alloc (.cells #[.slice (some ⟨w.heap.size, 0, none⟩) 0 0, .slice (some ⟨w.heap.size + 1, 0, none⟩) 0 0] 77)) w.heap.size 0 (w.heap.size + 1) 0 := by
  have h0 := World.ownsRow_made (base := w.heap.size) (e := 4) (size := 1) w #[] 0 (Nat.le_refl _) (by decide) rfl
  have h1 := World.ownsRow_made (base := w.heap.size) (e := 4) (size := 1) (w.alloc (.cells #[] 4)) #[] 0 (by simp) (by decide) rfl
  rw [World.size_alloc] at h1
  have hm : min 0 tl = 0 := by omega
  refine ⟨by simp, ?_, ?_, ?_, ?_, ?_, ?_, by simp; omega, by simp, by omega, by omega, by omega⟩
  · rw [hm]; go_simp
  · rw [Nat.zero_sub]; go_simp
  · go_simp
  · go_simp
  · rw [hm]
    exact own_below (own_below h0 ((Below.refl _ _).alloc (Nat.le_refl _) _) (Nat.le_refl _)) ((Below.refl _ _).alloc (Nat.le_refl _) _) (Nat.le_refl _)
  · rw [Nat.zero_sub]
    exact own_below h1 ((Below.refl _ _).alloc (Nat.le_refl _) _) (Nat.le_refl _)

end Go.Proofs.Ytiphooodijbhiab
