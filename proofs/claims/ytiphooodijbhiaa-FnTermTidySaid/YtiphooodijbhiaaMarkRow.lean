/-
  A row of truths that grows by one at a time.
-/
import Derived.Test.YtiphooodijbhiaaWrite
import Derived.Test.YtiphooodijbhiaaTidyText
import Derived.Deep.AppendLies
import Derived.Deep.RegionLaw
import Derived.Deep.RegionWith
namespace Go.Proofs.Ytiphooodijbhiaa
open Go.RowKit

/-- A row of a call's own that holds the first k truths of f. -/
structure Marks (f : Nat → Bool) (S T0 : Nat) (W wr : World) (v : Value) (k : Nat) : Prop where
  below : Below S W wr
  own : wr.ownsRow T0 4 1 v k ((part f 0 k).map Value.bool)
theorem Marks.step {f : Nat → Bool} {S T0 k : Nat} {W wr w1 : World} {v : Value} (h : Marks f S T0 W wr v k) (hS : S ≤ wr.heap.size) (hb : Below wr.heap.size wr w1) : Marks f S T0 W w1 v k :=
  ⟨h.below.trans (hb.mono hS), own_below h.own hb (Nat.le_refl _)⟩
theorem Marks.grow {f : Nat → Bool} {S T0 k : Nat} {W wr w1 : World} {u v' : Value} {b : Bool} {o : Obj} (h : Marks f S T0 W wr u k) (hf : f k = b) (hST : S ≤ T0) (hS : S ≤ wr.heap.size)
    (hown' : w1.ownsRow T0 4 1 v' (k + 1) ((part f 0 k).map Value.bool ++ [.bool b])) (hgrow : (wr.alloc o).grownBy w1 u.ownBlock) : Marks f S T0 W w1 v' (k + 1) := by
  refine ⟨(h.below.alloc hS o).grown hgrow (by simp; omega) (fun j hj => Nat.le_trans hST (h.own.lt j hj).1), ?_⟩
  rw [part_snoc, List.map_append, Nat.zero_add, hf]
  exact hown'
theorem Marks.grown {f : Nat → Bool} {S T0 k : Nat} {W wr w1 : World} {u v' : Value} {b : Bool} (h : Marks f S T0 W wr u k) (hf : f k = b) (hST : S ≤ T0) (hS : S ≤ wr.heap.size)
    (hown' : w1.ownsRow T0 4 1 v' (k + 1) ((part f 0 k).map Value.bool ++ [.bool b])) (hgrow : wr.grownBy w1 u.ownBlock) : Marks f S T0 W w1 v' (k + 1) := by
  refine ⟨h.below.grown hgrow hS (fun j hj => Nat.le_trans hST (h.own.lt j hj).1), ?_⟩
  rw [part_snoc, List.map_append, Nat.zero_add, hf]
  exact hown'
/-- An append at a step of a region that draws its order. -/
theorem step_marks {ops : Array Oper} {o : Oper} {a : Act} {K : Act → World → Prop} {Q : Exit → Act → World → Prop} {E : Prop} (hgd : o.guard = none) (s x : Operand)
    (ho : o.op = .call { callee := .builtin .append, args := #[s, x], argTypes := #[73, 73] })
    {f : Nat → Bool} {S T0 n g0 : Nat} {W w : World} {v : Value} {b : Bool} (hs : a.eval s = v) (hx : a.eval x = .slice (some ⟨g0, 0, none⟩) 1 1) (hc : w.cell? ⟨g0, 0, none⟩ = some (.bool b))
    (hM : Marks f S T0 W w v n) (hf : f n = b) (hST : S ≤ T0) (hT : T0 ≤ w.heap.size) (hn : n ≤ 1000000)
    (h : ∀ g cap w', Marks f S T0 W w' (.slice (some ⟨g, 0, none⟩) (n + 1) cap) (n + 1) → K (a.put o.dst (.slice (some ⟨g, 0, none⟩) (n + 1) cap)) w') :
    if Region.wanted o (yielded ops a.tmps) = true then Oper.wp Try.prog o a w K Q else E := by
  obtain ⟨i0, hi, hz0, hz1, hz2⟩ := info_parts Try.infoBool
  refine step_append_lies _ hgd s x 73 ho T0 4 i0 (.bool false) 1 1 Try.underlying73 hi hz0 hz1 hz2 rfl (by decide) v n _ hs hM.own ⟨g0, 0, none⟩ 1 1 [.bool b] hx rfl ?_ ?_ (by decide) (by unfold maxLen; omega) (by omega) hT _ rfl ?_
  · intro j u hj
    match j, hj with
    | 0, hj => simp at hj; subst hj; simpa [Addr.add] using hc
  · intro u hu; simp at hu; subst hu; rfl
  · intro g cap w' hown hgrow _ _
    exact h g cap w' (hM.grown hf hST (Nat.le_trans hST hT) hown hgrow)
theorem marks_start (f : Nat → Bool) (W wr : World) (S T0 : Nat) (hS : S ≤ wr.heap.size) (hT : T0 ≤ wr.heap.size) (hb : Below S W wr) :
    Marks f S T0 W (wr.alloc (.cells #[] 4)) (.slice (some ⟨wr.heap.size, 0, none⟩) 0 0) 0 := by
  refine ⟨hb.alloc hS _, ?_⟩
  have h := World.ownsRow_made (base := T0) (e := 4) (size := 1) wr #[] 0 hT (by decide) rfl
  exact h

/-- The start behind a box of the call's own. -/
theorem marks_box (f : Nat → Bool) (w1 : World) (o : Obj) : Marks f (w1.heap.size + 1) (w1.heap.size + 1) (w1.alloc o) ((w1.alloc o).alloc (.cells #[] 4)) (.slice (some ⟨w1.heap.size + 1, 0, none⟩) 0 0) 0 := by
  have h := marks_start f (w1.alloc o) (w1.alloc o) (w1.heap.size + 1) (w1.heap.size + 1) (by simp) (by simp) (Below.refl _ _)
  rw [World.size_alloc] at h
  exact h

/-- The box behind which the row began. -/
theorem Marks.box {f : Nat → Bool} {T0 n : Nat} {w1 wr : World} {u v x : Value} {T : TypeId} (h : Marks f (w1.heap.size + 1) T0 (w1.alloc (.cells #[u, v] T)) wr x n) :
    wr.cell? ⟨w1.heap.size, 0, none⟩ = some u ∧ wr.cell? ⟨w1.heap.size, 1, none⟩ = some v := box_later (by simpa using h.below)
theorem cell_lit (w : World) (v : Value) (T : TypeId) : (w.alloc (.cells #[v] T)).cell? ⟨w.heap.size, 0, none⟩ = some v := by
  rw [World.cell?_alloc_at _ _ _ _ rfl]; rfl

theorem Reads.drop {w : World} {g o n m : Nat} {bs : List Bool} (h : Reads w (some ⟨g, o, none⟩) n bs) (hm : m ≤ n) : Reads w (some ⟨g, o + m, none⟩) (n - m) (bs.drop m) := by
  refine ⟨by rw [List.length_drop, h.len], ?_⟩
  rcases h.cells with h0 | ⟨g', o', ha, hg, hc⟩
  · exact .inl (by omega)
  · injection ha with ha
    injection ha with h1 h2 _
    subst h1; subst h2
    refine .inr ⟨g, o + m, rfl, hg, fun i hi => ?_⟩
    have := hc (m + i) (by omega)
    rw [Nat.add_assoc, this, List.getD_eq_getElem?_getD, List.getD_eq_getElem?_getD, List.getElem?_drop]

/-- The two parts of a row, as spec.l1Less wants them. -/
theorem fill_in {f : Nat → Bool} {B m p cap g : Nat} {w : World} (h : w.ownsRow B 4 1 (.slice (some ⟨g, 0, none⟩) (m + p) cap) (m + p) ((part f 0 (m + p)).map Value.bool)) (hp : 0 < p) (hm4 : m ≤ 4000) (hp4 : p ≤ 4000) :
    LessIn w (part f 0 m) (part f m p) (some ⟨g, 0, none⟩) m cap (some ⟨g, m, none⟩) p (cap - m) := by
  have hr : Reads w (some ⟨g, 0, none⟩) (m + p) (part f 0 (m + p)) := reads_own2 h (part_length _ _ _)
  obtain ⟨c1, c2⟩ := own_cap h
  have h1 := hr.take (d := m) (by omega)
  have h2 := hr.drop (m := m) (by omega)
  rw [part_take] at h1
  rw [part_drop, Nat.zero_add, Nat.add_sub_cancel_left] at h2
  exact ⟨h1, h2, by omega, by omega, c2, by omega, hm4, hp4, hp⟩

end Go.Proofs.Ytiphooodijbhiaa
