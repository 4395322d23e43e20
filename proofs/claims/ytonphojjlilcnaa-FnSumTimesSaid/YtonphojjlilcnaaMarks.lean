/-
  A row of truths that grows by one at a time, and the walk of spec.l2Fill, which makes a set of such a row.
-/
import Derived.Test.YtonphojjlilcnaaDone
import Derived.Deep.AppendLies
import Derived.Deep.RegionLaw
import Derived.Deep.RegionWith
namespace Go.Proofs.Ytonphojjlilcnaa
open Go.RowKit

/-- A row of a call's own that holds the first k truths of f. -/
structure Marks (f : Nat → Bool) (S T0 : Nat) (W wr : World) (v : Value) (k : Nat) : Prop where
  below : Below S W wr
  own : wr.ownsRow T0 4 1 v k ((part f 0 k).map Value.bool)
theorem Marks.step {f : Nat → Bool} {S T0 k : Nat} {W wr w1 : World} {v : Value} (h : Marks f S T0 W wr v k) (hS : S ≤ wr.heap.size) (hb : Below wr.heap.size wr w1) : Marks f S T0 W w1 v k :=
  ⟨h.below.trans (hb.mono hS), own_below h.own hb (Nat.le_refl _)⟩
theorem Marks.grow {f : Nat → Bool} {S T0 k : Nat} {W wr w1 : World} {u v' : Value} {b : Bool} {o : Obj} (h : Marks f S T0 W wr u k) (hf : f k = b) (hST : S ≤ T0) (hS : S ≤ wr.heap.size)
    (hown' : w1.ownsRow T0 4 1 v' (k + 1) ((part f 0 k).map Value.bool ++ [.bool b])) (hgrow : (wr.alloc o).grownBy w1 u.ownBlock) : Marks f S T0 W w1 v' (k + 1) := by
  refine ⟨(h.below.alloc hS o).grown hgrow (by simp; omega) (fun j hj => Nat.le_trans hST (h.own.lt j hj).1), ?_⟩
  rw [part_snoc, List.map_append, Nat.zero_add, hf]
  exact hown'
theorem Marks.grown {f : Nat → Bool} {S T0 k : Nat} {W wr w1 : World} {u v' : Value} {b : Bool} (h : Marks f S T0 W wr u k) (hf : f k = b) (hST : S ≤ T0) (hS : S ≤ wr.heap.size)
    (hown' : w1.ownsRow T0 4 1 v' (k + 1) ((part f 0 k).map Value.bool ++ [.bool b])) (hgrow : wr.grownBy w1 u.ownBlock) : Marks f S T0 W w1 v' (k + 1) := by
  refine ⟨h.below.grown hgrow hS (fun j hj => Nat.le_trans hST (h.own.lt j hj).1), ?_⟩
  rw [part_snoc, List.map_append, Nat.zero_add, hf]
  exact hown'
/-- An append at a step of a region that draws its order. -/
theorem step_marks {ops : Array Oper} {o : Oper} {a : Act} {K : Act → World → Prop} {Q : Exit → Act → World → Prop} {E : Prop} (hgd : o.guard = none) (s x : Operand)
    (ho : o.op = .call { callee := .builtin .append, args := #[s, x], argTypes := #[50, 50] })
    {f : Nat → Bool} {S T0 n g0 : Nat} {W w : World} {v : Value} {b : Bool} (hs : a.eval s = v) (hx : a.eval x = .slice (some ⟨g0, 0, none⟩) 1 1) (hc : w.cell? ⟨g0, 0, none⟩ = some (.bool b))
    (hM : Marks f S T0 W w v n) (hf : f n = b) (hST : S ≤ T0) (hT : T0 ≤ w.heap.size) (hn : n ≤ 1000000)
    (h : ∀ g cap w', Marks f S T0 W w' (.slice (some ⟨g, 0, none⟩) (n + 1) cap) (n + 1) → K (a.put o.dst (.slice (some ⟨g, 0, none⟩) (n + 1) cap)) w') :
    if Region.wanted o (yielded ops a.tmps) = true then Oper.wp Try.prog o a w K Q else E := by
  obtain ⟨i0, hi, hz0, hz1, hz2⟩ := info_parts Try.infoBool
  refine step_append_lies _ hgd s x 50 ho T0 4 i0 (.bool false) 1 1 Try.underlying50 hi hz0 hz1 hz2 rfl (by decide) v n _ hs hM.own ⟨g0, 0, none⟩ 1 1 [.bool b] hx rfl ?_ ?_ (by decide) (by unfold maxLen; omega) (by omega) hT _ rfl ?_
  · intro j u hj
    match j, hj with
    | 0, hj => simp at hj; subst hj; simpa [Addr.add] using hc
  · intro u hu; simp at hu; subst hu; rfl
  · intro g cap w' hown hgrow _ _
    exact h g cap w' (hM.grown hf hST (Nat.le_trans hST hT) hown hgrow)
theorem marks_start (f : Nat → Bool) (W wr : World) (S T0 : Nat) (hS : S ≤ wr.heap.size) (hT : T0 ≤ wr.heap.size) (hb : Below S W wr) :
    Marks f S T0 W (wr.alloc (.cells #[] 4)) (.slice (some ⟨wr.heap.size, 0, none⟩) 0 0) 0 := by
  refine ⟨hb.alloc hS _, ?_⟩
  have h := World.ownsRow_made (base := T0) (e := 4) (size := 1) wr #[] 0 hT (by decide) rfl
  exact h

/-- The start behind a box of the call's own. -/
theorem marks_box (f : Nat → Bool) (w1 : World) (o : Obj) : Marks f (w1.heap.size + 1) (w1.heap.size + 1) (w1.alloc o) ((w1.alloc o).alloc (.cells #[] 4)) (.slice (some ⟨w1.heap.size + 1, 0, none⟩) 0 0) 0 := by
  have h := marks_start f (w1.alloc o) (w1.alloc o) (w1.heap.size + 1) (w1.heap.size + 1) (by simp) (by simp) (Below.refl _ _)
  rw [World.size_alloc] at h
  exact h

/-- The box behind which the row began. -/
theorem Marks.box {f : Nat → Bool} {T0 n : Nat} {w1 wr : World} {u v x : Value} {T : TypeId} (h : Marks f (w1.heap.size + 1) T0 (w1.alloc (.cells #[u, v] T)) wr x n) :
    wr.cell? ⟨w1.heap.size, 0, none⟩ = some u ∧ wr.cell? ⟨w1.heap.size, 1, none⟩ = some v := box_later (by simpa using h.below)
theorem cell_lit (w : World) (v : Value) (T : TypeId) : (w.alloc (.cells #[v] T)).cell? ⟨w.heap.size, 0, none⟩ = some v := by
  rw [World.cell?_alloc_at _ _ _ _ rfl]; rfl

theorem Reads.drop {w : World} {g o n m : Nat} {bs : List Bool} (h : Reads w (some ⟨g, o, none⟩) n bs) (hm : m ≤ n) : Reads w (some ⟨g, o + m, none⟩) (n - m) (bs.drop m) := by
  refine ⟨by rw [List.length_drop, h.len], ?_⟩
  rcases h.cells with h0 | ⟨g', o', ha, hg, hc⟩
  · exact .inl (by omega)
  · injection ha with ha
    injection ha with h1 h2 _
    subst h1; subst h2
    refine .inr ⟨g, o + m, rfl, hg, fun i hi => ?_⟩
    have := hc (m + i) (by omega)
    rw [Nat.add_assoc, this, List.getD_eq_getElem?_getD, List.getD_eq_getElem?_getD, List.getElem?_drop]

/-- The two parts of a row, as spec.l1Less wants them. -/
theorem fill_in {f : Nat → Bool} {B m p cap g : Nat} {w : World} (h : w.ownsRow B 4 1 (.slice (some ⟨g, 0, none⟩) (m + p) cap) (m + p) ((part f 0 (m + p)).map Value.bool)) (hp : 0 < p) (hm4 : m ≤ 4000) (hp4 : p ≤ 4000) :
    LessIn w (part f 0 m) (part f m p) (some ⟨g, 0, none⟩) m cap (some ⟨g, m, none⟩) p (cap - m) := by
  have hr : Reads w (some ⟨g, 0, none⟩) (m + p) (part f 0 (m + p)) := reads_own2 h (part_length _ _ _)
  obtain ⟨c1, c2⟩ := own_cap h
  have h1 := hr.take (d := m) (by omega)
  have h2 := hr.drop (m := m) (by omega)
  rw [part_take] at h1
  rw [part_drop, Nat.zero_add, Nat.add_sub_cancel_left] at h2
  exact ⟨h1, h2, by omega, by omega, c2, by omega, hm4, hp4, hp⟩

set_option maxHeartbeats 400000 in
theorem fill_any (f : Nat → Bool) (m p cap B : Nat) (a : Option Addr) (w : World) (h : w.ownsRow B 4 1 (.slice a (m + p) cap) (m + p) ((part f 0 (m + p)).map Value.bool)) (hp : 0 < p) (hm4 : m ≤ 4000) (hp4 : p ≤ 4000)
    (hper : ∀ n, m ≤ n → f (n + p) = f n) :
    Calls Try.prog 68 #[.slice a (m + p : Nat) cap, .int .i64 m] w fun e w' => MadeEnd f e ∧ Below w.heap.size w w' := by
  obtain ⟨g, rfl⟩ : ∃ g, a = some ⟨g, 0, none⟩ := by
    rcases h.2 with ⟨_, h0⟩ | ⟨g, _, _, hv, _⟩
    · omega
    · injection hv with ha _ _; exact ⟨g, ha⟩
  have HI := fill_in h hp hm4 hp4
  have HP := hasB_part hp hper
  obtain ⟨c1, _⟩ := own_cap h
  have HK := Lib.hid (fun W' (hb : Below w.heap.size w W') => done_gen _ _ _ _ _ _ _ _ W' (HI.below hb (Nat.le_refl _)))
  rw [HP] at HK
  have b1 : (m : Int) ≤ (cap : Int) := by omega
  have b2 : (m : Int) ≤ (m : Int) + (p : Int) := by omega
  have b3 : (m : Int) + (p : Int) ≤ (cap : Int) := by omega
  have b4 : ¬ cap = m := by omega
  clear h hper HI HP
  go_enter Try.func68, Try.ntmps68
  go_wp2
  go_region_with (go_at_call 67; (with_reducible refine (HK.out _ ?_).mono ?_); exact below_drewN (Below.refl _ _) _; rintro e w3 ⟨⟨T, b, rfl, hm⟩, hb3⟩; have HM := Lib.hid hm; have HB := Lib.hid hb3; clear hm hb3)
  all_goals
    go_wp2
    go_ret2
    exact ⟨⟨T, b, rfl, HM.out⟩, below_drewN (Below.refl _ _) 1 |>.trans HB.out⟩

/-- A set of one sign in the tail, without numbers in the ring. -/
theorem done_lit (w : World) (b : Bool) (g1 g2 : Nat) (h1 : w.cell? ⟨g1, 0, none⟩ = some (.bool b)) (h2 : w.cell? ⟨g2, 0, none⟩ = some (.bool false)) :
    Calls Try.prog 67 #[.agg #[.slice (some ⟨g1, 0, none⟩) 1 1, .slice (some ⟨g2, 0, none⟩) 1 1]] w fun e w' => MadeEnd (hasB [b] [false]) e ∧ Below w.heap.size w w' := by
  refine done_gen [b] [false] (some ⟨g1, 0, none⟩) 1 1 (some ⟨g2, 0, none⟩) 1 1 w ⟨⟨rfl, .inr ⟨g1, 0, rfl, lt_of_some h1, fun i hi => ?_⟩⟩, ⟨rfl, .inr ⟨g2, 0, rfl, lt_of_some h2, fun i hi => ?_⟩⟩, Nat.le_refl _, Nat.le_refl _, by decide, by decide, by decide, by decide, by decide⟩
  · obtain rfl : i = 0 := by omega
    exact h1
  · obtain rfl : i = 0 := by omega
    exact h2
end Go.Proofs.Ytonphojjlilcnaa
