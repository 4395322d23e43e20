/-
  Blocks and tables of numbers that the call itself made: plain facts.
-/
import Derived.Test.YtojjfkabepkhdaaWayMath
import Derived.Test.YtojjfkabepkhdaaInts
import Derived.Test.YtojjfkabepkhdaaMakeMath
import Derived.Laws.CopyOwn
import Derived.Laws.Rows
import Derived.Laws.Tables
import Derived.Deep.OwnRows
set_option linter.unusedVariables false
set_option linter.unusedSimpArgs false
namespace Go.Proofs.Ytojjfkabepkhdaa
open Go.RowKit

/-- The first n values of h, as a slice's. -/
def natsOf (h : Nat → Nat) (n : Nat) : List Int := (List.range n).map fun i => (h i : Int)
theorem natsOf_length (h : Nat → Nat) (n : Nat) : (natsOf h n).length = n := by simp [natsOf]
theorem natsOf_at (h : Nat → Nat) {n i : Nat} (hi : i < n) : (natsOf h n).getD i 0 = (h i : Int) := by
  simp [natsOf, hi]
theorem natsOf_snoc (h : Nat → Nat) (n : Nat) : natsOf h (n + 1) = natsOf h n ++ [(h n : Int)] := by
  simp [natsOf, List.range_succ]
theorem natsOf_congr {h g : Nat → Nat} {n : Nat} (e : ∀ i, i < n → h i = g i) : natsOf h n = natsOf g n := by
  unfold natsOf
  exact List.map_congr_left (fun i hi => by rw [e i (List.mem_range.1 hi)])
/-- The first n values of g, as a slice's. -/
def intsOf (g : Nat → Int) (n : Nat) : List Int := (List.range n).map g
theorem intsOf_length (g : Nat → Int) (n : Nat) : (intsOf g n).length = n := by simp [intsOf]
theorem intsOf_at (g : Nat → Int) {n i : Nat} (hi : i < n) : (intsOf g n).getD i 0 = g i := by simp [intsOf, hi]
theorem intsOf_snoc (g : Nat → Int) (n : Nat) : intsOf g (n + 1) = intsOf g n ++ [g n] := by simp [intsOf, List.range_succ]
theorem intsOf_nats (h : Nat → Nat) (n : Nat) : intsOf (fun i => (h i : Int)) n = natsOf h n := rfl

/-- The block g has N numbers, as c tells. -/
def IRow (w : World) (g N : Nat) (c : Nat → Int) : Prop := ∃ cur : Array Value, w.heap[g]? = some (.cells cur 3 (0, 0)) ∧ cur.size = N ∧ ∀ i, i < N → cur[i]? = some (.int .i64 (c i))
theorem IRow.lt {w : World} {g N : Nat} {c : Nat → Int} (h : IRow w g N c) : g < w.heap.size := by
  obtain ⟨cur, h1, _⟩ := h
  rcases Nat.lt_or_ge g w.heap.size with k | k
  · exact k
  · rw [Array.getElem?_eq_none k] at h1; cases h1
theorem IRow.cell {w : World} {g N : Nat} {c : Nat → Int} (h : IRow w g N c) {i : Nat} (hi : i < N) : w.cell? ⟨g, i, none⟩ = some (.int .i64 (c i)) := by
  obtain ⟨cur, h1, h2, h3⟩ := h
  rw [cell_of_row w _ _ _ _ _ h1]; exact h3 i hi
theorem IRow.free {w : World} {g N : Nat} {c : Nat → Int} (h : IRow w g N c) (i : Nat) : w.frozen? ⟨g, i, none⟩ = false := by
  obtain ⟨cur, h1, h2, h3⟩ := h
  exact frozen_of_row w _ _ _ _ h1
theorem IRow.below {w w' : World} {g N B : Nat} {c : Nat → Int} (h : IRow w g N c) (hb : Below B w w') (hg : g < B) : IRow w' g N c := by
  obtain ⟨cur, h1, h2, h3⟩ := h
  exact ⟨cur, (hb.block g hg).trans h1, h2, h3⟩
theorem IRow.step {w w' : World} {g N : Nat} {c : Nat → Int} (h : IRow w g N c) (hb : Below w.heap.size w w') : IRow w' g N c := h.below hb h.lt
theorem IRow.congr {w : World} {g N : Nat} {c d : Nat → Int} (h : IRow w g N c) (hc : ∀ i, i < N → c i = d i) : IRow w g N d := by
  obtain ⟨cur, h1, h2, h3⟩ := h
  exact ⟨cur, h1, h2, fun i hi => by rw [← hc i hi]; exact h3 i hi⟩
theorem IRow.other {w : World} {g N : Nat} {c : Nat → Int} (h : IRow w g N c) {a : Addr} (ha : g ≠ a.block) (u : Value) : IRow (w.setCell a u) g N c := by
  obtain ⟨cur, h1, h2, h3⟩ := h
  exact ⟨cur, (heap_setCell_other w _ _ _ ha).trans h1, h2, h3⟩
/-- k turned to b. -/
def putI (c : Nat → Int) (k : Nat) (b : Int) (i : Nat) : Int := if i = k then b else c i
theorem IRow.put {w : World} {g N : Nat} {c : Nat → Int} (h : IRow w g N c) (k : Nat) (b : Int) : IRow (w.setCell ⟨g, k, none⟩ (.int .i64 b)) g N (putI c k b) := by
  obtain ⟨cur, h1, h2, h3⟩ := h
  refine ⟨_, heap_setCell_same w _ _ _ _ _ h1, by simpa using h2, fun i hi => ?_⟩
  unfold putI
  rw [Array.getElem?_setIfInBounds]
  by_cases e : k = i
  · subst e; rw [if_pos rfl, if_pos (by omega), if_pos rfl]
  · rw [if_neg e, if_neg (fun x => e x.symm)]; exact h3 i hi
theorem iRow_new (w : World) (N : Nat) : IRow (w.alloc (.cells (madeCells #[.int .i64 0] N) 3)) w.heap.size N fun _ => 0 := by
  refine ⟨_, heap_alloc_new w _, ?_, ?_⟩
  · simp [madeCells]
  · intro i hi
    simp [madeCells, hi, Nat.mod_one]
theorem IRow.reads {w : World} {g N : Nat} {c : Nat → Int} (h : IRow w g N c) : ReadsI w (some ⟨g, 0, none⟩) N (intsOf c N) :=
  ⟨intsOf_length c N, .inr ⟨g, 0, rfl, h.lt, fun i hi => by rw [Nat.zero_add, h.cell hi, intsOf_at c hi]⟩⟩
/-- What a table says at a number. -/
theorem ReadsI.at {w : World} {a : Option Addr} {n i : Nat} {g : Nat → Int} (h : ReadsI w a n (intsOf g n)) (hi : i < n) : ∃ b o, a = some ⟨b, o, none⟩ ∧ b < w.heap.size ∧ w.cell? ⟨b, o + i, none⟩ = some (.int .i64 (g i)) := by
  obtain ⟨b, o, e, hb, hc⟩ := h.cells.resolve_left (by omega)
  exact ⟨b, o, e, hb, by rw [hc i hi, intsOf_at g hi]⟩

/-- A slice of the call's own that holds the first k values of g. -/
def TabI (g : Nat → Int) (k B : Nat) (w : World) (v : Value) : Prop := w.ownsRow B 3 1 v k (ints (intsOf g k))
theorem TabI.reads {g : Nat → Int} {k B c : Nat} {w : World} {a : Option Addr} (o : TabI g k B w (.slice a k c)) : ReadsI w a k (intsOf g k) := readsI_own o
/-- One way without numbers, to 0. -/
def oneAt0 (i : Nat) : Int := if i = 0 then 1 else 0
theorem iRow_one (w : World) (N : Nat) : IRow (w.alloc (.cells ((madeCells #[.int .i64 0] N).setIfInBounds 0 (.int .i64 1)) 3)) w.heap.size N oneAt0 := by
  refine ⟨_, heap_alloc_new w _, by simp [madeCells], fun i hi => ?_⟩
  unfold oneAt0
  rw [Array.getElem?_setIfInBounds]
  by_cases e : 0 = i
  · subst e; rw [if_pos rfl, if_pos rfl, if_pos (by simp [madeCells]; omega)]
  · rw [if_neg e, if_neg (fun x => e x.symm)]
    simp [madeCells, hi, Nat.mod_one]
def manyI (f : Nat → Bool) (i : Nat) : Int := (manyF f i : Int)
theorem manyF_le40 (f : Nat → Bool) {i : Nat} (h : i ≤ 40) : manyF f i ≤ 1099511627776 :=
  Nat.le_trans (manyF_pow f i) (Nat.le_trans (Nat.pow_le_pow_right (by decide) h) (by decide))
/-- The ways up to n, none beyond. -/
def cutF (h : Nat → Nat) (n i : Nat) : Nat := if i < n then h i else 0
theorem natsOf_cut (h : Nat → Nat) (n : Nat) : natsOf h n = natsOf (cutF h n) n := natsOf_congr (fun i hi => by unfold cutF; rw [if_pos hi])
theorem sumP_cut (f : Nat → Bool) (h : Nat → Nat) {n : Nat} : sumP f (cutF h n) n n = sumP f h n n := sumP_congr n (fun y a b => by unfold cutF; rw [if_pos (by omega)])


end Go.Proofs.Ytojjfkabepkhdaa
