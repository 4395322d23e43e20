/-
  A block of truths that the call itself made, known whole; worlds in which one block alone has turned: plain facts.
-/
import Derived.Test.YtojjfkabepkhdaaHasMath
import Derived.Laws.CopyOwn
import Derived.Laws.Rows
import Derived.Laws.Tables
import Derived.Deep.OwnRows
set_option linter.unusedVariables false
set_option linter.unusedSimpArgs false
namespace Go.Proofs.Ytojjfkabepkhdaa
open Go.RowKit

/-- The block g has N truths, as c tells. -/
def BRow (w : World) (g N : Nat) (c : Nat → Bool) : Prop := ∃ cur : Array Value, w.heap[g]? = some (.cells cur 4 (0, 0)) ∧ cur.size = N ∧ ∀ i, i < N → cur[i]? = some (.bool (c i))
theorem BRow.lt {w : World} {g N : Nat} {c : Nat → Bool} (h : BRow w g N c) : g < w.heap.size := by
  obtain ⟨cur, h1, _⟩ := h
  rcases Nat.lt_or_ge g w.heap.size with k | k
  · exact k
  · rw [Array.getElem?_eq_none k] at h1; cases h1
theorem BRow.cell {w : World} {g N : Nat} {c : Nat → Bool} (h : BRow w g N c) {i : Nat} (hi : i < N) : w.cell? ⟨g, i, none⟩ = some (.bool (c i)) := by
  obtain ⟨cur, h1, h2, h3⟩ := h
  rw [cell_of_row w _ _ _ _ _ h1]; exact h3 i hi
theorem BRow.free {w : World} {g N : Nat} {c : Nat → Bool} (h : BRow w g N c) (i : Nat) : w.frozen? ⟨g, i, none⟩ = false := by
  obtain ⟨cur, h1, h2, h3⟩ := h
  exact frozen_of_row w _ _ _ _ h1
theorem BRow.below {w w' : World} {g N B : Nat} {c : Nat → Bool} (h : BRow w g N c) (hb : Below B w w') (hg : g < B) : BRow w' g N c := by
  obtain ⟨cur, h1, h2, h3⟩ := h
  exact ⟨cur, (hb.block g hg).trans h1, h2, h3⟩
theorem BRow.step {w w' : World} {g N : Nat} {c : Nat → Bool} (h : BRow w g N c) (hb : Below w.heap.size w w') : BRow w' g N c := h.below hb h.lt
theorem BRow.congr {w : World} {g N : Nat} {c d : Nat → Bool} (h : BRow w g N c) (hc : ∀ i, i < N → c i = d i) : BRow w g N d := by
  obtain ⟨cur, h1, h2, h3⟩ := h
  exact ⟨cur, h1, h2, fun i hi => by rw [← hc i hi]; exact h3 i hi⟩
theorem BRow.other {w : World} {g N : Nat} {c : Nat → Bool} (h : BRow w g N c) {a : Addr} (ha : g ≠ a.block) (u : Value) : BRow (w.setCell a u) g N c := by
  obtain ⟨cur, h1, h2, h3⟩ := h
  exact ⟨cur, (heap_setCell_other w _ _ _ ha).trans h1, h2, h3⟩
/-- k turned to b. -/
def put (c : Nat → Bool) (k : Nat) (b : Bool) (i : Nat) : Bool := if i = k then b else c i
theorem BRow.put {w : World} {g N : Nat} {c : Nat → Bool} (h : BRow w g N c) (k : Nat) (b : Bool) : BRow (w.setCell ⟨g, k, none⟩ (.bool b)) g N (put c k b) := by
  obtain ⟨cur, h1, h2, h3⟩ := h
  refine ⟨_, heap_setCell_same w _ _ _ _ _ h1, by simpa using h2, fun i hi => ?_⟩
  unfold Proofs.Ytojjfkabepkhdaa.put
  rw [Array.getElem?_setIfInBounds]
  by_cases e : k = i
  · subst e; rw [if_pos rfl, if_pos (by omega), if_pos rfl]
  · rw [if_neg e, if_neg (fun x => e x.symm)]; exact h3 i hi
theorem bRow_new (w : World) (N : Nat) : BRow (w.alloc (.cells (madeCells #[.bool false] N) 4)) w.heap.size N fun _ => false := by
  refine ⟨_, heap_alloc_new w _, ?_, ?_⟩
  · simp [madeCells]
  · intro i hi
    simp [madeCells, hi, Nat.mod_one]

/-- What lies behind as many places without numbers. -/
def behind (N : Nat) (c : Nat → Bool) (i : Nat) : Bool := decide (N ≤ i) && c (i - N)

/-- No block but g has turned. -/
structure Else (g : Nat) (w w' : World) : Prop where
  os : w'.os = w.os
  tape : w'.tape = w.tape
  output : w'.output = w.output
  size : w.heap.size ≤ w'.heap.size
  block : ∀ k, k ≠ g → k < w.heap.size → w'.heap[k]? = w.heap[k]?
theorem Else.refl (g : Nat) (w : World) : Else g w w := ⟨rfl, rfl, rfl, Nat.le_refl _, fun _ _ _ => rfl⟩
theorem Else.put {g : Nat} {w w' : World} (h : Else g w w') (k : Nat) (v : Value) : Else g w (w'.setCell ⟨g, k, none⟩ v) :=
  ⟨h.os, h.tape, h.output, by simp [World.setCell]; exact h.size, fun j hj hlt => by rw [heap_setCell_other w' ⟨g, k, none⟩ j v hj, h.block j hj hlt]⟩
theorem Else.below {g B : Nat} {w0 w w' : World} (h : Else g w w') (hb : Below B w0 w) (hB : B ≤ g) (hg : g < w.heap.size) : Below B w0 w' :=
  hb.trans ⟨h.os, h.tape, h.output, h.size, fun k hk => h.block k (by omega) (by omega)⟩
theorem BRow.else {w w' : World} {g h N : Nat} {c : Nat → Bool} (hr : BRow w g N c) (he : Else h w w') (hn : g ≠ h) : BRow w' g N c := by
  have hl := hr.lt
  obtain ⟨cur, h1, h2, h3⟩ := hr
  exact ⟨cur, (he.block g hn hl).trans h1, h2, h3⟩
theorem Else.cell {g : Nat} {w w' : World} (h : Else g w w') {p : Addr} (hp : p.block ≠ g) (hl : p.block < w.heap.size) : w'.cell? p = w.cell? p := World.cell?_of_block (w := w) (h.block p.block hp hl)
theorem Else.own {g : Nat} {w w' : World} {base size n : Nat} {e : TypeId} {v : Value} {xs : List Value} (ho : Else g w w') (h : w.ownsRow base e size v n xs) (hd : v.ownBlock ≠ some g) : w'.ownsRow base e size v n xs := by
  obtain ⟨h1, h2⟩ := h
  refine ⟨h1, ?_⟩
  rcases h2 with h2 | ⟨b, cap, cur, hv, hg, hh, hr⟩
  · exact .inl h2
  · refine .inr ⟨b, cap, cur, hv, hg, ?_, hr⟩
    have hlt : b < w.heap.size := by
      rcases Nat.lt_or_ge b w.heap.size with h | h
      · exact h
      · rw [Array.getElem?_eq_none h] at hh; cases hh
    rw [ho.block b (fun e => hd (by rw [hv, ← e]; rfl)) hlt]; exact hh

/-- The first places as d tells, the others as c. -/
def mix (c d : Nat → Bool) (o k j : Nat) : Bool := if j < o + k then d j else c j
theorem mix_zero {c d : Nat → Bool} {o : Nat} (h : ∀ j, j < o → d j = c j) (j : Nat) : c j = mix c d o 0 j := by
  unfold mix
  by_cases e : j < o + 0
  · rw [if_pos e, h j (by omega)]
  · rw [if_neg e]
theorem mix_put {c d : Nat → Bool} {o k : Nat} (b : Bool) (h : d (o + k) = b) (j : Nat) : put (mix c d o k) (o + k) b j = mix c d o (k + 1) j := by
  unfold put mix
  by_cases e : j = o + k
  · subst e; rw [if_pos rfl, if_pos (by omega), h]
  · rw [if_neg e]
    by_cases e2 : j < o + k
    · rw [if_pos e2, if_pos (by omega)]
    · rw [if_neg e2, if_neg (by omega)]
theorem mix_keep {c d : Nat → Bool} {o k : Nat} (h : d (o + k) = c (o + k)) (j : Nat) : mix c d o k j = mix c d o (k + 1) j := by
  unfold mix
  by_cases e : j = o + k
  · subst e; rw [if_neg (by omega), if_pos (by omega), h]
  · by_cases e2 : j < o + k
    · rw [if_pos e2, if_pos (by omega)]
    · rw [if_neg e2, if_neg (by omega)]

end Go.Proofs.Ytojjfkabepkhdaa
