/-
  A map whose keys are rests: what it holds, and what the operations on it do. Plain facts on a map's block. The walk of the program's restTable.fill.
-/
import Derived.Test.YtiphooodijbhiaaRestMath
import Derived.Test.YtiphooodijbhiaaElse
import Derived.Maps.OwnSet
import Derived.DeepKeys4
import Derived.Test.YtiphooodijbhiaaRestByI
set_option linter.unusedSimpArgs false
set_option linter.unusedVariables false
namespace Go.Proofs.Ytiphooodijbhiaa
open Go.RowKit

open Go.ChangeMaps (setBlock heap_setBlock_same heap_setBlock_other)

theorem laidOutAll : laidOutB Try.prog = true := by kernel_rfl
theorem partsKey : Maps.Keyed Try.prog 84 :=
  Maps.Keyed.of_law (deep_law_laid laidOutAll (m := 2) (by omega) (of_decide_eq_true (by kernel_rfl)) (by kernel_rfl) (by kernel_rfl))
theorem keyOf_pair {P : Program} {k s : TypeId} {f0 f1 : Field} (hu : P.underlying k = some (.struct #[f0, f1])) (t0 : f0.type = s) (t1 : f1.type = s) (o0 : f0.offset = 0) (o1 : f1.offset = 1) (n0 : (f0.name != "_") = true) (n1 : (f1.name != "_") = true)
    (hs : P.underlying s = some .string) (hk : P.keyType k = true) (hc : P.cellsOf k = 2) (hc1 : P.cellsOf s = 1) (hpos : 0 < P.types.size) (T R : ByteArray) (hT : T.size ≤ maxLen) (hR : R.size ≤ maxLen) :
    ∃ l, keyOf P k (.agg #[.string T, .string R]) = some l := by
  obtain ⟨d, hd⟩ : ∃ d, P.types.size = d + 1 := ⟨P.types.size - 1, by omega⟩
  have hf : (Value.agg #[.string T, .string R]).formed P k = true := by simp [Value.formed, hu, hc]
  refine Option.isSome_iff_exists.1 ?_
  unfold keyOf
  rw [hu]
  simp only [hk, hf, Bool.and_self, if_true]
  rw [hd]
  simp only [Program.keyLits, hu, Value.cells]
  simp [hc, n0, n1, t0, t1, o0, o1, hc1, hs, hT, hR]
theorem keyOf_parts (T R : ByteArray) (hT : T.size ≤ 60) (hR : R.size ≤ 60) : ∃ l, keyOf Try.prog 84 (.agg #[.string T, .string R]) = some l :=
  keyOf_pair Try.underlying84 rfl rfl rfl rfl rfl rfl Try.underlying9 (by kernel_rfl) (by kernel_rfl) (by kernel_rfl) (of_decide_eq_true (by kernel_rfl)) T R (by unfold maxLen; omega) (by unfold maxLen; omega)

section
variable {w : World} {b n : Nat} {f : Nat → Bool} {m q : Nat}

/-- The block b is a map that has the first n rests, each with its place. -/
def IsTable (w : World) (b : Nat) (f : Nat → Bool) (m q n : Nat) : Prop :=
  ∃ es clock, w.heap[b]? = some (.map es clock) ∧ es.toList.map (fun e => (e.key, e.val)) = (List.range n).map fun i => (restV f m q i, Value.int .i64 i)
/-- The block b is a map. -/
def IsMapAt (w : World) (b : Nat) : Prop := ∃ es clock, w.heap[b]? = some (.map es clock)
theorem IsTable.isMap (h : IsTable w b f m q n) : IsMapAt w b := by
  obtain ⟨es, clock, hb, _⟩ := h
  exact ⟨es, clock, hb⟩
theorem IsMapAt.lt (h : IsMapAt w b) : b < w.heap.size := by
  obtain ⟨es, clock, hb⟩ := h
  rcases Nat.lt_or_ge b w.heap.size with k | k
  · exact k
  · rw [Array.getElem?_eq_none k] at hb; cases hb
theorem IsTable.below {w' : World} {B : Nat} (h : IsTable w b f m q n) (hb : Below B w w') (hg : b < B) : IsTable w' b f m q n := by
  obtain ⟨es, clock, h1, h2⟩ := h
  exact ⟨es, clock, (hb.block b hg).trans h1, h2⟩
theorem IsTable.step {w' : World} (h : IsTable w b f m q n) (hb : Below w.heap.size w w') : IsTable w' b f m q n := h.below hb h.isMap.lt
theorem IsMapAt.step {w' : World} (h : IsMapAt w b) (hb : Below w.heap.size w w') : IsMapAt w' b := by
  have hl := h.lt
  obtain ⟨es, clock, h1⟩ := h
  exact ⟨es, clock, (hb.block b hl).trans h1⟩
theorem isMap_made (w : World) : IsMapAt (w.alloc (.map #[] 0)) w.heap.size := ⟨#[], 0, heap_alloc_new w _⟩
theorem heap_setBlock_other' {w : World} {b i : Nat} {o : Obj} (_ : w.heap[b]? = some o) (o' : Obj) (h : i ≠ b) : (setBlock w b o').heap[i]? = w.heap[i]? := by
  unfold setBlock
  exact Array.getElem?_setIfInBounds_ne (fun e => h e.symm)
theorem else_setBlock {o o' : Obj} (hb : w.heap[b]? = some o) : Else b w (setBlock w b o') :=
  ⟨rfl, rfl, rfl, by simp [setBlock], fun k hk _ => heap_setBlock_other' hb _ hk⟩

theorem rests_at {l : List (Value × Value)} (h : l = (List.range n).map fun i => (restV f m q i, Value.int .i64 i)) {j : Nat} {x : Value × Value} (hj : l[j]? = some x) : j < n ∧ x = (restV f m q j, Value.int .i64 j) := by
  subst h
  rw [List.getElem?_map] at hj
  by_cases hlt : j < n
  · rw [List.getElem?_range hlt] at hj
    simp at hj
    exact ⟨hlt, hj.symm⟩
  · rw [List.getElem?_eq_none (by simp; omega)] at hj
    cases hj
theorem entry_at {es : Array MapEntry} (h : es.toList.map (fun e => (e.key, e.val)) = (List.range n).map fun i => (restV f m q i, Value.int .i64 i)) {j : Nat} {e : MapEntry} (hj : es.toList[j]? = some e) :
    j < n ∧ e.key = restV f m q j ∧ e.val = .int .i64 j := by
  have := rests_at h (j := j) (x := (e.key, e.val)) (by rw [List.getElem?_map, hj]; rfl)
  exact ⟨this.1, congrArg Prod.fst this.2, congrArg Prod.snd this.2⟩
theorem entry_there {es : Array MapEntry} (h : es.toList.map (fun e => (e.key, e.val)) = (List.range n).map fun i => (restV f m q i, Value.int .i64 i)) {j : Nat} (hj : j < n) : ∃ e, e ∈ es.toList ∧ e.key = restV f m q j := by
  have hl : es.toList.length = n := by
    have := congrArg List.length h
    simpa using this
  refine ⟨es.toList[j]'(by omega), List.getElem_mem _, ?_⟩
  exact (entry_at h (j := j) (List.getElem?_eq_getElem _)).2.1
theorem keyOf_rest (hm : m ≤ 60) (hq : q ≤ 60) (i : Nat) : ∃ l, keyOf Try.prog 84 (restV f m q i) = some l := keyOf_parts _ _ (by rw [tailT_size]; omega) (by rw [ringT_size]; exact hq)
theorem keys_there {es : Array MapEntry} (hm : m ≤ 60) (hq : q ≤ 60) (h : es.toList.map (fun e => (e.key, e.val)) = (List.range n).map fun i => (restV f m q i, Value.int .i64 i)) :
    ∀ e ∈ es.toList, ∃ l, keyOf Try.prog 84 e.key = some l := by
  intro e he
  obtain ⟨j, hj⟩ := List.mem_iff_getElem?.1 he
  rw [(entry_at h hj).2.1]
  exact keyOf_rest hm hq j

/-- A rest that is there is found. -/
theorem IsTable.hit (h : IsTable w b f m q n) (ht : Tidy f m q) (hm : m ≤ 60) (hq : q ≤ 60) (hn : n ≤ m + q) (c : Bool) {i : Nat} (hi : i < n) :
    (Instr.lookup 125 (.map (some b)) (restV f m q i) c).run Try.prog w = .ok (if c then .tuple #[.int .i64 i, .bool true] else .int .i64 i) w := by
  obtain ⟨es, clock, hb, he⟩ := h
  obtain ⟨l, hkey⟩ := keyOf_rest (f := f) hm hq i
  rcases partsKey.find w hkey es.toList (keys_there hm hq he) with ⟨_, h2⟩ | ⟨j, e0, h1, h2, h3⟩
  · obtain ⟨e, he1, he2⟩ := entry_there he hi
    exact absurd he2 (h2 e he1)
  · obtain ⟨hj, k1, k2⟩ := entry_at he h2
    have hji : j = i := by
      have := (restV_same ht j i).1 (k1.symm.trans h3)
      rcases Nat.lt_trichotomy j i with k | k | k
      · exact absurd this (down_diff ht k (by omega))
      · exact k
      · exact absurd this.symm (down_diff ht k (by omega))
    subst hji
    rw [k2] at h1
    simp [Instr.lookup, run_underlying Try.underlying125, MapKept.run_getObj_map hb, partsKey.check w _ hkey, h1, Result.andThen]
theorem IsTable.none_yet {es : Array MapEntry} (h : es.toList.map (fun e => (e.key, e.val)) = (List.range n).map fun i => (restV f m q i, Value.int .i64 i)) (ht : Tidy f m q) {k : Nat} (hk : n ≤ k) (hk2 : k < m + q) :
    ∀ e ∈ es.toList, e.key ≠ restV f m q k := by
  intro e he e2
  obtain ⟨j, hj⟩ := List.mem_iff_getElem?.1 he
  obtain ⟨hj2, k1, _⟩ := entry_at h hj
  exact down_diff ht (show j < k by omega) hk2 ((restV_same ht j k).1 (k1.symm.trans e2))
/-- A rest that is not there is not. -/
theorem IsTable.miss (h : IsTable w b f m q n) (ht : Tidy f m q) (hm : m ≤ 60) (hq : q ≤ 60) {k : Nat} (hk : n ≤ k) (hk2 : k < m + q) :
    (Instr.lookup 125 (.map (some b)) (restV f m q k) true).run Try.prog w = .ok (.tuple #[.int .i64 0, .bool false]) w := by
  obtain ⟨es, clock, hb, he⟩ := h
  obtain ⟨l, hkey⟩ := keyOf_rest (f := f) hm hq k
  have hz : (zeroValue 3).run Try.prog w = .ok (.int .i64 0) w := by kernel_rfl
  rcases partsKey.find w hkey es.toList (keys_there hm hq he) with ⟨h1, _⟩ | ⟨j, e0, h1, h2, h3⟩
  · simp [Instr.lookup, run_underlying Try.underlying125, MapKept.run_getObj_map hb, partsKey.check w _ hkey, h1, hz, Result.andThen]
  · exact absurd h3 (none_yet he ht hk hk2 e0 (List.mem_of_getElem? h2))
/-- One rest more. -/
theorem IsTable.store (h : IsTable w b f m q n) (ht : Tidy f m q) (hm : m ≤ 60) (hq : q ≤ 60) (hn : n < m + q) :
    ∃ w', (Instr.mapUpdate 125 (.map (some b)) (restV f m q n) (.int .i64 n)).run Try.prog w = .ok () w' ∧ IsTable w' b f m q (n + 1) ∧ Else b w w' := by
  obtain ⟨es, clock, hb, he⟩ := h
  obtain ⟨l, hkey⟩ := keyOf_rest (f := f) hm hq n
  rcases partsKey.find w hkey es.toList (keys_there hm hq he) with ⟨h1, _⟩ | ⟨j, e0, h1, h2, h3⟩
  · refine ⟨setBlock w b (.map (es.push ⟨restV f m q n, .int .i64 n, clock⟩) (clock + 1)), ?_, ⟨_, _, heap_setBlock_same hb _, ?_⟩, else_setBlock hb⟩
    · simp [Instr.mapUpdate, run_underlying Try.underlying125, MapKept.run_getObj_map hb, partsKey.check w false hkey, h1, MapKept.run_setObj_map _ hb, Result.andThen, setBlock]
    · rw [Array.toList_push, List.map_append, he, List.range_succ, List.map_append]; rfl
  · exact absurd h3 (none_yet he ht (Nat.le_refl _) hn e0 (List.mem_of_getElem? h2))
theorem IsTable.len (h : IsTable w b f m q n) (ty : TypeId) : (Builtin.len_ #[125] ty #[.map (some b)]).run Try.prog w = .ok (.int .i64 n) w := by
  obtain ⟨es, clock, hb, he⟩ := h
  have hl : es.size = n := by
    have := congrArg List.length he
    simpa using this
  simp [Builtin.len_, run_underlying Try.underlying125, MapKept.run_getObj_map hb, goInt, Result.andThen, hl]
/-- A map that is cleared. -/
theorem IsMapAt.clear (h : IsMapAt w b) (f : Nat → Bool) (m q : Nat) (ty : TypeId) :
    ∃ w', (Builtin.clear_ #[125] ty #[.map (some b)]).run Try.prog w = .ok (.tuple #[]) w' ∧ IsTable w' b f m q 0 ∧ Else b w w' := by
  obtain ⟨es, clock, hb⟩ := h
  refine ⟨setBlock w b (.map #[] clock), ?_, ⟨_, _, heap_setBlock_same hb _, rfl⟩, else_setBlock hb⟩
  simp [Builtin.clear_, run_underlying Try.underlying125, MapKept.run_getObj_map hb, MapKept.run_setObj_map _ hb, Result.andThen, setBlock]
end

/-! ### at the operation -/
section
variable {P : Program} {w : World} {ops : Array Oper} {rest : List Oper} {o : Oper} {a : Act} {Q : Exit → Act → World → Prop}
theorem wp_lookup (hg : o.guard = none) (m x : Operand) (t : TypeId) (c : Bool) (hop : o.op = Op.lookup t m x c) (mv key v : Value) (hm : a.eval m = mv) (hx : a.eval x = key)
    (hrun : (Instr.lookup t mv key c).run P w = .ok v w) (hK : wpList P ops Q rest (a.put o.dst v) w) : wpList P ops Q (o :: rest) a w := by
  refine wpList_plain hg fun K' hK' => ?_
  unfold Oper.wp
  simp [execOp, hop, hm, hx, hrun, Result.andThen]
  exact hK' _ _ hK
theorem wp_mapUpdate (hg : o.guard = none) (m x v : Operand) (t : TypeId) (hop : o.op = Op.mapUpdate t m x v) (mv key val : Value) (hm : a.eval m = mv) (hx : a.eval x = key) (hv : a.eval v = val) {w' : World}
    (hrun : (Instr.mapUpdate t mv key val).run P w = .ok () w') (hK : wpList P ops Q rest (a.put o.dst undef) w') : wpList P ops Q (o :: rest) a w := by
  refine wpList_plain hg fun K' hK' => ?_
  unfold Oper.wp
  simp [execOp, hop, hm, hx, hv, hrun, Result.andThen]
  exact hK' _ _ hK
theorem wp_clear (hg : o.guard = none) (m : Operand) (t : TypeId) (hop : o.op = Op.call { callee := Callee.builtin Builtin.clear, args := #[m], argTypes := #[t] }) (mv v : Value) (hm : a.eval m = mv) {w' : World}
    (hrun : (Builtin.clear_ #[t] o.type #[mv]).run P w = .ok v w') (hK : wpList P ops Q rest (a.put o.dst v) w') : wpList P ops Q (o :: rest) a w := by
  refine wpList_plain hg fun K' hK' => ?_
  unfold Oper.wp
  simp [execOp, hop, resolve, invoke, builtin, hm, hrun, Result.andThen]
  exact hK' _ _ hK
theorem wp_len (hg : o.guard = none) (m : Operand) (t : TypeId) (hop : o.op = Op.call { callee := Callee.builtin Builtin.len, args := #[m], argTypes := #[t] }) (mv v : Value) (hm : a.eval m = mv)
    (hrun : (Builtin.len_ #[t] o.type #[mv]).run P w = .ok v w) (hK : wpList P ops Q rest (a.put o.dst v) w) : wpList P ops Q (o :: rest) a w := by
  refine wpList_plain hg fun K' hK' => ?_
  unfold Oper.wp
  simp [execOp, hop, resolve, invoke, builtin, hm, hrun, Result.andThen]
  exact hK' _ _ hK
end

theorem LibAt.other {m : Int} {b : Nat} {w w' : World} (h : LibAt m w) (hb : IsMapAt w b) (he : Else b w w') : LibAt m w' := by
  have hn : 0 ≠ b := by
    intro e
    obtain ⟨es, clock, h1⟩ := hb
    have := h.cell
    rw [e] at this
    simp [World.cell?, h1] at this
  exact ⟨Nat.lt_of_lt_of_le h.lt he.size, (he.cell (p := ⟨0, 0, none⟩) hn h.lt).trans h.cell⟩
theorem Else.trans {b : Nat} {w w' w'' : World} (h : Else b w w') (k : Else b w' w'') : Else b w w'' :=
  ⟨k.os.trans h.os, k.tape.trans h.tape, k.output.trans h.output, Nat.le_trans h.size k.size, fun j hj hl => (k.block j hj (Nat.lt_of_lt_of_le hl h.size)).trans (h.block j hj hl)⟩
theorem else_below {b B : Nat} {w w' : World} (h : Below B w w') (hB : w.heap.size ≤ B) : Else b w w' :=
  ⟨h.os, h.tape, h.output, h.size, fun j _ hl => h.block j (Nat.lt_of_lt_of_le hl hB)⟩

/-- The cells of the first n rests. -/
def parCells (f : Nat → Bool) (m q n : Nat) : List Value := (List.range n).flatMap fun i => [.string (tailT f m i), .string (ringT f m q i)]
theorem parCells_succ (f : Nat → Bool) (m q n : Nat) : parCells f m q (n + 1) = parCells f m q n ++ [.string (tailT f m n), .string (ringT f m q n)] := by
  simp [parCells, List.range_succ]

theorem infoParts : (Try.prog.info? 84).map (fun i => (i.zero, i.size, i.bytes)) = some (some (.agg #[.string ⟨#[]⟩, .string ⟨#[]⟩]), 2, 32) := by kernel_rfl

/-- The world of fill's loop. -/
structure FillAt (f : Nat → Bool) (m q b S k : Nat) (v : Value) (w wr : World) : Prop where
  table : IsTable wr b f m q k
  own : wr.ownsRow (S + 1) 84 2 v k (parCells f m q k)
  box : wr.heap[S]? = some (.cells #[.slice none 0 0, .int .i64 0] 128 (0, 0))
  els : Else b w wr
  le : w.heap.size ≤ S
  lt : b < S
section
variable {f : Nat → Bool} {m q b S k : Nat} {v : Value} {w wr : World}
theorem FillAt.boxLt (h : FillAt f m q b S k v w wr) : S < wr.heap.size := by
  rcases Nat.lt_or_ge S wr.heap.size with k | k
  · exact k
  · have := h.box
    rw [Array.getElem?_eq_none k] at this; cases this
theorem FillAt.step {w' : World} (h : FillAt f m q b S k v w wr) (hb : Below wr.heap.size wr w') : FillAt f m q b S k v w w' :=
  ⟨h.table.step hb, own_below h.own hb (Nat.le_refl _), (hb.block S h.boxLt).trans h.box, h.els.trans (else_below hb (Nat.le_refl _)), h.le, h.lt⟩
theorem FillAt.alloc (h : FillAt f m q b S k v w wr) (o : Obj) : FillAt f m q b S k v w (wr.alloc o) := h.step ((Below.refl _ _).alloc (Nat.le_refl _) o)
theorem FillAt.notB (h : FillAt f m q b S k v w wr) : v.ownBlock ≠ some b := fun e => by
  have := (h.own.lt b e).1
  have := h.lt
  omega
/-- The map has turned. -/
theorem FillAt.turned {w' : World} (h : FillAt f m q b S k v w wr) (ht : IsTable w' b f m q (k + 1)) (he : Else b wr w') :
    IsTable w' b f m q (k + 1) ∧ w'.ownsRow (S + 1) 84 2 v k (parCells f m q k) ∧ w'.heap[S]? = some (.cells #[.slice none 0 0, .int .i64 0] 128 (0, 0)) ∧ Else b w w' :=
  ⟨ht, he.own h.own h.notB, (he.block S (by have := h.lt; omega) h.boxLt).trans h.box, h.els.trans he⟩
/-- The row has grown. -/
theorem fillAt_next {w1 w2 : World} {v' : Value} {o : Obj} (h : FillAt f m q b S k v w wr) (ht : IsTable w1 b f m q (k + 1)) (he : Else b wr w1)
    (hown : w2.ownsRow (S + 1) 84 2 v' (k + 1) (parCells f m q k ++ [.string (tailT f m k), .string (ringT f m q k)])) (hg : (w1.alloc o).grownBy w2 v.ownBlock) : FillAt f m q b S (k + 1) v' w w2 := by
  obtain ⟨t1, o1, b1, e1⟩ := h.turned ht he
  have hbl : b < w1.heap.size := ht.isMap.lt
  have hS : S < w1.heap.size := Nat.lt_of_lt_of_le h.boxLt he.size
  have hn : ∀ j, j ≤ S → some j ≠ v.ownBlock := fun j hj e => by
    have := (h.own.lt j e.symm).1
    omega
  have key : ∀ j, j ≤ S → w2.heap[j]? = w1.heap[j]? := fun j hj => by
    rw [hg.block j (by simp; omega) (hn j hj)]
    exact (MapKept.heap_alloc w1 o).2 j (by omega)
  refine ⟨?_, by rw [parCells_succ]; exact hown, (key S (Nat.le_refl _)).trans b1, ?_, h.le, h.lt⟩
  · obtain ⟨es, clock, h1, h2⟩ := ht
    exact ⟨es, clock, (key b (by have := h.lt; omega)).trans h1, h2⟩
  · refine ⟨hg.os.trans (show (w1.alloc o).os = w.os from e1.os), hg.tape.trans (show (w1.alloc o).tape = w.tape from e1.tape), hg.output.trans (show (w1.alloc o).output = w.output from e1.output), Nat.le_trans e1.size (Nat.le_trans (by simp) hg.size), fun j hj hl => ?_⟩
    have := h.le
    rw [key j (by omega)]
    exact e1.block j hj hl
theorem FillAt.boxed (h : FillAt f m q b S k v w wr) : wr.cell? ⟨S, 0, none⟩ = some (.slice none 0 0) ∧ wr.cell? ⟨S, 1, none⟩ = some (.int .i64 0) ∧ (∀ i, wr.frozen? ⟨S, i, none⟩ = false) :=
  ⟨by rw [cell_of_row wr _ _ _ _ _ h.box]; rfl, by rw [cell_of_row wr _ _ _ _ _ h.box]; rfl, fun i => frozen_of_row wr _ _ _ _ h.box⟩
/-- What is returned is stored. -/
theorem FillAt.done (h : FillAt f m q b S k v w wr) (x y : Value) : ((wr.setCell ⟨S, 0, none⟩ x).setCell ⟨S, 1, none⟩ y).ownsRow w.heap.size 84 2 v k (parCells f m q k) ∧
    IsTable ((wr.setCell ⟨S, 0, none⟩ x).setCell ⟨S, 1, none⟩ y) b f m q k ∧ Else b w ((wr.setCell ⟨S, 0, none⟩ x).setCell ⟨S, 1, none⟩ y) := by
  have hother : ∀ j, j ≠ S → ((wr.setCell ⟨S, 0, none⟩ x).setCell ⟨S, 1, none⟩ y).heap[j]? = wr.heap[j]? := fun j hj => by
    rw [heap_setCell_other _ _ _ _ hj, heap_setCell_other _ _ _ _ hj]
  have h1 := h.le
  have h2 := h.lt
  refine ⟨own_base (own_two h.own (Nat.lt_succ_self _) _ _) (by omega), ?_, ?_⟩
  · obtain ⟨es, clock, k1, k2⟩ := h.table
    exact ⟨es, clock, (hother b (by omega)).trans k1, k2⟩
  · exact ⟨h.els.os, h.els.tape, h.els.output, by simpa [World.setCell] using h.els.size, fun j hj hl => (hother j (by omega)).trans (h.els.block j hj hl)⟩
theorem FillAt.form (h : FillAt f m q b S k v w wr) : ∃ a c, v = .slice a k c := own_form h.own
end
theorem fillAt_start {f : Nat → Bool} {m q b : Nat} {w w1 : World} (hb : b < w.heap.size) (ht : IsTable w1 b f m q 0) (he : Else b (w.alloc (.cells #[.slice none 0 0, .int .i64 0] 128)) w1) :
    FillAt f m q b w.heap.size 0 (.slice (some ⟨w1.heap.size, 0, none⟩) 0 0) w (w1.alloc (.cells #[] 84)) := by
  have hsz : w.heap.size + 1 ≤ w1.heap.size := by have := he.size; simpa using this
  have e0 : Else b w (w.alloc (.cells #[.slice none 0 0, .int .i64 0] 128)) := else_below ((Below.refl w.heap.size w).alloc (Nat.le_refl _) _) (Nat.le_refl _)
  have al := (Below.refl w1.heap.size w1).alloc (Nat.le_refl _) (.cells #[] 84)
  refine ⟨ht.step al, World.ownsRow_made w1 #[] 0 hsz (by decide) rfl, ?_, (e0.trans he).trans (else_below al (Nat.le_refl _)), Nat.le_refl _, hb⟩
  rw [al.block _ (by omega), he.block w.heap.size (by omega) (by simp)]
  exact heap_alloc_new w _

set_option maxRecDepth 100000 in
set_option maxHeartbeats 2000000 in
theorem fill_on (s : ByteArray) (b m q : Nat) (m0 : Int) (w : World) (hs : s.size ≤ 1048576) (hL : LibAt m0 w) (ho : okS s = true) (ht : Tidy (fS s) m q) (hm : m ≤ 60) (hq : q ≤ 60) (hb : IsMapAt w b) :
    Calls Try.prog 104 #[.map (some b), .string s] w fun e w' =>
      ∃ a c, e = .returned (.tuple #[.agg #[.slice a (m + q : Nat) c, .int .i64 m], .bool true]) ∧ w'.ownsRow w.heap.size 84 2 (.slice a (m + q : Nat) c) (m + q) (parCells (fS s) m q (m + q)) ∧
        IsTable w' b (fS s) m q (m + q) ∧ Else b w w' := by
  obtain ⟨i0, hi, hz0, hz1, hz2⟩ := info_parts infoParts
  have hlt := hb.lt
  obtain ⟨w1, hcl, htab, hel⟩ := (hb.step ((Below.refl _ _).alloc (Nat.le_refl _) (.cells #[.slice none 0 0, .int .i64 0] 128))).clear (fS s) m q 0
  have HS := Lib.hid (fillAt_start hlt htab hel)
  have HL := Lib.hid hL
  have HM := Lib.hid hb
  clear htab hel hL hb
  go_enter Try.func104, Try.ntmps104
  go_wp2
  clear hcl
  go_loopw [6, 7] (fun v i wr => ∃ k : Nat, k ≤ m + q ∧ i = .int .i64 k ∧ FillAt (fS s) m q b w.heap.size k v w wr) (fun _ i _ => m + q + 1 - (intOf i).toNat)
  case atStart => exact ⟨0, Nat.zero_le _, rfl, HS.out⟩
  case round =>
    obtain ⟨k, hk, rfl, hF⟩ := hrel
    have hcall := restBy_on s k m q m0 _ hs (HL.out.other HM.out hF.els) ho ht hm hq (by omega)
    have HF := Lib.hid hF
    clear hF
    go_wp2_with fail
    refine hcall.mono ?_
    rintro e w2 ⟨rfl, hb2⟩
    have HF2 := Lib.hid ((HF.out.step hb2).alloc (.cells #[.string (tailT (fS s) m k), .string (ringT (fS s) m q k)] 84))
    clear hb2 HF hcall
    by_cases hlt2 : k < m + q
    · have hmiss := HF2.out.table.miss ht hm hq (Nat.le_refl k) hlt2
      obtain ⟨w3, hst, htab3, hel3⟩ := HF2.out.table.store ht hm hq hlt2
      unfold restV at hmiss hst
      have HN := Lib.hid (HF2.out.turned htab3 hel3)
      have HT3 := Lib.hid htab3
      have HE3 := Lib.hid hel3
      have hb2 : w2.heap.size ≠ b := by
        have := HF2.out.boxLt
        have h2 := HF2.out.lt
        simp at this
        omega
      have r0 : w3.cell? ⟨w2.heap.size, 0, none⟩ = some (.string (tailT (fS s) m k)) := (hel3.cell hb2 (by simp)).trans (by rw [World.cell?_alloc_at _ _ _ _ rfl]; rfl)
      have r1 : w3.cell? ⟨w2.heap.size, 1, none⟩ = some (.string (ringT (fS s) m q k)) := (hel3.cell hb2 (by simp)).trans (by rw [World.cell?_alloc_at _ _ _ _ rfl]; rfl)
      clear htab3 hel3
      go_wp2_with
        (at_builtin; refine wpList_append_own _ rfl _ _ 126 rfl (w.heap.size + 1) 84 i0 (.agg #[.string ⟨#[]⟩, .string ⟨#[]⟩]) 2 32 Try.underlying126 hi hz0 hz1 hz2 rfl (by decide) _ _ _ rfl (HN.out.2.1.alloc _) ⟨w3.heap.size, 0, none⟩ 1 1 [.string (tailT (fS s) m k), .string (ringT (fS s) m q k)] rfl rfl ?c1 ?c2 ?c3 ?c4 ?c5 ?_)
      case c1 =>
        intro j u hj
        match j, hj with
        | 0, hj => simp at hj; subst hj; simp [Addr.add]
        | 1, hj => simp at hj; subst hj; simp [Addr.add]
      case c2 => intro u hu; simp at hu; rcases hu with rfl | rfl <;> rfl
      case c3 => unfold maxLen; omega
      case c4 => omega
      case c5 =>
        have := HE3.out.size
        have h2 := HF2.out.boxLt
        simp at this h2 ⊢
        omega
      intro v' w4 hown4 hgrow _
      have HF4 := Lib.hid (fillAt_next HF2.out HT3.out HE3.out hown4 hgrow)
      clear hown4 hgrow hmiss hst
      go_wp2
      go_roundw
      case rel => exact ⟨k + 1, by omega, by go_num, HF4.out⟩
      case measure => simp [intOf]; omega
    · obtain rfl : k = m + q := by omega
      have hpl : placeF m q (m + q) = m := by unfold placeF; rw [if_neg (by omega)]; rw [show m + q - m = q from by omega, Nat.mod_self]; rfl
      have hhit := HF2.out.table.hit ht hm hq (Nat.le_refl _) true (i := m) (by have := ht.pos; omega)
      have e := restV_place ht (m + q)
      rw [hpl] at e
      rw [← e] at hhit
      unfold restV at hhit
      simp only [if_true] at hhit
      obtain ⟨a, c, rfl⟩ := HF2.out.form
      obtain ⟨q0, q1, z⟩ := HF2.out.boxed
      have z0 := z 0
      have z1 := z 1
      clear hpl e z
      go_wp2
      exact bodyPost_ret (v := .tuple #[.agg #[.slice a (m + q : Nat) c, .int .i64 m], .bool true]) (by simp [results, Try.results104, go_sem, q0, q1]) rfl ⟨a, c, rfl, HF2.out.done _ _⟩

set_option maxRecDepth 100000 in
set_option maxHeartbeats 1000000 in
theorem fill_off (s : ByteArray) (b m q : Nat) (f : Nat → Bool) (m0 : Int) (w : World) (hs : s.size ≤ 1048576) (hL : LibAt m0 w) (ho : okS s = false) (hb : IsMapAt w b) :
    Calls Try.prog 104 #[.map (some b), .string s] w fun e w' =>
      e = .returned (.tuple #[.agg #[.slice none 0 0, .int .i64 0], .bool false]) ∧ IsTable w' b f m q 0 ∧ Else b w w' := by
  have hlt := hb.lt
  obtain ⟨w1, hcl, htab, hel⟩ := (hb.step ((Below.refl _ _).alloc (Nat.le_refl _) (.cells #[.slice none 0 0, .int .i64 0] 128))).clear f m q 0
  have HS := Lib.hid (fillAt_start hlt htab hel)
  have hcall := restBy_off s 0 m0 (w1.alloc (.cells #[] 84)) hs (hL.other hb HS.out.els) (by rw [ho]; rfl)
  clear htab hel hL hb
  go_enter Try.func104, Try.ntmps104
  go_wp2
  clear hcl
  go_loopw [7] (fun i wr => i = .int .i64 0 ∧ wr = w1.alloc (.cells #[] 84)) (fun _ _ => 0)
  case atStart => exact ⟨rfl, rfl⟩
  case round =>
    obtain ⟨rfl, rfl⟩ := hrel
    go_wp2_with fail
    refine hcall.mono ?_
    rintro e w2 ⟨rfl, hb2⟩
    have HF2 := Lib.hid ((HS.out.step hb2).alloc (.cells #[.string ⟨#[]⟩, .string ⟨#[]⟩] 84))
    obtain ⟨q0, q1, z⟩ := HF2.out.boxed
    have z0 := z 0
    have z1 := z 1
    clear hb2 hcall z
    go_wp2
    exact bodyPost_ret (v := .tuple #[.agg #[.slice none 0 0, .int .i64 0], .bool false]) (by simp [results, Try.results104, go_sem, q0, q1]) rfl ⟨rfl, (HF2.out.done _ _).2⟩

theorem below_made {w w1 : World} (h : Else w.heap.size (w.alloc (.map #[] 0)) w1) : Below w.heap.size w w1 :=
  h.below ((Below.refl _ _).alloc (Nat.le_refl _) _) (Nat.le_refl _) (by simp)

end Go.Proofs.Ytiphooodijbhiaa
