/-
  A map whose keys are rests: what it holds, and what the operations on it do. Plain facts on a map's block.
-/
import Derived.Test.YtifodjlfjnmnkabRestMath
import Derived.Test.YtifodjlfjnmnkabElse
import Derived.Maps.OwnSet
import Derived.DeepKeys4
set_option linter.unusedVariables false
set_option linter.unusedSimpArgs false
namespace Go.Proofs.Ytifodjlfjnmnkab
open Go.RowKit
open Go.ChangeMaps (setBlock heap_setBlock_same heap_setBlock_other)

theorem laidOutAll : laidOutB Try.prog = true := by kernel_rfl
theorem partsKey : Maps.Keyed Try.prog 36 :=
  Maps.Keyed.of_law (deep_law_laid laidOutAll (m := 2) (by omega) (of_decide_eq_true (by kernel_rfl)) (by kernel_rfl) (by kernel_rfl))
theorem keyOf_pair {P : Program} {k s : TypeId} {f0 f1 : Field} (hu : P.underlying k = some (.struct #[f0, f1])) (t0 : f0.type = s) (t1 : f1.type = s) (o0 : f0.offset = 0) (o1 : f1.offset = 1) (n0 : (f0.name != "_") = true) (n1 : (f1.name != "_") = true)
    (hs : P.underlying s = some .string) (hk : P.keyType k = true) (hc : P.cellsOf k = 2) (hc1 : P.cellsOf s = 1) (hpos : 0 < P.types.size) (T R : ByteArray) (hT : T.size ≤ maxLen) (hR : R.size ≤ maxLen) :
    ∃ l, keyOf P k (.agg #[.string T, .string R]) = some l := by
  obtain ⟨d, hd⟩ : ∃ d, P.types.size = d + 1 := ⟨P.types.size - 1, by omega⟩
  have hf : (Value.agg #[.string T, .string R]).formed P k = true := by simp [Value.formed, hu, hc]
  refine Option.isSome_iff_exists.1 ?_
  unfold keyOf
  rw [hu]
  simp only [hk, hf, Bool.and_self, if_true]
  rw [hd]
  simp only [Program.keyLits, hu, Value.cells]
  simp [hc, n0, n1, t0, t1, o0, o1, hc1, hs, hT, hR]
theorem keyOf_parts (T R : ByteArray) (hT : T.size ≤ 60) (hR : R.size ≤ 60) : ∃ l, keyOf Try.prog 36 (.agg #[.string T, .string R]) = some l :=
  keyOf_pair Try.underlying36 rfl rfl rfl rfl rfl rfl Try.underlying9 (by kernel_rfl) (by kernel_rfl) (by kernel_rfl) (of_decide_eq_true (by kernel_rfl)) T R (by unfold maxLen; omega) (by unfold maxLen; omega)

section
variable {w : World} {b n : Nat} {f : Nat → Bool} {m q : Nat}

/-- The block b is a map that has the first n rests, each with its place. -/
def IsTable (w : World) (b : Nat) (f : Nat → Bool) (m q n : Nat) : Prop :=
  ∃ es clock, w.heap[b]? = some (.map es clock) ∧ es.toList.map (fun e => (e.key, e.val)) = (List.range n).map fun i => (restV f m q i, Value.int .i64 i)
/-- The block b is a map. -/
def IsMapAt (w : World) (b : Nat) : Prop := ∃ es clock, w.heap[b]? = some (.map es clock)
theorem IsTable.isMap (h : IsTable w b f m q n) : IsMapAt w b := by
  obtain ⟨es, clock, hb, _⟩ := h
  exact ⟨es, clock, hb⟩
theorem IsMapAt.lt (h : IsMapAt w b) : b < w.heap.size := by
  obtain ⟨es, clock, hb⟩ := h
  rcases Nat.lt_or_ge b w.heap.size with k | k
  · exact k
  · rw [Array.getElem?_eq_none k] at hb; cases hb
theorem IsTable.below {w' : World} {B : Nat} (h : IsTable w b f m q n) (hb : Below B w w') (hg : b < B) : IsTable w' b f m q n := by
  obtain ⟨es, clock, h1, h2⟩ := h
  exact ⟨es, clock, (hb.block b hg).trans h1, h2⟩
theorem IsTable.step {w' : World} (h : IsTable w b f m q n) (hb : Below w.heap.size w w') : IsTable w' b f m q n := h.below hb h.isMap.lt
theorem IsMapAt.step {w' : World} (h : IsMapAt w b) (hb : Below w.heap.size w w') : IsMapAt w' b := by
  have hl := h.lt
  obtain ⟨es, clock, h1⟩ := h
  exact ⟨es, clock, (hb.block b hl).trans h1⟩
theorem isMap_made (w : World) : IsMapAt (w.alloc (.map #[] 0)) w.heap.size := ⟨#[], 0, heap_alloc_new w _⟩
theorem heap_setBlock_other' {w : World} {b i : Nat} {o : Obj} (_ : w.heap[b]? = some o) (o' : Obj) (h : i ≠ b) : (setBlock w b o').heap[i]? = w.heap[i]? := by
  unfold setBlock
  exact Array.getElem?_setIfInBounds_ne (fun e => h e.symm)
theorem else_setBlock {o o' : Obj} (hb : w.heap[b]? = some o) : Else b w (setBlock w b o') :=
  ⟨rfl, rfl, rfl, by simp [setBlock], fun k hk _ => heap_setBlock_other' hb _ hk⟩

theorem rests_at {l : List (Value × Value)} (h : l = (List.range n).map fun i => (restV f m q i, Value.int .i64 i)) {j : Nat} {x : Value × Value} (hj : l[j]? = some x) : j < n ∧ x = (restV f m q j, Value.int .i64 j) := by
  subst h
  rw [List.getElem?_map] at hj
  by_cases hlt : j < n
  · rw [List.getElem?_range hlt] at hj
    simp at hj
    exact ⟨hlt, hj.symm⟩
  · rw [List.getElem?_eq_none (by simp; omega)] at hj
    cases hj
theorem entry_at {es : Array MapEntry} (h : es.toList.map (fun e => (e.key, e.val)) = (List.range n).map fun i => (restV f m q i, Value.int .i64 i)) {j : Nat} {e : MapEntry} (hj : es.toList[j]? = some e) :
    j < n ∧ e.key = restV f m q j ∧ e.val = .int .i64 j := by
  have := rests_at h (j := j) (x := (e.key, e.val)) (by rw [List.getElem?_map, hj]; rfl)
  exact ⟨this.1, congrArg Prod.fst this.2, congrArg Prod.snd this.2⟩
theorem entry_there {es : Array MapEntry} (h : es.toList.map (fun e => (e.key, e.val)) = (List.range n).map fun i => (restV f m q i, Value.int .i64 i)) {j : Nat} (hj : j < n) : ∃ e, e ∈ es.toList ∧ e.key = restV f m q j := by
  have hl : es.toList.length = n := by
    have := congrArg List.length h
    simpa using this
  refine ⟨es.toList[j]'(by omega), List.getElem_mem _, ?_⟩
  exact (entry_at h (j := j) (List.getElem?_eq_getElem _)).2.1
theorem keyOf_rest (hm : m ≤ 60) (hq : q ≤ 60) (i : Nat) : ∃ l, keyOf Try.prog 36 (restV f m q i) = some l := keyOf_parts _ _ (by rw [tailT_size]; omega) (by rw [ringT_size]; exact hq)
theorem keys_there {es : Array MapEntry} (hm : m ≤ 60) (hq : q ≤ 60) (h : es.toList.map (fun e => (e.key, e.val)) = (List.range n).map fun i => (restV f m q i, Value.int .i64 i)) :
    ∀ e ∈ es.toList, ∃ l, keyOf Try.prog 36 e.key = some l := by
  intro e he
  obtain ⟨j, hj⟩ := List.mem_iff_getElem?.1 he
  rw [(entry_at h hj).2.1]
  exact keyOf_rest hm hq j

/-- A rest that is there is found. -/
theorem IsTable.hit (h : IsTable w b f m q n) (ht : Tidy f m q) (hm : m ≤ 60) (hq : q ≤ 60) (hn : n ≤ m + q) (c : Bool) {i : Nat} (hi : i < n) :
    (Instr.lookup 40 (.map (some b)) (restV f m q i) c).run Try.prog w = .ok (if c then .tuple #[.int .i64 i, .bool true] else .int .i64 i) w := by
  obtain ⟨es, clock, hb, he⟩ := h
  obtain ⟨l, hkey⟩ := keyOf_rest (f := f) hm hq i
  rcases partsKey.find w hkey es.toList (keys_there hm hq he) with ⟨_, h2⟩ | ⟨j, e0, h1, h2, h3⟩
  · obtain ⟨e, he1, he2⟩ := entry_there he hi
    exact absurd he2 (h2 e he1)
  · obtain ⟨hj, k1, k2⟩ := entry_at he h2
    have hji : j = i := by
      have := (restV_same ht j i).1 (k1.symm.trans h3)
      rcases Nat.lt_trichotomy j i with k | k | k
      · exact absurd this (down_diff ht k (by omega))
      · exact k
      · exact absurd this.symm (down_diff ht k (by omega))
    subst hji
    rw [k2] at h1
    simp [Instr.lookup, run_underlying Try.underlying40, MapKept.run_getObj_map hb, partsKey.check w _ hkey, h1, Result.andThen]
theorem IsTable.none_yet {es : Array MapEntry} (h : es.toList.map (fun e => (e.key, e.val)) = (List.range n).map fun i => (restV f m q i, Value.int .i64 i)) (ht : Tidy f m q) {k : Nat} (hk : n ≤ k) (hk2 : k < m + q) :
    ∀ e ∈ es.toList, e.key ≠ restV f m q k := by
  intro e he e2
  obtain ⟨j, hj⟩ := List.mem_iff_getElem?.1 he
  obtain ⟨hj2, k1, _⟩ := entry_at h hj
  exact down_diff ht (show j < k by omega) hk2 ((restV_same ht j k).1 (k1.symm.trans e2))
/-- A rest that is not there is not. -/
theorem IsTable.miss (h : IsTable w b f m q n) (ht : Tidy f m q) (hm : m ≤ 60) (hq : q ≤ 60) {k : Nat} (hk : n ≤ k) (hk2 : k < m + q) :
    (Instr.lookup 40 (.map (some b)) (restV f m q k) true).run Try.prog w = .ok (.tuple #[.int .i64 0, .bool false]) w := by
  obtain ⟨es, clock, hb, he⟩ := h
  obtain ⟨l, hkey⟩ := keyOf_rest (f := f) hm hq k
  have hz : (zeroValue 3).run Try.prog w = .ok (.int .i64 0) w := by kernel_rfl
  rcases partsKey.find w hkey es.toList (keys_there hm hq he) with ⟨h1, _⟩ | ⟨j, e0, h1, h2, h3⟩
  · simp [Instr.lookup, run_underlying Try.underlying40, MapKept.run_getObj_map hb, partsKey.check w _ hkey, h1, hz, Result.andThen]
  · exact absurd h3 (none_yet he ht hk hk2 e0 (List.mem_of_getElem? h2))
/-- One rest more. -/
theorem IsTable.store (h : IsTable w b f m q n) (ht : Tidy f m q) (hm : m ≤ 60) (hq : q ≤ 60) (hn : n < m + q) :
    ∃ w', (Instr.mapUpdate 40 (.map (some b)) (restV f m q n) (.int .i64 n)).run Try.prog w = .ok () w' ∧ IsTable w' b f m q (n + 1) ∧ Else b w w' := by
  obtain ⟨es, clock, hb, he⟩ := h
  obtain ⟨l, hkey⟩ := keyOf_rest (f := f) hm hq n
  rcases partsKey.find w hkey es.toList (keys_there hm hq he) with ⟨h1, _⟩ | ⟨j, e0, h1, h2, h3⟩
  · refine ⟨setBlock w b (.map (es.push ⟨restV f m q n, .int .i64 n, clock⟩) (clock + 1)), ?_, ⟨_, _, heap_setBlock_same hb _, ?_⟩, else_setBlock hb⟩
    · simp [Instr.mapUpdate, run_underlying Try.underlying40, MapKept.run_getObj_map hb, partsKey.check w false hkey, h1, MapKept.run_setObj_map _ hb, Result.andThen, setBlock]
    · rw [Array.toList_push, List.map_append, he, List.range_succ, List.map_append]; rfl
  · exact absurd h3 (none_yet he ht (Nat.le_refl _) hn e0 (List.mem_of_getElem? h2))
theorem IsTable.len (h : IsTable w b f m q n) (ty : TypeId) : (Builtin.len_ #[40] ty #[.map (some b)]).run Try.prog w = .ok (.int .i64 n) w := by
  obtain ⟨es, clock, hb, he⟩ := h
  have hl : es.size = n := by
    have := congrArg List.length he
    simpa using this
  simp [Builtin.len_, run_underlying Try.underlying40, MapKept.run_getObj_map hb, goInt, Result.andThen, hl]
/-- A map that is cleared. -/
theorem IsMapAt.clear (h : IsMapAt w b) (f : Nat → Bool) (m q : Nat) (ty : TypeId) :
    ∃ w', (Builtin.clear_ #[40] ty #[.map (some b)]).run Try.prog w = .ok (.tuple #[]) w' ∧ IsTable w' b f m q 0 ∧ Else b w w' := by
  obtain ⟨es, clock, hb⟩ := h
  refine ⟨setBlock w b (.map #[] clock), ?_, ⟨_, _, heap_setBlock_same hb _, rfl⟩, else_setBlock hb⟩
  simp [Builtin.clear_, run_underlying Try.underlying40, MapKept.run_getObj_map hb, MapKept.run_setObj_map _ hb, Result.andThen, setBlock]
end

/-! ### at the operation -/
section
variable {P : Program} {w : World} {ops : Array Oper} {rest : List Oper} {o : Oper} {a : Act} {Q : Exit → Act → World → Prop}
theorem wp_lookup (hg : o.guard = none) (m x : Operand) (t : TypeId) (c : Bool) (hop : o.op = Op.lookup t m x c) (mv key v : Value) (hm : a.eval m = mv) (hx : a.eval x = key)
    (hrun : (Instr.lookup t mv key c).run P w = .ok v w) (hK : wpList P ops Q rest (a.put o.dst v) w) : wpList P ops Q (o :: rest) a w := by
  refine wpList_plain hg fun K' hK' => ?_
  unfold Oper.wp
  simp [execOp, hop, hm, hx, hrun, Result.andThen]
  exact hK' _ _ hK
theorem wp_mapUpdate (hg : o.guard = none) (m x v : Operand) (t : TypeId) (hop : o.op = Op.mapUpdate t m x v) (mv key val : Value) (hm : a.eval m = mv) (hx : a.eval x = key) (hv : a.eval v = val) {w' : World}
    (hrun : (Instr.mapUpdate t mv key val).run P w = .ok () w') (hK : wpList P ops Q rest (a.put o.dst undef) w') : wpList P ops Q (o :: rest) a w := by
  refine wpList_plain hg fun K' hK' => ?_
  unfold Oper.wp
  simp [execOp, hop, hm, hx, hv, hrun, Result.andThen]
  exact hK' _ _ hK
theorem wp_clear (hg : o.guard = none) (m : Operand) (t : TypeId) (hop : o.op = Op.call { callee := Callee.builtin Builtin.clear, args := #[m], argTypes := #[t] }) (mv v : Value) (hm : a.eval m = mv) {w' : World}
    (hrun : (Builtin.clear_ #[t] o.type #[mv]).run P w = .ok v w') (hK : wpList P ops Q rest (a.put o.dst v) w') : wpList P ops Q (o :: rest) a w := by
  refine wpList_plain hg fun K' hK' => ?_
  unfold Oper.wp
  simp [execOp, hop, resolve, invoke, builtin, hm, hrun, Result.andThen]
  exact hK' _ _ hK
theorem wp_len (hg : o.guard = none) (m : Operand) (t : TypeId) (hop : o.op = Op.call { callee := Callee.builtin Builtin.len, args := #[m], argTypes := #[t] }) (mv v : Value) (hm : a.eval m = mv)
    (hrun : (Builtin.len_ #[t] o.type #[mv]).run P w = .ok v w) (hK : wpList P ops Q rest (a.put o.dst v) w) : wpList P ops Q (o :: rest) a w := by
  refine wpList_plain hg fun K' hK' => ?_
  unfold Oper.wp
  simp [execOp, hop, resolve, invoke, builtin, hm, hrun, Result.andThen]
  exact hK' _ _ hK
end
end Go.Proofs.Ytifodjlfjnmnkab
