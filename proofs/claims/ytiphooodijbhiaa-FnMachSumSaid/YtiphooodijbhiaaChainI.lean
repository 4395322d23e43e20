/-
  The walk of Machine.chain: the states of the single machine, linked by pointers.
-/
import Derived.Test.YtiphooodijbhiaaMachI
import Derived.Laws.Rows
import Derived.Deep.RegionHeld3
import Derived.Deep.LoopGhost
namespace Go.Proofs.Ytiphooodijbhiaa
open Go.RowKit
set_option linter.unusedVariables false

/-- A state's cells. -/
def stV (x i : Nat) (v : Option Addr) : Array Value := #[.int .i64 x, .int .i64 i, .pointer v]

/-- The world of chain's loop: states 0 to k, of which the first kn are known. -/
structure ChainAt (g : Nat → Nat) (A : Nat → Nat) (k kn S : Nat) (w : World) : Prop where
  res : w.heap[S + 1]? = some (.cells #[.pointer none, .pointer none] 67 (0, 0))
  known : ∃ cur, w.heap[S + 1 + 1]? = some (.cells cur 115 (0, 0)) ∧ cur.size = 32 ∧ (∀ i, i < kn → cur[g i]? = some (.pointer (some ⟨A i, 0, none⟩))) ∧ (∀ x, x < 32 → (∀ i, i < kn → g i ≠ x) → cur[x]? = some (.pointer none))
  st : ∀ i, i < k → w.heap[A i]? = some (.cells (stV (g i) i (some ⟨A (i + 1), 0, none⟩)) 65 (0, 0))
  last : w.heap[A k]? = some (.cells (stV (g k) k none) 65 (0, 0))
  ge : ∀ i, i ≤ k → S + 1 + 1 < A i
  dist : ∀ i j, i < j → j ≤ k → A i ≠ A j
  size : S + 1 + 1 < w.heap.size

theorem ChainAt.step {g A : Nat → Nat} {k kn S : Nat} {w w' : World} (h : ChainAt g A k kn S w) (hb : Below w.heap.size w w') : ChainAt g A k kn S w' := by
  obtain ⟨cur, c1, c2⟩ := h.known
  have hs := h.size
  exact ⟨(hb.block _ (by omega)).trans h.res, ⟨cur, (hb.block _ hs).trans c1, c2⟩, fun i hi => (hb.block _ (lt_of_block (h.st i hi))).trans (h.st i hi), (hb.block _ (lt_of_block h.last)).trans h.last, h.ge, h.dist, Nat.lt_of_lt_of_le hs hb.size⟩

theorem ChainAt.mark {g A : Nat → Nat} {k S : Nat} {w : World} (h : ChainAt g A k k S w) (hg : ∀ i, g i < 32) (hd : ∀ i, i < k → g i ≠ g k) :
    ChainAt g A k (k + 1) S (w.setCell ⟨S + 1 + 1, g k, none⟩ (.pointer (some ⟨A k, 0, none⟩))) := by
  obtain ⟨cur, c1, c2, c3, c4⟩ := h.known
  have hge := h.ge
  refine ⟨(heap_setCell_other w _ _ _ (by show S + 1 ≠ S + 1 + 1; omega)).trans h.res, ⟨_, heap_setCell_same w _ _ _ _ _ c1, by simpa using c2, ?_, ?_⟩,
    fun i hi => (heap_setCell_other w _ _ _ (by have := hge i (by omega); show A i ≠ S + 1 + 1; omega)).trans (h.st i hi),
    (heap_setCell_other w _ _ _ (by have := hge k (by omega); show A k ≠ S + 1 + 1; omega)).trans h.last, hge, h.dist, by simpa [World.setCell] using h.size⟩
  · intro i hi
    rw [Array.getElem?_setIfInBounds]
    by_cases e : i = k
    · rw [e, if_pos rfl, if_pos (by rw [c2]; exact hg k)]
    · rw [if_neg (fun e2 => hd i (by omega) e2.symm)]; exact c3 i (by omega)
  · intro x hx hn
    rw [Array.getElem?_setIfInBounds, if_neg (hn k (by omega))]
    exact c4 x hx fun i hi => hn i (by omega)

theorem ChainAt.knownCell {g A : Nat → Nat} {k kn S : Nat} {w : World} (h : ChainAt g A k kn S w) {x : Nat} (hx : x < 32) :
    (∃ u, w.cell? ⟨S + 1 + 1, x, none⟩ = some u) ∧ w.frozen? ⟨S + 1 + 1, x, none⟩ = false := by
  obtain ⟨cur, c1, c2, _⟩ := h.known
  refine ⟨⟨cur[x]'(by omega), ?_⟩, frozen_of_row w _ _ _ _ c1⟩
  rw [cell_of_row w _ _ _ _ _ c1]
  exact Array.getElem?_eq_getElem (by omega)
theorem ChainAt.hit {g A : Nat → Nat} {k kn S : Nat} {w : World} (h : ChainAt g A k kn S w) {i : Nat} (hi : i < kn) : w.cell? ⟨S + 1 + 1, g i, none⟩ = some (.pointer (some ⟨A i, 0, none⟩)) := by
  obtain ⟨cur, c1, c2, c3, c4⟩ := h.known
  rw [cell_of_row w _ _ _ _ _ c1]; exact c3 i hi
theorem ChainAt.miss {g A : Nat → Nat} {k kn S : Nat} {w : World} (h : ChainAt g A k kn S w) {x : Nat} (hx : x < 32) (hn : ∀ i, i < kn → g i ≠ x) : w.cell? ⟨S + 1 + 1, x, none⟩ = some (.pointer none) := by
  obtain ⟨cur, c1, c2, c3, c4⟩ := h.known
  rw [cell_of_row w _ _ _ _ _ c1]; exact c4 x hx hn
theorem ChainAt.cells {g A : Nat → Nat} {k kn S : Nat} {w : World} (h : ChainAt g A k kn S w) :
    w.cell? ⟨A k, 0, none⟩ = some (.int .i64 (g k)) ∧ w.cell? ⟨A k, 1, none⟩ = some (.int .i64 k) ∧ w.cell? ⟨A k, 2, none⟩ = some (.pointer none) ∧ w.frozen? ⟨A k, 2, none⟩ = false ∧
    w.cell? ⟨S + 1, 0, none⟩ = some (.pointer none) ∧ w.cell? ⟨S + 1, 1, none⟩ = some (.pointer none) ∧ w.frozen? ⟨S + 1, 0, none⟩ = false ∧ w.frozen? ⟨S + 1, 1, none⟩ = false := by
  refine ⟨?_, ?_, ?_, frozen_of_row w _ _ _ _ h.last, ?_, ?_, frozen_of_row w _ _ _ _ h.res, frozen_of_row w _ _ _ _ h.res⟩
  · rw [cell_of_row w _ _ _ _ _ h.last]; rfl
  · rw [cell_of_row w _ _ _ _ _ h.last]; rfl
  · rw [cell_of_row w _ _ _ _ _ h.last]; rfl
  · rw [cell_of_row w _ _ _ _ _ h.res]; rfl
  · rw [cell_of_row w _ _ _ _ _ h.res]; rfl

/-- One state more: linked to by the last one. -/
theorem ChainAt.next {g A : Nat → Nat} {k S : Nat} {w : World} (h : ChainAt g A k (k + 1) S w) :
    ChainAt g (fun i => if i = k + 1 then w.heap.size else A i) (k + 1) (k + 1) S
      (((w.setCell ⟨A k, 2, none⟩ (.pointer none)).setCell ⟨A k, 2, none⟩ (.pointer (some ⟨w.heap.size, 0, none⟩))).alloc (.cells (stV (g (k + 1)) (k + 1) none) 65)) := by
  obtain ⟨cur, c1, c2, c3, c4⟩ := h.known
  have hge := h.ge k (Nat.le_refl _)
  have hs := h.size
  have hlt := lt_of_block h.last
  have hsz : ((w.setCell ⟨A k, 2, none⟩ (.pointer none)).setCell ⟨A k, 2, none⟩ (.pointer (some ⟨w.heap.size, 0, none⟩))).heap.size = w.heap.size := by simp [World.setCell]
  have hk := heap_setCell_same _ (A k) 2 _ _ (.pointer (some ⟨w.heap.size, 0, none⟩)) (heap_setCell_same w (A k) 2 _ _ (.pointer none) h.last)
  have ho : ∀ b, b ≠ A k → ((w.setCell ⟨A k, 2, none⟩ (.pointer none)).setCell ⟨A k, 2, none⟩ (.pointer (some ⟨w.heap.size, 0, none⟩))).heap[b]? = w.heap[b]? := fun b h1 => by
    rw [heap_setCell_other _ _ _ _ (by exact h1), heap_setCell_other _ _ _ _ (by exact h1)]
  generalize (w.setCell ⟨A k, 2, none⟩ (.pointer none)).setCell ⟨A k, 2, none⟩ (.pointer (some ⟨w.heap.size, 0, none⟩)) = w2 at hsz hk ho ⊢
  have old : ∀ b, b ≠ A k → b < w.heap.size → (w2.alloc (.cells (stV (g (k + 1)) (k + 1) none) 65)).heap[b]? = w.heap[b]? := fun b h1 h2 => by
    rw [Below.heap_alloc _ _ b (by rw [hsz]; exact h2), ho b h1]
  have new : (w2.alloc (.cells (stV (g (k + 1)) (k + 1) none) 65)).heap[w.heap.size]? = some (.cells (stV (g (k + 1)) (k + 1) none) 65 (0, 0)) := by
    have := heap_alloc_new w2 (.cells (stV (g (k + 1)) (k + 1) none) 65)
    rw [hsz] at this
    exact this
  refine ⟨(old _ (by omega) (by omega)).trans h.res, ⟨cur, (old _ (by omega) hs).trans c1, c2, fun i hi => ?_, c4⟩, fun i hi => ?_, ?_, fun i hi => ?_, fun i j hij hj => ?_, by rw [World.size_alloc, hsz]; omega⟩
  · rw [c3 i hi]; simp only [show i ≠ k + 1 from by omega, if_false]
  · simp only [show i ≠ k + 1 from by omega, if_false]
    by_cases e : i = k
    · subst e
      rw [if_pos rfl]
      exact (Below.heap_alloc _ _ (A i) (by rw [hsz]; exact hlt)).trans hk
    · simp only [show i + 1 ≠ k + 1 from by omega, if_false]
      exact (old _ (h.dist i k (by omega) (Nat.le_refl _)) (lt_of_block (h.st i (by omega)))).trans (h.st i (by omega))
  · rw [if_pos rfl]; exact new
  · show S + 1 + 1 < (if i = k + 1 then w.heap.size else A i)
    split
    · omega
    · exact h.ge i (by omega)
  · simp only [show i ≠ k + 1 from by omega, if_false]
    have h3 : A i < w.heap.size := by
      by_cases e : i = k
      · rw [e]; exact hlt
      · exact lt_of_block (h.st i (by omega))
    split
    · omega
    · exact h.dist i j hij (by omega)

/-- The linked states. -/
structure ChainIn (g : Nat → Nat) (p q : Nat) (A : Nat → Nat) (w : World) : Prop where
  set : ∀ i, i < p + q → w.cell? ⟨A i, 0, none⟩ = some (.int .i64 (g i))
  steps : ∀ i, i < p + q → w.cell? ⟨A i, 1, none⟩ = some (.int .i64 i)
  next : ∀ i, i < p + q → w.cell? ⟨A i, 2, none⟩ = some (.pointer (some ⟨A (if i + 1 = p + q then p else i + 1), 0, none⟩))
  lt : ∀ i, i < p + q → A i < w.heap.size
theorem ChainIn.step {g A : Nat → Nat} {p q : Nat} {w w' : World} (h : ChainIn g p q A w) (hb : Below w.heap.size w w') : ChainIn g p q A w' :=
  ⟨fun i hi => (hb.cell (p := ⟨A i, 0, none⟩) (h.lt i hi)).trans (h.set i hi), fun i hi => (hb.cell (p := ⟨A i, 1, none⟩) (h.lt i hi)).trans (h.steps i hi),
   fun i hi => (hb.cell (p := ⟨A i, 2, none⟩) (h.lt i hi)).trans (h.next i hi), fun i hi => Nat.lt_of_lt_of_le (h.lt i hi) hb.size⟩

theorem ChainAt.done {g A : Nat → Nat} {k S p q : Nat} {w : World} (h : ChainAt g A k (k + 1) S w) (e : p + q = k + 1) (u v : Value) :
    ChainIn g p q A (((w.setCell ⟨A k, 2, none⟩ (.pointer (some ⟨A p, 0, none⟩))).setCell ⟨S + 1, 0, none⟩ u).setCell ⟨S + 1, 1, none⟩ v) := by
  have hge := h.ge
  have key : ∀ i, i < p + q → (((w.setCell ⟨A k, 2, none⟩ (.pointer (some ⟨A p, 0, none⟩))).setCell ⟨S + 1, 0, none⟩ u).setCell ⟨S + 1, 1, none⟩ v).heap[A i]? = some (.cells (stV (g i) i (some ⟨A (if i + 1 = p + q then p else i + 1), 0, none⟩)) 65 (0, 0)) := by
    intro i hi
    have := hge i (by omega)
    rw [heap_setCell_other _ _ _ _ (by show A i ≠ S + 1; omega), heap_setCell_other _ _ _ _ (by show A i ≠ S + 1; omega)]
    by_cases ei : i = k
    · subst ei
      rw [if_pos (by omega)]
      exact heap_setCell_same w (A i) 2 _ _ (.pointer (some ⟨A p, 0, none⟩)) h.last
    · rw [if_neg (by omega), heap_setCell_other _ _ _ _ (by exact h.dist i k (by omega) (Nat.le_refl _))]
      exact h.st i (by omega)
  refine ⟨fun i hi => ?_, fun i hi => ?_, fun i hi => ?_, fun i hi => lt_of_block (key i hi)⟩
  · rw [cell_of_row _ _ _ _ _ _ (key i hi)]; rfl
  · rw [cell_of_row _ _ _ _ _ _ (key i hi)]; rfl
  · rw [cell_of_row _ _ _ _ _ _ (key i hi)]; rfl


/-- The machine's box, and the chain so far. -/
structure LinkAt (a : Option Addr) (n c : Nat) (b e : Int) (g : Nat → Nat) (A : Nat → Nat) (k kn S : Nat) (w wr : World) : Prop where
  box : BoxM a n c b e S w wr
  chain : ChainAt g A k kn S wr
theorem LinkAt.step {a : Option Addr} {n c : Nat} {b e : Int} {g A : Nat → Nat} {k kn S : Nat} {w wr w1 : World} (h : LinkAt a n c b e g A k kn S w wr) (hb : Below wr.heap.size wr w1) : LinkAt a n c b e g A k kn S w w1 :=
  ⟨h.box.step hb, h.chain.step hb⟩
theorem LinkAt.cells {a : Option Addr} {n c : Nat} {b e : Int} {g A : Nat → Nat} {k kn S : Nat} {w wr : World} (h : LinkAt a n c b e g A k kn S w wr) :
    wr.cell? ⟨S, 0, none⟩ = some (.slice a n c) ∧ wr.cell? ⟨S, 1, none⟩ = some (.int .i64 b) ∧ wr.cell? ⟨S, 2, none⟩ = some (.int .i64 e) ∧ wr.cell? ⟨A k, 0, none⟩ = some (.int .i64 (g k)) ∧ LinkAt a n c b e g A k kn S w wr :=
  ⟨h.box.q0, h.box.q1, h.box.q2, h.chain.cells.1, h⟩
theorem LinkAt.mark {a : Option Addr} {n c : Nat} {b e : Int} {g A : Nat → Nat} {k S : Nat} {w wr : World} (h : LinkAt a n c b e g A k k S w wr) (hg : ∀ i, g i < 32) (hd : ∀ i, i < k → g i ≠ g k) :
    LinkAt a n c b e g A k (k + 1) S w (wr.setCell ⟨S + 1 + 1, g k, none⟩ (.pointer (some ⟨A k, 0, none⟩))) :=
  ⟨h.box.store (by show S < S + 1 + 1; omega) _, h.chain.mark hg hd⟩
theorem LinkAt.next {a : Option Addr} {n c : Nat} {b e : Int} {g A : Nat → Nat} {k S : Nat} {w wr : World} (h : LinkAt a n c b e g A k (k + 1) S w wr) :
    LinkAt a n c b e g (fun i => if i = k + 1 then wr.heap.size else A i) (k + 1) (k + 1) S w
      (((wr.setCell ⟨A k, 2, none⟩ (.pointer none)).setCell ⟨A k, 2, none⟩ (.pointer (some ⟨wr.heap.size, 0, none⟩))).alloc (.cells (stV (g (k + 1)) (k + 1) none) 65)) := by
  have h1 := h.chain.ge k (Nat.le_refl _)
  exact ⟨((h.box.store (by show S < A k; omega) _).store (by show S < A k; omega) _).step ((Below.refl _ _).alloc (Nat.le_refl _) _), h.chain.next⟩
theorem LinkAt.done {a : Option Addr} {n c : Nat} {b e : Int} {g A : Nat → Nat} {k S p q : Nat} {w wr : World} (h : LinkAt a n c b e g A k (k + 1) S w wr) (hk : p + q = k + 1) (u v : Value) :
    ChainIn g p q A (((wr.setCell ⟨A k, 2, none⟩ (.pointer (some ⟨A p, 0, none⟩))).setCell ⟨S + 1, 0, none⟩ u).setCell ⟨S + 1, 1, none⟩ v) ∧
    Below S w (((wr.setCell ⟨A k, 2, none⟩ (.pointer (some ⟨A p, 0, none⟩))).setCell ⟨S + 1, 0, none⟩ u).setCell ⟨S + 1, 1, none⟩ v) ∧
    (((wr.setCell ⟨A k, 2, none⟩ (.pointer (some ⟨A p, 0, none⟩))).setCell ⟨S + 1, 0, none⟩ u).setCell ⟨S + 1, 1, none⟩ v).cell? ⟨S + 1, 0, none⟩ = some u ∧
    (((wr.setCell ⟨A k, 2, none⟩ (.pointer (some ⟨A p, 0, none⟩))).setCell ⟨S + 1, 0, none⟩ u).setCell ⟨S + 1, 1, none⟩ v).cell? ⟨S + 1, 1, none⟩ = some v := by
  have h1 := h.chain.ge k (Nat.le_refl _)
  have hb := heap_setCell_same _ (S + 1) 1 _ _ v (heap_setCell_same _ (S + 1) 0 _ _ u ((heap_setCell_other wr ⟨A k, 2, none⟩ (S + 1) (.pointer (some ⟨A p, 0, none⟩)) (by show S + 1 ≠ A k; omega)).trans h.chain.res))
  refine ⟨h.chain.done hk u v, (((h.box.store (by show S < A k; omega) _).store (by show S < S + 1; omega) _).store (by show S < S + 1; omega) _).below, ?_, ?_⟩
  · rw [cell_of_row _ _ _ _ _ _ hb]; rfl
  · rw [cell_of_row _ _ _ _ _ _ hb]; rfl
/-- No state is known. -/
def noneKnown : Array Value := #[.pointer none, .pointer none, .pointer none, .pointer none, .pointer none, .pointer none, .pointer none, .pointer none, .pointer none, .pointer none, .pointer none, .pointer none, .pointer none, .pointer none, .pointer none, .pointer none, .pointer none, .pointer none, .pointer none, .pointer none, .pointer none, .pointer none, .pointer none, .pointer none, .pointer none, .pointer none, .pointer none, .pointer none, .pointer none, .pointer none, .pointer none, .pointer none]
theorem zeroKnown (i : Nat) (h : i < 32) : noneKnown[i]? = some (.pointer none) := by
  have e : noneKnown = (List.replicate 32 (Value.pointer none)).toArray := rfl
  rw [e, List.getElem?_toArray, List.getElem?_replicate, if_pos h]
theorem link_start (a : Option Addr) (n c : Nat) (b e : Int) (g : Nat → Nat) (w : World) (cur : Array Value) (hcur : cur = noneKnown) :
    LinkAt a n c b e g (fun _ => w.heap.size + 1 + 1 + 1) 0 0 w.heap.size w ((((w.alloc (.cells #[.slice a n c, .int .i64 b, .int .i64 e] 25)).alloc (.cells #[.pointer none, .pointer none] 67)).alloc (.cells cur 115)).alloc (.cells #[.int .i64 (g 0), .int .i64 0, .pointer none] 65)) := by
  have hb := (boxM_start a n c b e w 25)
  have key : ∀ (W : World) (o1 o2 o3 : Obj), (((W.alloc o1).alloc o2).alloc o3).heap[W.heap.size]? = some o1 ∧ (((W.alloc o1).alloc o2).alloc o3).heap[W.heap.size + 1]? = some o2 ∧ (((W.alloc o1).alloc o2).alloc o3).heap[W.heap.size + 1 + 1]? = some o3 := fun W o1 o2 o3 => by
    refine ⟨?_, ?_, ?_⟩
    · rw [Below.heap_alloc _ _ _ (by simp; omega), Below.heap_alloc _ _ _ (by simp)]; exact heap_alloc_new _ _
    · rw [Below.heap_alloc _ _ _ (by simp)]; have := heap_alloc_new (W.alloc o1) o2; rw [World.size_alloc] at this; exact this
    · have := heap_alloc_new ((W.alloc o1).alloc o2) o3; rw [World.size_alloc, World.size_alloc] at this; exact this
  obtain ⟨k1, k2, k3⟩ := key (w.alloc (.cells #[.slice a n c, .int .i64 b, .int .i64 e] 25)) (.cells #[.pointer none, .pointer none] 67) (.cells cur 115) (.cells #[.int .i64 (g 0), .int .i64 0, .pointer none] 65)
  simp only [World.size_alloc] at k1 k2 k3
  refine ⟨((hb.step ((Below.refl _ _).alloc (Nat.le_refl _) _)).step ((Below.refl _ _).alloc (Nat.le_refl _) _)).step ((Below.refl _ _).alloc (Nat.le_refl _) _), k1, ⟨cur, k2, by rw [hcur]; rfl, fun i hi => absurd hi (Nat.not_lt_zero _), fun x hx _ => by rw [hcur]; exact zeroKnown x hx⟩,
    fun i hi => absurd hi (Nat.not_lt_zero _), k3, fun i hi => by omega, fun i j h1 h2 => by omega, by simp⟩

def ChainPost (g : Nat → Nat) (p q : Nat) (w : World) (e : Ending) (w' : World) : Prop :=
  ∃ A : Nat → Nat, e = .returned (.agg #[.pointer (some ⟨A 0, 0, none⟩), .pointer (some ⟨A (p + q - 1), 0, none⟩)]) ∧ ChainIn g p q A w' ∧ Below w.heap.size w w'

set_option maxRecDepth 100000 in
set_option maxHeartbeats 2000000 in
theorem chain_is (a : Option Addr) (n c : Nat) (l : List Nat) (s : Nat) (e : Int) (p q : Nat) (w : World) (h : ReadsI w a n (castM l)) (hg : GoodL l n) (hn : n ≤ 5) (hs : s < 2 ^ n) (hc : Comes (afterN l s) p q) (hpq : p + q ≤ 32) :
    Calls Try.prog 66 #[.agg #[.slice a n c, .int .i64 s, .int .i64 e]] w (ChainPost (afterN l s) p q w) := by
  have HLT : Hid (∀ i, afterN l s i < 32) := Lib.hid fun i => Nat.lt_of_lt_of_le (after_lt hg hs i) (Nat.pow_le_pow_right (by decide) hn)
  have HC := Lib.hid hc
  have HR := Lib.hid h
  have HST := Lib.hid (link_start a n c s e (afterN l s) w #[.pointer none, .pointer none, .pointer none, .pointer none, .pointer none, .pointer none, .pointer none, .pointer none, .pointer none, .pointer none, .pointer none, .pointer none, .pointer none, .pointer none, .pointer none, .pointer none, .pointer none, .pointer none, .pointer none, .pointer none, .pointer none, .pointer none, .pointer none, .pointer none, .pointer none, .pointer none, .pointer none, .pointer none, .pointer none, .pointer none, .pointer none, .pointer none] rfl)
  have hq0 := hc.pos
  have HCALL : Hid (∀ (k : Nat) (W : World), Below w.heap.size w W → Calls Try.prog 94 #[.agg #[.slice a n c, .int .i64 s, .int .i64 e], .int .i64 (afterN l s k : Nat)] W fun e1 w' => e1 = .returned (.int .i64 (afterN l s (k + 1) : Nat)) ∧ Below W.heap.size W w') :=
    Lib.hid fun k W hb => machStep_is a n c l s e (afterN l s k) W (h.below hb (Nat.le_refl _)) hg hn (after_lt hg hs k)
  have hg0 : afterN l s 0 = s := rfl
  generalize afterN l s = g at HLT HC HST HCALL hg0 ⊢
  subst hg0
  clear h hg hs hc
  go_enter Try.func66, Try.ntmps66
  go_wp2
  go_loopg [5] (p + q) (fun gk v wr => ∃ (k : Nat) (A : Nat → Nat), k + gk = p + q ∧ k < p + q ∧ v = .pointer (some ⟨A k, 0, none⟩) ∧ A 0 = w.heap.size + 1 + 1 + 1 ∧ LinkAt a n c (g 0 : Nat) e g A k k w.heap.size w wr)
  case atStart => exact ⟨0, fun _ => w.heap.size + 1 + 1 + 1, by omega, by omega, rfl, rfl, HST.out⟩
  case round =>
    obtain ⟨k, A, hgk, hk, rfl, hA0, hl⟩ := hrel
    have z := hl.chain.cells
    obtain ⟨z0, z1, z2, z3, z4, z5, z6, z7⟩ := z
    have hlt := HLT.out k
    obtain ⟨⟨u, hu⟩, hfu⟩ := hl.chain.knownCell hlt
    have HM := Lib.hid ((hl.mark HLT.out (fun i hi => HC.out.dist i k hi hk)).step (Below.refl _ _).drew)
    have HSD := HM.out.cells
    have HK : Hid (∀ W : World, (W.cell? ⟨w.heap.size, 0, none⟩ = some (.slice a n c) ∧ W.cell? ⟨w.heap.size, 1, none⟩ = some (.int .i64 (g 0 : Nat)) ∧ W.cell? ⟨w.heap.size, 2, none⟩ = some (.int .i64 e) ∧ W.cell? ⟨A k, 0, none⟩ = some (.int .i64 (g k : Nat)) ∧ LinkAt a n c (g 0 : Nat) e g A k (k + 1) w.heap.size w W) →
        Calls Try.prog 94 #[.agg #[.slice a n c, .int .i64 (g 0 : Nat), .int .i64 e], .int .i64 (g k : Nat)] W fun e1 w' => e1 = .returned (.int .i64 (g (k + 1) : Nat)) ∧ (w'.cell? ⟨w.heap.size, 0, none⟩ = some (.slice a n c) ∧ w'.cell? ⟨w.heap.size, 1, none⟩ = some (.int .i64 (g 0 : Nat)) ∧ w'.cell? ⟨w.heap.size, 2, none⟩ = some (.int .i64 e) ∧ w'.cell? ⟨A k, 0, none⟩ = some (.int .i64 (g k : Nat)) ∧ LinkAt a n c (g 0 : Nat) e g A k (k + 1) w.heap.size w w')) :=
      Lib.hid fun W h => (HCALL.out k W h.2.2.2.2.box.below).mono fun e1 w' he => ⟨he.1, (h.2.2.2.2.step he.2).cells⟩
    have hltI : (g k : Int) < 32 := by omega
    clear hl
    go_wp2
    go_region_held3 (fun w' => w'.cell? ⟨w.heap.size, 0, none⟩ = some (.slice a n c) ∧ w'.cell? ⟨w.heap.size, 1, none⟩ = some (.int .i64 (g 0 : Nat)) ∧ w'.cell? ⟨w.heap.size, 2, none⟩ = some (.int .i64 e) ∧ w'.cell? ⟨A k, 0, none⟩ = some (.int .i64 (g k : Nat)) ∧ LinkAt a n c (g 0 : Nat) e g A k (k + 1) w.heap.size w w') (first | assumption | (constructor <;> assumption))
      (first
        | (go_at_call 94; (with_reducible refine (HK.out _ ?_).mono ?_); assumption; rintro e1 w5 ⟨rfl, hb5⟩))
    have HL5 := Lib.hid hb5.2.2.2.2
    have x := HL5.out.chain.cells
    obtain ⟨x0, x1, x2, x3, x4, x5, x6, x7⟩ := x
    have hge := HL5.out.chain.ge k (Nat.le_refl _)
    have hak := lt_of_block HL5.out.chain.last
    clear HK HSD HM z0 z1 z2 z3 z4 z5 z6 z7 hu hfu hltI hlt hb5
    rename_i hHeld
    clear hHeld
    by_cases hlast : k + 1 = p + q
    · have e1 : g (k + 1) = g p := by rw [hlast]; exact HC.out.back
      have km := HL5.out.chain.hit (i := p) (by omega)
      rw [← e1] at km
      clear e1
      have hk1 := HLT.out (k + 1)
      have hk1I : (g (k + 1) : Int) < 32 := by omega
      have HD := Lib.hid (HL5.out.done hlast.symm (.pointer (some ⟨w.heap.size + 1 + 1 + 1, 0, none⟩)) (.pointer (some ⟨A k, 0, none⟩)))
      have HLAST := Lib.hid hlast
      clear hlast
      go_wp2
      generalize (((w5.setCell ⟨A k, 2, none⟩ (.pointer (some ⟨A p, 0, none⟩))).setCell ⟨w.heap.size + 1, 0, none⟩ (.pointer (some ⟨w.heap.size + 1 + 1 + 1, 0, none⟩))).setCell ⟨w.heap.size + 1, 1, none⟩ (.pointer (some ⟨A k, 0, none⟩))) = w9 at HD ⊢
      obtain ⟨d1, d2, d3, d4⟩ := HD.out
      refine bodyPost_ret (v := .agg #[.pointer (some ⟨w.heap.size + 1 + 1 + 1, 0, none⟩), .pointer (some ⟨A k, 0, none⟩)]) (by simp [results, Try.results66, go_sem, d3, d4]) rfl ⟨A, ?_, d1, d2⟩
      rw [hA0, show p + q - 1 = k from by have := HLAST.out; omega]
    · have km := HL5.out.chain.miss (x := g (k + 1)) (HLT.out _) (fun i hi => HC.out.dist i (k + 1) hi (by omega))
      have hk1 := HLT.out (k + 1)
      have hk1I : (g (k + 1) : Int) < 32 := by omega
      have HN := Lib.hid HL5.out.next
      go_wp2
      go_roundg (gk - 1)
      case measure => omega
      case rel =>
        refine ⟨k + 1, fun i => if i = k + 1 then w5.heap.size else A i, by omega, by omega, ?_, ?_, ?_⟩
        · simp
        · show (if 0 = k + 1 then w5.heap.size else A 0) = _
          rw [if_neg (by omega)]
          exact hA0
        · exact HN.out
end Go.Proofs.Ytiphooodijbhiaa
