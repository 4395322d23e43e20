/-
  The walk of spec.l91Machine: a machine that is drawn.
-/
import Derived.Test.YtiphooodijbhiaaDrawOpen
import Derived.Test.YtiphooodijbhiaaOfS
import Derived.Deep.DeepCutAuto
import Derived.Deep.CutRange
namespace Go.Proofs.Ytiphooodijbhiaa
open Go.RowKit

set_option linter.unusedVariables false

/-- The world while a machine is drawn. -/
structure DrawM (R : Nat) (a : Option Addr) (n c P k : Nat) (v : Value) (x y : Int) (D S : Nat) (w wr : World) : Prop where
  rd : ∃ p', p' ≤ P ∧ Rd R a n c p' wr
  ap : Apart R w wr
  res : ResM (.slice none 0 0) (.int .i64 0) (.int .i64 0) S wr
  mach : ResM v (.int .i64 x) (.int .i64 y) D wr
  own : ∃ zs, wr.ownsRow (S + 1) 3 1 v k (ints zs)
  lt : R < w.heap.size
  top : w.heap.size ≤ S
  ne : S < D

/-- A machine that is drawn: its sets are the call's own. -/
def MachDrawn (R : Nat) (a : Option Addr) (n c P : Nat) (w : World) (e1 : Ending) (w' : World) : Prop :=
  ∃ a' m c' zs x y, e1 = .returned (.agg #[.slice a' m c', .int .i64 x, .int .i64 y]) ∧ w'.ownsRow w.heap.size 3 1 (.slice a' m c') m (ints zs) ∧ m ≤ 12 ∧ (∃ p', p' ≤ P + 40 ∧ Rd R a n c p' w') ∧ Apart R w w'

theorem pick_exact {R : Nat} {a : Option Addr} {n c p : Nat} {w : World} (h : Rd R a n c p w) (M : Int) (m : Nat) (hM : M = (m : Int)) (hp : p ≤ 100000) (hm0 : 0 < m) (hm : m ≤ 1000000) :
    Calls Try.prog 60 #[.pointer (some ⟨R, 0, none⟩), .int .i64 M] w fun e w' =>
      ∃ v : Nat, v < m ∧ e = .returned (.int .i64 v) ∧ ∃ j, w' = (w.setCell ⟨R, 1, none⟩ (.int .i64 ((p : Int) + 1))).drewN j := by
  subst hM
  exact pick_core R a n c p m w h.code h.few hp hm0 hm h.q0 h.q1 h.f1 (fun g o e => by have := h.old g o e; omega)

theorem Rd.alloc {R : Nat} {a : Option Addr} {n c p : Nat} {w : World} (h : Rd R a n c p w) (o : Obj) : Rd R a n c p (w.alloc o) := h.below ((Below.refl w.heap.size w).alloc (Nat.le_refl _) o) h.lt
theorem Rd.drew {R : Nat} {a : Option Addr} {n c p : Nat} {w : World} (h : Rd R a n c p w) : Rd R a n c p w.drew := h.below ((Below.refl w.heap.size w).drew) h.lt
theorem Rd.drewN {R : Nat} {a : Option Addr} {n c p : Nat} {w : World} (h : Rd R a n c p w) (j : Nat) : Rd R a n c p (w.drewN j) := h.below (below_drewN (Below.refl w.heap.size w) j) h.lt
theorem Rd.set {R : Nat} {a : Option Addr} {n c p : Nat} {w : World} (h : Rd R a n c p w) (q : Nat) (P : Int) (hP : P = (q : Int)) : Rd R a n c q (w.setCell ⟨R, 1, none⟩ (.int .i64 P)) := by
  subst hP
  obtain ⟨h1, h2, h3, h4, h5, h6, h7⟩ := h
  refine ⟨?_, h2, by simpa [World.setCell] using h3, (World.cell?_setCell_other _ _ _ _ (by simp)).trans h4, ?_, ?_, h7⟩
  · rcases h1 with h | ⟨g, o, ha, hg, hc⟩
    · exact .inl h
    · have hgR' := h2 g o ha
      exact .inr ⟨g, o, ha, by simpa [World.setCell] using hg, fun i hi => by
        have hgR := hgR'.resolve_left (by omega)
        obtain ⟨z, hz, hz2⟩ := hc i hi
        exact ⟨z, (World.cell?_setCell_other _ _ _ _ (by simp <;> omega)).trans hz, hz2⟩⟩
  · exact World.cell?_setCell_same _ _ _ h5
  · exact (World.frozen?_setCell _ _ _ _).trans h6

theorem Rd.far {R : Nat} {a : Option Addr} {n c p : Nat} {w : World} (h : Rd R a n c p w) (b i : Nat) (v : Value) (hb : R < b) : Rd R a n c p (w.setCell ⟨b, i, none⟩ v) := by
  have hb2 : Below b w (w.setCell ⟨b, i, none⟩ v) := (Below.refl _ _).setCell (p := ⟨b, i, none⟩) (Nat.le_refl _) v
  exact h.below hb2 hb

/-- A reader at some place. -/
def RdX (R : Nat) (a : Option Addr) (n c : Nat) (w : World) : Prop := ∃ p, Rd R a n c p w
theorem RdX.of {R : Nat} {a : Option Addr} {n c p : Nat} {w : World} (h : Rd R a n c p w) : RdX R a n c w := ⟨p, h⟩
theorem RdX.alloc {R : Nat} {a : Option Addr} {n c : Nat} {w : World} (h : RdX R a n c w) (o : Obj) : RdX R a n c (w.alloc o) := h.elim fun p h => ⟨p, h.alloc o⟩
theorem RdX.drew {R : Nat} {a : Option Addr} {n c : Nat} {w : World} (h : RdX R a n c w) : RdX R a n c w.drew := h.elim fun p h => ⟨p, h.drew⟩
theorem RdX.drewN {R : Nat} {a : Option Addr} {n c : Nat} {w : World} (h : RdX R a n c w) (j : Nat) : RdX R a n c (w.drewN j) := h.elim fun p h => ⟨p, h.drewN j⟩
theorem RdX.far {R : Nat} {a : Option Addr} {n c : Nat} {w : World} (h : RdX R a n c w) (b i : Nat) (v : Value) (hb : R < b) : RdX R a n c (w.setCell ⟨b, i, none⟩ v) := h.elim fun p h => ⟨p, h.far b i v hb⟩
theorem RdX.set {R : Nat} {a : Option Addr} {n c : Nat} {w : World} (h : RdX R a n c w) (P : Int) (hP : 0 ≤ P) : RdX R a n c (w.setCell ⟨R, 1, none⟩ (.int .i64 P)) := h.elim fun p h => ⟨P.toNat, h.set P.toNat P (by omega)⟩
theorem RdX.last {R : Nat} {a : Option Addr} {n c : Nat} {w : World} (h : RdX R a n c w) (q : Nat) (P : Int) (hP : P = (q : Int)) : Rd R a n c q (w.setCell ⟨R, 1, none⟩ (.int .i64 P)) := h.elim fun p h => h.set q P hP

theorem cell_lit7 (w : World) (v : Value) (T : TypeId) (G : Nat) (h : w.heap.size = G) : (w.alloc (.cells #[v] T)).cell? ⟨G, 0, none⟩ = some v := by subst h; exact cell_lit6 w v T

/-- What a block holds. -/
def HeapIs (D : Nat) (ob : Obj) (w : World) : Prop := w.heap[D]? = some ob
theorem HeapIs.new {D : Nat} {ob : Obj} {w : World} (h : w.heap.size = D) : HeapIs D ob (w.alloc ob) := by subst h; exact heap_alloc_new w ob
theorem HeapIs.alloc {D : Nat} {ob : Obj} {w : World} (h : HeapIs D ob w) (o : Obj) : HeapIs D ob (w.alloc o) := (((Below.refl w.heap.size w).alloc (Nat.le_refl _) o).block D (lt_of_block h)).trans h
theorem HeapIs.drewN {D : Nat} {ob : Obj} {w : World} (h : HeapIs D ob w) (j : Nat) : HeapIs D ob (w.drewN j) := ((below_drewN (Below.refl w.heap.size w) j).block D (lt_of_block h)).trans h
theorem HeapIs.drew {D : Nat} {ob : Obj} {w : World} (h : HeapIs D ob w) : HeapIs D ob w.drew := h
theorem HeapIs.other {D : Nat} {ob : Obj} {w : World} (h : HeapIs D ob w) (b i : Nat) (v : Value) (hb : D ≠ b) : HeapIs D ob (w.setCell ⟨b, i, none⟩ v) := (heap_setCell_other w _ _ _ hb).trans h
theorem HeapIs.other2 {D : Nat} {ob : Obj} {w : World} {b i : Nat} {v : Value} (hb : D ≠ b) (h : HeapIs D ob w) : HeapIs D ob (w.setCell ⟨b, i, none⟩ v) := h.other b i v hb
theorem HeapIs.three {D : Nat} {v0 v1 v2 : Value} {T : TypeId} {w : World} (h : HeapIs D (.cells #[v0, v1, v2] T (0, 0)) w) (x y z : Value) : HeapIs D (.cells #[x, y, z] T (0, 0)) (((w.setCell ⟨D, 0, none⟩ x).setCell ⟨D, 1, none⟩ y).setCell ⟨D, 2, none⟩ z) :=
  heap_setCell_same _ D 2 _ _ z (heap_setCell_same _ D 1 _ _ y (heap_setCell_same _ D 0 _ _ x h))

theorem Apart.allocs {R : Nat} {w w1 : World} (h : Apart R w w1) (hR : R < w.heap.size) (o : Obj) : Apart R w (w1.alloc o) := h.step (by have := h.below.size; omega) ((Below.refl _ _).alloc (Nat.le_refl _) o)
theorem Apart.drewN {R : Nat} {w w1 : World} (h : Apart R w w1) (j : Nat) : Apart R w (w1.drewN j) := ⟨below_drewN h.below j, fun k hk hr => ((below_drewN (Below.refl w1.heap.size w1) j).block k (Nat.lt_of_lt_of_le hk h.below.size)).trans (h.block k hk hr)⟩
theorem Apart.drew {R : Nat} {w w1 : World} (h : Apart R w w1) : Apart R w w1.drew := ⟨h.below.drew, h.block⟩
theorem Apart.set {R : Nat} {w w1 : World} (h : Apart R w w1) (i : Nat) (v : Value) : Apart R w (w1.setCell ⟨R, i, none⟩ v) := ⟨h.below.setCell (p := ⟨R, i, none⟩) (Nat.le_refl _) _, fun k hk hr => (heap_setCell_other w1 _ _ _ hr).trans (h.block k hk hr)⟩
theorem Apart.far {R : Nat} {w w1 : World} (h : Apart R w w1) (b i : Nat) (v : Value) (hb : w.heap.size ≤ b) (hR : R < w.heap.size) : Apart R w (w1.setCell ⟨b, i, none⟩ v) :=
  ⟨h.below.setCell (p := ⟨b, i, none⟩) (by show R ≤ b; omega) _, fun k hk hr => (heap_setCell_other w1 ⟨b, i, none⟩ k v (by show k ≠ b; omega)).trans (h.block k hk hr)⟩

theorem Apart.far2 {R : Nat} {w w1 : World} {b i : Nat} {v : Value} (hb : w.heap.size ≤ b) (hR : R < w.heap.size) (h : Apart R w w1) : Apart R w (w1.setCell ⟨b, i, none⟩ v) := h.far b i v hb hR
theorem Apart.allocs2 {R : Nat} {w w1 : World} {o : Obj} (hR : R < w.heap.size) (h : Apart R w w1) : Apart R w (w1.alloc o) := h.allocs hR o
theorem Rd.far2 {R : Nat} {a : Option Addr} {n c p : Nat} {w : World} {b i : Nat} {v : Value} (hb : R < b) (h : Rd R a n c p w) : Rd R a n c p (w.setCell ⟨b, i, none⟩ v) := h.far b i v hb
theorem RdX.far2 {R : Nat} {a : Option Addr} {n c : Nat} {w : World} {b i : Nat} {v : Value} (hb : R < b) (h : RdX R a n c w) : RdX R a n c (w.setCell ⟨b, i, none⟩ v) := h.far b i v hb
theorem RdX.set2 {R : Nat} {a : Option Addr} {n c : Nat} {w : World} {P : Int} (hP : 0 ≤ P) (h : RdX R a n c w) : RdX R a n c (w.setCell ⟨R, 1, none⟩ (.int .i64 P)) := h.set P hP
theorem RdX.last2 {R : Nat} {a : Option Addr} {n c : Nat} {w : World} {q : Nat} {P : Int} (hP : P = (q : Int)) (h : RdX R a n c w) : Rd R a n c q (w.setCell ⟨R, 1, none⟩ (.int .i64 P)) := h.last q P hP
theorem own_empty {w : World} {B G : Nat} (h : HeapIs G (.cells #[] 3) w) (hB : B ≤ G) : ∃ zs, w.ownsRow B 3 1 (.slice (some ⟨G, 0, none⟩) 0 0) 0 (ints zs) :=
  ⟨[], rfl, .inr ⟨G, 0, #[], rfl, hB, h, Nat.le_refl _, by decide, rfl, rfl⟩⟩

theorem DrawM.apart {R : Nat} {a : Option Addr} {n c P P' p' k : Nat} {v : Value} {x y : Int} {D S : Nat} {w wr W : World} (h : DrawM R a n c P k v x y D S w wr) (hap : Apart R wr W) (hrd : Rd R a n c p' W) (hp : p' ≤ P') : DrawM R a n c P' k v x y D S w W := by
  obtain ⟨zs, hzs⟩ := h.own
  have h1 := h.lt
  have h0 := h.top
  have h2 := h.ne
  exact ⟨⟨p', hp, hrd⟩, h.ap.trans hap, (hap.block S (lt_of_block h.res) (by omega)).trans h.res, (hap.block D (lt_of_block h.mach) (by omega)).trans h.mach, ⟨zs, own_apart hzs hap (by omega)⟩, h1, h0, h2⟩
/-- A set more. -/
theorem DrawM.grow {R : Nat} {a : Option Addr} {n c P P' p' k m : Nat} {v v' : Value} {x y : Int} {D S : Nat} {w wr W w4 : World} {zs us : List Int} (h : DrawM R a n c P k v x y D S w wr) (hgrow : W.grownBy w4 v.ownBlock)
    (hown : w4.ownsRow (S + 1) 3 1 v' (k + m) (ints zs ++ ints us)) (hap : Apart R wr W) (hrd : Rd R a n c p' W) (hp : p' ≤ P') :
    ResM v (.int .i64 x) (.int .i64 y) D w4 ∧ DrawM R a n c P' (k + m) v' x y D S w (w4.setCell ⟨D, 0, none⟩ v') := by
  have hw := h.apart hap hrd hp
  obtain ⟨ys, hys⟩ := hw.own
  have h1 := h.lt
  have h0 := h.top
  have h2 := h.ne
  have hS := lt_of_block hw.res
  have hm : ResM v (.int .i64 x) (.int .i64 y) D w4 := (hgrow.block D (lt_of_block hw.mach) (fun e => own_not hys hw.mach D e.symm rfl)).trans hw.mach
  have hr : ResM (.slice none 0 0) (.int .i64 0) (.int .i64 0) S w4 := (hgrow.block S hS (fun e => by have := (hys.lt S e.symm).1; omega)).trans hw.res
  have hb : Below (S + 1) W w4 := (Below.refl _ _).grown hgrow (by omega) (fun j hj => (hys.lt j hj).1)
  have hD := lt_of_block hm
  have hap4 : Apart R w w4 := ⟨hw.ap.below.trans (hb.mono (by omega)), fun i hi hr2 => by
    have hi2 := hw.ap.below.size
    exact (hgrow.block i (by omega) (fun e => by have := (hys.lt i e.symm).1; omega)).trans (hw.ap.block i hi hr2)⟩
  refine ⟨hm, ⟨p', hp, (hrd.below hb (by omega)).far D 0 v' (by omega)⟩, ?_, hr.other (by show S ≠ D; omega) _, heap_setCell_same _ D 0 _ _ v' hm, ⟨zs ++ us, ?_⟩, h1, h0, h2⟩
  · exact hap4.far D 0 v' (by omega) h1
  · have e : ints (zs ++ us) = ints zs ++ ints us := by unfold ints; rw [List.map_append]
    rw [e]
    exact own_keep (D := D) hown (own_not hown hm) _
theorem DrawM.store1 {R : Nat} {a : Option Addr} {n c P k : Nat} {v : Value} {x x' y : Int} {D S : Nat} {w wr : World} (h : DrawM R a n c P k v x y D S w wr) (hD : w.heap.size ≤ D) : DrawM R a n c P k v x' y D S w (wr.setCell ⟨D, 1, none⟩ (.int .i64 x')) := by
  obtain ⟨p', hp, hrd⟩ := h.rd
  obtain ⟨zs, hzs⟩ := h.own
  have h1 := h.lt
  have h0 := h.top
  have h2 := h.ne
  exact ⟨⟨p', hp, hrd.far D 1 _ (by omega)⟩, h.ap.far D 1 _ hD (by omega), h.res.other (by show S ≠ D; omega) _, heap_setCell_same _ D 1 _ _ (.int .i64 x') h.mach, ⟨zs, own_keep (D := D) hzs (own_not hzs h.mach) _⟩, h1, h0, h2⟩

/-- The machine is copied into the result's cell. -/
theorem draw_end {R : Nat} {a a3 : Option Addr} {n c P k c3 : Nat} {x y : Int} {D S : Nat} {w wr : World} (h : DrawM R a n c P k (.slice a3 k c3) x y D S w wr) :
    ResM (.slice a3 k c3) (.int .i64 x) (.int .i64 y) S (((wr.setCell ⟨S, 0, none⟩ (.slice a3 k c3)).setCell ⟨S, 1, none⟩ (.int .i64 x)).setCell ⟨S, 2, none⟩ (.int .i64 y)) ∧
    (∃ zs, (((wr.setCell ⟨S, 0, none⟩ (.slice a3 k c3)).setCell ⟨S, 1, none⟩ (.int .i64 x)).setCell ⟨S, 2, none⟩ (.int .i64 y)).ownsRow (S + 1) 3 1 (.slice a3 k c3) k (ints zs)) ∧
    (∃ p', p' ≤ P ∧ Rd R a n c p' (((wr.setCell ⟨S, 0, none⟩ (.slice a3 k c3)).setCell ⟨S, 1, none⟩ (.int .i64 x)).setCell ⟨S, 2, none⟩ (.int .i64 y))) ∧
    Apart R w (((wr.setCell ⟨S, 0, none⟩ (.slice a3 k c3)).setCell ⟨S, 1, none⟩ (.int .i64 x)).setCell ⟨S, 2, none⟩ (.int .i64 y)) := by
  obtain ⟨p', hp, hrd⟩ := h.rd
  obtain ⟨zs, hzs⟩ := h.own
  have h1 := h.lt
  have h0 := h.top
  exact ⟨h.res.stored _ _ _, ⟨zs, own_three hzs (Nat.lt_succ_self S) _ _ _⟩, ⟨p', hp, ((hrd.far S 0 _ (by omega)).far S 1 _ (by omega)).far S 2 _ (by omega)⟩, ((h.ap.far S 0 _ h0 h1).far S 1 _ h0 h1).far S 2 _ h0 h1⟩
theorem DrawM.store2 {R : Nat} {a : Option Addr} {n c P k : Nat} {v : Value} {x y y' : Int} {D S : Nat} {w wr : World} (h : DrawM R a n c P k v x y D S w wr) : DrawM R a n c P k v x y' D S w (wr.setCell ⟨D, 2, none⟩ (.int .i64 y')) := by
  obtain ⟨p', hp, hrd⟩ := h.rd
  obtain ⟨zs, hzs⟩ := h.own
  have h1 := h.lt
  have h0 := h.top
  have h2 := h.ne
  exact ⟨⟨p', hp, hrd.far D 2 _ (by omega)⟩, h.ap.far D 2 _ (by omega) (by omega), h.res.other (by show S ≠ D; omega) _, heap_setCell_same _ D 2 _ _ (.int .i64 y') h.mach, ⟨zs, own_keep (D := D) hzs (own_not hzs h.mach) _⟩, h1, h0, h2⟩
/-- No sets. -/
theorem DrawM.store0 {R : Nat} {a : Option Addr} {n c P k G : Nat} {v : Value} {x y : Int} {D S : Nat} {w wr : World} (h : DrawM R a n c P k v x y D S w wr) (hG : HeapIs G (.cells #[] 3) wr) (hS : S + 1 ≤ G) : DrawM R a n c P 0 (.slice (some ⟨G, 0, none⟩) 0 0) x y D S w (wr.setCell ⟨D, 0, none⟩ (.slice (some ⟨G, 0, none⟩) 0 0)) := by
  obtain ⟨p', hp, hrd⟩ := h.rd
  have h1 := h.lt
  have h0 := h.top
  have h2 := h.ne
  obtain ⟨zs, hzs⟩ := own_empty hG hS
  exact ⟨⟨p', hp, hrd.far D 0 _ (by omega)⟩, h.ap.far D 0 _ (by omega) (by omega), h.res.other (by show S ≠ D; omega) _, heap_setCell_same _ D 0 _ _ _ h.mach, ⟨zs, own_keep (D := D) hzs (own_not hzs h.mach) _⟩, h1, h0, h2⟩

theorem drawM_mk {R : Nat} {a : Option Addr} {n c P : Nat} {x y : Int} {D G S : Nat} {w wr : World} (hrd : Rd R a n c P wr) (hap : Apart R w wr) (hres : HeapIs S (.cells #[.slice none 0 0, .int .i64 0, .int .i64 0] 25 (0, 0)) wr)
    (hm : HeapIs D (.cells #[.slice (some ⟨G, 0, none⟩) 0 0, .int .i64 x, .int .i64 y] 25 (0, 0)) wr) (hG : HeapIs G (.cells #[] 3) wr) (hGS : S + 1 ≤ G) (lt : R < w.heap.size) (top : w.heap.size ≤ S) (ne : S < D) : DrawM R a n c P 0 (.slice (some ⟨G, 0, none⟩) 0 0) x y D S w wr :=
  ⟨⟨P, Nat.le_refl _, hrd⟩, hap, hres, hm, own_empty hG hGS, lt, top, ne⟩

macro "heap_up " h:ident : tactic => `(tactic| with_reducible (repeat (first | exact (Hid.out $h) | refine HeapIs.three (v0 := .slice none 0 0) (v1 := .int .i64 0) (v2 := .int .i64 0) ?_ _ _ _ | refine HeapIs.drewN ?_ _ | refine HeapIs.drew ?_ | (refine HeapIs.new ?_; simp [World.setCell] <;> omega) | refine HeapIs.alloc ?_ _ | (refine HeapIs.other2 ?_ ?_; omega) | fail "up")))
macro "apart_up " h:ident : tactic => `(tactic| with_reducible (repeat (first | exact (Hid.out $h) | refine Apart.drewN ?_ _ | refine Apart.drew ?_ | (refine Apart.allocs2 ?_ ?_; omega) | refine Apart.set ?_ _ _ | (refine Apart.far2 ?_ ?_ ?_; omega; omega) | fail "up")))
macro "rd_up " h:ident : tactic => `(tactic| with_reducible (repeat (first | exact (Hid.out $h) | exact RdX.of (Hid.out $h) | refine Rd.drewN ?_ _ | refine RdX.drewN ?_ _ | refine Rd.drew ?_ | refine RdX.drew ?_ | refine Rd.alloc ?_ _ | refine RdX.alloc ?_ _ | (refine Rd.far2 ?_ ?_; omega) | (refine RdX.far2 ?_ ?_; omega) | (refine RdX.last2 ?_ ?_; omega) | (refine RdX.set2 ?_ ?_; omega) | fail "up")))

theorem draw_end0 {R : Nat} {a : Option Addr} {n c P k : Nat} {v : Value} {x y : Int} {D S : Nat} {w wr : World} (h : DrawM R a n c P k v x y D S w wr) :
    let W := ((((wr.setCell ⟨D, 0, none⟩ (.slice (some ⟨wr.heap.size, 0, none⟩) 0 0)).setCell ⟨S, 0, none⟩ (.slice (some ⟨wr.heap.size, 0, none⟩) 0 0)).setCell ⟨S, 1, none⟩ (.int .i64 x)).setCell ⟨S, 2, none⟩ (.int .i64 y)).alloc (.cells #[] 3)
    ResM (.slice (some ⟨wr.heap.size, 0, none⟩) 0 0) (.int .i64 x) (.int .i64 y) S W ∧ (∃ zs, W.ownsRow (S + 1) 3 1 (.slice (some ⟨wr.heap.size, 0, none⟩) 0 0) 0 (ints zs)) ∧ (∃ p', p' ≤ P ∧ Rd R a n c p' W) ∧ Apart R w W := by
  obtain ⟨p', hp, hrd⟩ := h.rd
  have h1 := h.lt
  have h0 := h.top
  have h2 := h.ne
  have hD := lt_of_block h.mach
  intro W
  refine ⟨((h.res.other (p := ⟨D, 0, none⟩) (by show S ≠ D; omega) _).stored _ _ _).step ((Below.refl _ _).alloc (Nat.le_refl _) _), own_empty (HeapIs.new (by simp [World.setCell])) (by omega), ⟨p', hp, ((((hrd.far D 0 _ (by omega)).far S 0 _ (by omega)).far S 1 _ (by omega)).far S 2 _ (by omega)).alloc _⟩, ((((h.ap.far D 0 _ (by omega) h1).far S 0 _ h0 h1).far S 1 _ h0 h1).far S 2 _ h0 h1).allocs h1 _⟩
theorem two_cell (z : Nat) (hz : z < 2) (u v : Int) : ∃ y : Int, (#[Value.int .i64 u, Value.int .i64 v] : Array Value)[z]? = some (.int .i64 y) := by
  have : z = 0 ∨ z = 1 := by omega
  rcases this with rfl | rfl
  · exact ⟨u, rfl⟩
  · exact ⟨v, rfl⟩
theorem table_cell2 {R : Nat} {w w4 : World} {cs : Array Value} {T : TypeId} {i : Nat} (hap : Apart R (w.alloc (.cells cs T)).drew w4) (hR : R < w.heap.size) : w4.cell? ⟨w.heap.size, i, none⟩ = cs[i]? := table_cell ((Apart.refl R _).drew.trans hap) hR i

set_option maxRecDepth 100000 in
set_option maxHeartbeats 8000000 in
theorem drawMach {R : Nat} {a : Option Addr} {n c p : Nat} {w : World} (h : Rd R a n c p w) (hp : p ≤ 1000) :
    Calls Try.prog 59 #[.pointer (some ⟨R, 0, none⟩)] w (MachDrawn R a n c p w) := by
  obtain ⟨i0, hi, hz0, hz1, hz2⟩ := info_parts Try.infoInt
  have HRX := Lib.hid (resM_start w)
  have hRw := h.lt
  have H := Lib.hid h
  clear h
  go_enter Try.func59, Try.ntmps59
  go_wp2_with fail
  refine (pick_rd (H.out.below ((Below.refl w.heap.size w).alloc (Nat.le_refl _) (.cells #[.slice none 0 0, .int .i64 0, .int .i64 0] 25)) hRw) 5 (by omega) (by omega) (by omega)).mono ?_
  rintro e1 w1 ⟨v, rfl, hv, hrd1, hap1, hsz1⟩
  obtain ⟨N, hN⟩ : ∃ N : Nat, N = 1 + v := ⟨_, rfl⟩
  have hNI : (1 : Int) + (v : Int) = (N : Int) := by omega
  have hN1 : 1 ≤ N := by omega
  have hN5 : N ≤ 5 := by omega
  have HR1 := Lib.hid hrd1
  have HA1 := Lib.hid ((Apart.of_below (Nat.le_of_lt hRw) ((Below.refl w.heap.size w).alloc (Nat.le_refl _) (.cells #[.slice none 0 0, .int .i64 0, .int .i64 0] 25))).trans hap1)
  have HS1 : Hid (ResM (.slice none 0 0) (.int .i64 0) (.int .i64 0) w.heap.size w1) := Lib.hid ((hap1.block w.heap.size (by simp) (by omega)).trans HRX.out)
  have hw1 : w.heap.size + 1 = w1.heap.size := by rw [hsz1]; simp
  obtain ⟨p1, p2⟩ := pow_all hN5
  clear hN hrd1 hap1 hsz1
  go_upto_region 2 with fail
  go_cut [4] (fun u wr => ∃ D G x y, u = .pointer (some ⟨D, 0, none⟩) ∧ DrawM R a n c (p + 3) 0 (.slice (some ⟨G, 0, none⟩) 0 0) x y D w.heap.size w wr)
  case first =>
    have HRD := HR1
    have HAP := HA1
    have HSH : Hid (HeapIs w.heap.size (.cells #[.slice none 0 0, .int .i64 0, .int .i64 0] 25 (0, 0)) w1) := Lib.hid HS1.out
    clear HR1 HA1
    have q1 := HRD.out.q1
    have f1 := HRD.out.f1
    go_region_with (go_at_call 60; (first
      | ((with_reducible refine (pick_exact (a := a) (n := n) (c := c) (p := p + 1) ?_ _ (2 ^ N) ?_ (by omega) (Nat.two_pow_pos N) ?_).mono ?_); rd_up HRD; (first | exact pow_cast N | (rw [IntWalk.i64_in _ (by omega)]; exact pow_cast N)); exact (by have := pow_cast N; omega); rintro e1 w2 ⟨z1, hz1, rfl, j1, rfl⟩)
      | ((with_reducible refine (pick_exact (a := a) (n := n) (c := c) (p := p + 2) ?_ _ (2 ^ N) ?_ (by omega) (Nat.two_pow_pos N) ?_).mono ?_); rd_up HRD; (first | exact pow_cast N | (rw [IntWalk.i64_in _ (by omega)]; exact pow_cast N)); exact (by have := pow_cast N; omega); rintro e1 w2 ⟨z2, hz2, rfl, j2, rfl⟩)))
    all_goals
      go_wp2_with fail
      go_meet
      first
        | (refine ⟨_, w1.heap.size, (z1 : Int), (z2 : Int), rfl, drawM_mk ?_ ?_ ?_ ?_ ?_ ?_ hRw (Nat.le_refl _) ?_⟩; rd_up HRD; apart_up HAP; heap_up HSH; omega; omega; done)
        | (refine ⟨_, w1.heap.size + 1, (z1 : Int), (z2 : Int), rfl, drawM_mk ?_ ?_ ?_ ?_ ?_ ?_ hRw (Nat.le_refl _) ?_⟩; rd_up HRD; apart_up HAP; heap_up HSH; omega; omega; done)
        | fail "neither"

  case rest =>
    clear hw1
    obtain ⟨D, G, x0, y0, rfl, hd⟩ := hcut
    obtain ⟨P, hP, hrd⟩ := hd.rd
    have HM := Lib.hid hd
    have HRD := Lib.hid hrd
    clear hd hrd
    go_wp2_with fail
    refine (pick_rd HRD.out 2 (by omega) (by omega) (by omega)).mono ?_
    rintro e1 w3 ⟨sg, rfl, hsg, hrd3, hap3, hsz3⟩
    have HD3 := Lib.hid (HM.out.apart hap3 hrd3 (show P + 1 ≤ p + 4 by omega))
    clear hrd3 hap3 hsz3 HRD
    obtain ⟨B, hB⟩ : ∃ B : Bool, B = ((sg : Int) == 0) := ⟨_, rfl⟩
    go_wp2
    rw [← hB]
    clear hB
    go_loopw [6] (fun u wr => ∃ (i : Nat) (v : Value), u = .int .i64 i ∧ i ≤ N ∧ DrawM R a n c (p + 4 + 2 * i) i v x0 y0 D w.heap.size w wr) (fun u _ => N - (intOf u).toNat)
    case atStart => exact ⟨0, _, rfl, Nat.zero_le _, HD3.out⟩
    case round =>
      obtain ⟨i, v, rfl, hin, hl⟩ := hrel
      by_cases hlt : i < N
      · have hltI : (i : Int) < (N : Int) := by omega
        obtain ⟨P', hP', hrd⟩ := hl.rd
        obtain ⟨zs, hzs⟩ := hl.own
        obtain ⟨a3, c3, rfl⟩ := own_form hzs
        obtain ⟨d0, d1, d2, d3, d4, d5⟩ := hl.mach.cells
        have hlw := hl.ne
        have hRD : R < D := by omega
        have hne : R ≠ D := by omega
        have hne2 : D ≠ R := by omega
        have hDw := lt_of_block hl.mach
        have hRr := hrd.lt
        have HL := Lib.hid hl
        have HRD := Lib.hid hrd
        have HZ := Lib.hid hzs
        have q1 := hrd.q1
        have f1 := hrd.f1
        have HID := Lib.hid (Apart.refl R wr)
        clear hl hrd hzs
        cases B
        · go_wp2
          go_region_law (first
            | (go_simp; go_at_call 60; (with_reducible refine (pick_exact (a := a) (n := n) (c := c) (p := P') ?_ _ (2 ^ N) ?_ (by omega) (Nat.two_pow_pos N) ?_).mono ?_); rd_up HRD; (first | exact pow_cast N | (rw [IntWalk.i64_in _ (by omega)]; exact pow_cast N)); exact (by have := pow_cast N; omega); rintro e1 w5 ⟨z1, hz1, rfl, j1, rfl⟩)
            | (go_simp; go_at_call 60; (with_reducible refine (pick_exact (a := a) (n := n) (c := c) (p := P' + 1) ?_ _ (2 ^ N) ?_ (by omega) (Nat.two_pow_pos N) ?_).mono ?_); rd_up HRD; (first | exact pow_cast N | (rw [IntWalk.i64_in _ (by omega)]; exact pow_cast N)); exact (by have := pow_cast N; omega); rintro e1 w5 ⟨z2, hz2, rfl, j2, rfl⟩)
            | (refine step_ints (base := w.heap.size + 1) (n := i) (v := .slice a3 i c3) (xs := ints zs) (z := Go.bits .and .i64 (z1 : Int) (z2 : Int)) (by rfl) _ _ (by rfl) (by rfl) (by rfl) ?_ ?_ ?_ ?_ ?_; exact cell_lit7 _ _ _ _ (by simp [World.setCell]); exact own_apart (R := R) HZ.out (by apart_up HID) (by omega); exact (by simp [World.setCell]; omega); exact (by omega); intro g cap w6 hown6 hgrow; obtain ⟨hm6, hA⟩ := DrawM.grow HL.out (us := [Go.bits .and .i64 (z1 : Int) (z2 : Int)]) (p' := P' + 2) (P' := p + 4 + 2 * (i + 1)) hgrow hown6 (by apart_up HID) (by rd_up HRD) (by omega); obtain ⟨e0, e1, e2, e3, e4, e5⟩ := hm6.cells; have HA := Lib.hid hA; clear hown6 hgrow hm6 hA))
          all_goals
            clear e0 e1 e2 e3 e4 e5 d0 d1 d2 d3 d4 d5 q1 f1
            go_wp2
            go_roundw
            case rel => exact ⟨i + 1, _, by go_num, by omega, HA.out⟩
            case measure => simp [intOf]; omega
        · go_wp2
          go_region_law (first
            | (go_simp; go_at_call 60; (with_reducible refine (pick_exact (a := a) (n := n) (c := c) (p := P') ?_ _ (N) ?_ (by omega) (by omega) ?_).mono ?_); rd_up HRD; rfl; exact (by omega); rintro e1 w5 ⟨z1, hz1, rfl, j1, rfl⟩)
            | (refine step_ints (base := w.heap.size + 1) (n := i) (v := .slice a3 i c3) (xs := ints zs) (z := IntKind.i64.wrap ((2 : Int) ^ z1)) (by rfl) _ _ (by rfl) (by rfl) (by rfl) ?_ ?_ ?_ ?_ ?_; exact cell_lit7 _ _ _ _ (by simp [World.setCell]); exact own_apart (R := R) HZ.out (by apart_up HID) (by omega); exact (by simp [World.setCell]; omega); exact (by omega); intro g cap w6 hown6 hgrow; obtain ⟨hm6, hA⟩ := DrawM.grow HL.out (us := [IntKind.i64.wrap ((2 : Int) ^ z1)]) (p' := P' + 1) (P' := p + 4 + 2 * (i + 1)) hgrow hown6 (by apart_up HID) (by rd_up HRD) (by omega); obtain ⟨e0, e1, e2, e3, e4, e5⟩ := hm6.cells; have HA := Lib.hid hA; clear hown6 hgrow hm6 hA))
          all_goals
            clear e0 e1 e2 e3 e4 e5 d0 d1 d2 d3 d4 d5 q1 f1
            go_wp2
            go_roundw
            case rel => exact ⟨i + 1, _, by go_num, by omega, HA.out⟩
            case measure => simp [intOf]; omega
      · obtain rfl : i = N := by omega
        obtain ⟨P5, hP5, hrd⟩ := hl.rd
        obtain ⟨zs, hzs⟩ := hl.own
        obtain ⟨a3, c3, rfl⟩ := own_form hzs
        have HL := Lib.hid hl
        have HRL := Lib.hid hrd
        obtain ⟨X, hX⟩ : ∃ X, X = x0 := ⟨_, rfl⟩
        rw [← hX] at HL
        clear hl hrd hzs hX
        cases B
        · go_wp2_with fail
          refine (pick_rd HRL.out 20 (by omega) (by omega) (by omega)).mono ?_
          rintro e1 w5 ⟨t, rfl, ht, hrd5, hap5, hsz5⟩
          have HD5 := Lib.hid (HL.out.apart hap5 hrd5 (show _ ≤ p + 30 by omega))
          have hR5 := hrd5.lt
          have hDlt : D < w5.heap.size := lt_of_block HD5.out.mach
          have hSz : w.heap.size + 2 ≤ w5.heap.size := by have h1 := lt_of_block HD5.out.mach; have h2 := HD5.out.ne; omega
          have HR5 := Lib.hid hrd5
          clear hrd5 hap5 hsz5
          obtain ⟨zs, hzs⟩ := HD5.out.own
          have HZ5 := Lib.hid hzs
          clear hzs
          by_cases t0 : t = 0
          · subst t0
            have HID := Lib.hid (Apart.refl R w5)
            have hl5 := HD5.out.ne
            have hRD : R < D := by omega
            have hne : R ≠ D := by omega
            have hne2 : D ≠ R := by omega
            obtain ⟨d0, d1, d2, d3, d4, d5⟩ := HD5.out.mach.cells
            obtain ⟨q, hq⟩ : ∃ q : Nat, q = 2 ^ i := ⟨_, rfl⟩
            have q1 := HR5.out.q1
            have g1 := HR5.out.f1
            go_wp2
            go_region_with (go_at_call 60; (go_loud (with_reducible refine (pick_rdi (a := a) (n := n) (c := c) (p := P5 + 1) ?_ (2 : Int) 2 rfl (by omega) (by omega) (by omega)).mono ?_)); (go_loud (rd_up HR5)); (go_loud (rintro e1 w6 ⟨z, rfl, hz, hrd6, hap6, hsz6⟩)); (go_loud (obtain ⟨y, hy⟩ : ∃ y : Int, (#[Value.int .i64 (-1), Value.int .i64 (IntKind.i64.wrap (2 ^ i))] : Array Value)[z]? = some (.int .i64 y) := two_cell z hz _ _)); (go_loud (have hap56 := Apart.trans (show Apart R w5 _ by apart_up HID) hap6)); (go_loud (have HD6 := Lib.hid (HD5.out.apart (P' := p + 31) hap56 hrd6 (by omega)))); clear hap56; (go_loud (have zI : (z : Int) < 2 := by omega)); (go_loud (have z0 : (0 : Int) ≤ (z : Int) := by omega)); (first | (have hc := (table_cell2 hap6 hR5).trans hy) | skip); (go_loud (obtain ⟨d0, d1, d2, d3, d4, d5⟩ := HD6.out.mach.cells)); (go_loud (obtain ⟨f0, f1', f2, f3, f4, f5⟩ := HD6.out.res.cells)); (have hcB : (w6.alloc (.cells #[Value.int .i64 (-1), Value.int .i64 (IntKind.i64.wrap (2 ^ i))] 3)).cell? ⟨w6.heap.size, z, none⟩ = some (.int .i64 y) := (by rw [World.cell?_alloc_at _ _ _ _ rfl]; exact hy)); (have hD6 : D < w6.heap.size := lt_of_block HD6.out.mach); (have hS6 : w.heap.size < w6.heap.size := lt_of_block HD6.out.res); clear hrd6 hap6 hsz6 hy)
            · have hx := HD6.out.store2 (y' := y)
              have HX := Lib.hid hx
              clear hx d0 d1 d2 d3 d4 d5 f0 f1' f2 f3 f4 f5 hc hcB
              generalize w6.setCell ⟨D, 2, none⟩ (.int .i64 y) = w7 at HX ⊢
              have HE := Lib.hid (draw_end HX.out)
              obtain ⟨f0, f1', f2, f3, f4, f5⟩ := HX.out.res.cells
              obtain ⟨h0, h1, h2, h3, h4, h5⟩ := HX.out.mach.cells
              go_wp2
              generalize (((w7.setCell ⟨w.heap.size, 0, none⟩ (.slice a3 i c3)).setCell ⟨w.heap.size, 1, none⟩ (.int .i64 X)).setCell ⟨w.heap.size, 2, none⟩ (.int .i64 y)) = wz at HE ⊢
              obtain ⟨hE1, ⟨zs', hE2⟩, ⟨p', hE3, hE4⟩, hE5⟩ := HE.out
              obtain ⟨e0, e1, e2, _⟩ := hE1.cells
              exact bodyPost_ret (v := .agg #[.slice a3 i c3, .int .i64 X, .int .i64 y]) (by simp [results, Try.results59, go_sem, e0, e1, e2]) rfl ⟨a3, i, c3, zs', X, y, rfl, own_base hE2 (by omega), (by omega), ⟨p', by omega, hE4⟩, hE5⟩
            · have hx := HD6.out.store2 (y' := y)
              obtain ⟨p6, hp6, hrd6⟩ := hx.rd
              have HX := Lib.hid (hx.apart ((Apart.refl R _).allocs hrd6.lt (.cells #[Value.int .i64 (-1), Value.int .i64 (IntKind.i64.wrap (2 ^ i))] 3)) (hrd6.alloc _) (show _ ≤ p + 31 by omega))
              clear hx hrd6 d0 d1 d2 d3 d4 d5 f0 f1' f2 f3 f4 f5 hcB
              generalize (w6.setCell ⟨D, 2, none⟩ (.int .i64 y)).alloc (.cells #[Value.int .i64 (-1), Value.int .i64 (IntKind.i64.wrap (2 ^ i))] 3) = w7 at HX ⊢
              have HE := Lib.hid (draw_end HX.out)
              obtain ⟨f0, f1', f2, f3, f4, f5⟩ := HX.out.res.cells
              obtain ⟨h0, h1, h2, h3, h4, h5⟩ := HX.out.mach.cells
              go_wp2
              generalize (((w7.setCell ⟨w.heap.size, 0, none⟩ (.slice a3 i c3)).setCell ⟨w.heap.size, 1, none⟩ (.int .i64 X)).setCell ⟨w.heap.size, 2, none⟩ (.int .i64 y)) = wz at HE ⊢
              obtain ⟨hE1, ⟨zs', hE2⟩, ⟨p', hE3, hE4⟩, hE5⟩ := HE.out
              obtain ⟨e0, e1, e2, _⟩ := hE1.cells
              exact bodyPost_ret (v := .agg #[.slice a3 i c3, .int .i64 X, .int .i64 y]) (by simp [results, Try.results59, go_sem, e0, e1, e2]) rfl ⟨a3, i, c3, zs', X, y, rfl, own_base hE2 (by omega), (by omega), ⟨p', by omega, hE4⟩, hE5⟩
          · have b0 : ((t : Int) == 0) = false := by rw [beq_eq_false_iff_ne]; omega
            by_cases t1 : t = 1
            · subst t1
              obtain ⟨d0, d1, d2, d3, d4, d5⟩ := HD5.out.mach.cells
              go_wp2_with (at_builtin; refine wpList_append_own _ rfl _ _ 23 rfl (w.heap.size + 1) 3 i0 (.int .i64 0) 1 8 Try.underlying23 hi hz0 hz1 hz2 rfl (by decide) _ _ _ rfl (own_below HZ5.out ((Below.refl _ _).alloc (Nat.le_refl _) _) (Nat.le_refl _)) ⟨w5.heap.size, 0, none⟩ 5 5 (ints [1, 1, 1, 1, 1]) rfl rfl ?ca1 ?ca2 ?ca3 ?ca4 ?ca5 ?_)
              case ca1 =>
                intro j u hj
                match j, hj with
                | 0, hj => simp [ints] at hj; subst hj; simp [Addr.add]
                | 1, hj => simp [ints] at hj; subst hj; simp [Addr.add]
                | 2, hj => simp [ints] at hj; subst hj; simp [Addr.add]
                | 3, hj => simp [ints] at hj; subst hj; simp [Addr.add]
                | 4, hj => simp [ints] at hj; subst hj; simp [Addr.add]
                | j + 5, hj => simp [ints] at hj
              case ca2 => intro u hu; simp [ints] at hu; subst hu; rfl
              case ca3 => unfold maxLen; omega
              case ca4 => omega
              case ca5 => simp; omega
              intro v' w6 hown6 hgrow _
              obtain ⟨hm6, hA⟩ := DrawM.grow HD5.out (us := [1, 1, 1, 1, 1]) (P' := p + 30) hgrow hown6 ((Apart.refl R w5).allocs hR5 _) (HR5.out.alloc _) (by omega)
              obtain ⟨a6, c6, rfl⟩ := own_form hown6
              have HX := Lib.hid hA
              obtain ⟨e0, e1, e2, e3, e4, e5⟩ := hm6.cells
              clear hown6 hgrow hm6 hA d0 d1 d2 d3 d4 d5
              have HE := Lib.hid (draw_end HX.out)
              obtain ⟨f0, f1', f2, f3, f4, f5⟩ := HX.out.res.cells
              obtain ⟨h0, h1, h2, h3, h4, h5⟩ := HX.out.mach.cells
              go_wp2
              generalize ((((w6.setCell ⟨D, 0, none⟩ (.slice a6 (i + 5) c6)).setCell ⟨w.heap.size, 0, none⟩ (.slice a6 (i + 5) c6)).setCell ⟨w.heap.size, 1, none⟩ (.int .i64 X)).setCell ⟨w.heap.size, 2, none⟩ (.int .i64 y0)) = wz at HE ⊢
              obtain ⟨hE1, ⟨zs', hE2⟩, ⟨p', hE3, hE4⟩, hE5⟩ := HE.out
              obtain ⟨e0, e1, e2, _⟩ := hE1.cells
              exact bodyPost_ret (v := .agg #[.slice a6 (i + 5) c6, .int .i64 X, .int .i64 y0]) (by simp [results, Try.results59, go_sem, e0, e1, e2]) rfl ⟨a6, (i + 5), c6, zs', X, y0, rfl, own_base hE2 (by omega), (by omega), ⟨p', by omega, hE4⟩, hE5⟩
            · have b1 : ((t : Int) == 1) = false := by rw [beq_eq_false_iff_ne]; omega
              by_cases t2 : t = 2
              · subst t2
                obtain ⟨d0, d1, d2, d3, d4, d5⟩ := HD5.out.mach.cells
                have HE := Lib.hid (draw_end0 HD5.out)
                obtain ⟨f0, f1', f2, f3, f4, f5⟩ := HD5.out.res.cells
                have hS1 : w.heap.size < D := HD5.out.ne
                have hS2 : w.heap.size < w5.heap.size := by omega
                have hS3 : w.heap.size ≠ D := by omega
                have hS4 : D ≠ w.heap.size := by omega
                go_wp2
                trace_state
                generalize ((((w5.setCell ⟨D, 0, none⟩ (.slice (some ⟨w5.heap.size, 0, none⟩) 0 0)).setCell ⟨w.heap.size, 0, none⟩ (.slice (some ⟨w5.heap.size, 0, none⟩) 0 0)).setCell ⟨w.heap.size, 1, none⟩ (.int .i64 X)).setCell ⟨w.heap.size, 2, none⟩ (.int .i64 y0)).alloc (.cells #[] 3) = wz at HE ⊢
                obtain ⟨hE1, ⟨zs', hE2⟩, ⟨p', hE3, hE4⟩, hE5⟩ := HE.out
                obtain ⟨e0, e1, e2, _⟩ := hE1.cells
                exact bodyPost_ret (v := .agg #[.slice (some ⟨w5.heap.size, 0, none⟩) 0 0, .int .i64 X, .int .i64 y0]) (by simp [results, Try.results59, go_sem, e0, e1, e2]) rfl ⟨(some ⟨w5.heap.size, 0, none⟩), 0, 0, zs', X, y0, rfl, own_base hE2 (by omega), (by omega), ⟨p', by omega, hE4⟩, hE5⟩
              · have b2 : ((t : Int) == 2) = false := by rw [beq_eq_false_iff_ne]; omega
                have HE := Lib.hid (draw_end HD5.out)
                obtain ⟨f0, f1', f2, f3, f4, f5⟩ := HD5.out.res.cells
                obtain ⟨h0, h1, h2, h3, h4, h5⟩ := HD5.out.mach.cells
                go_wp2
                generalize (((w5.setCell ⟨w.heap.size, 0, none⟩ (.slice a3 i c3)).setCell ⟨w.heap.size, 1, none⟩ (.int .i64 X)).setCell ⟨w.heap.size, 2, none⟩ (.int .i64 y0)) = wz at HE ⊢
                obtain ⟨hE1, ⟨zs', hE2⟩, ⟨p', hE3, hE4⟩, hE5⟩ := HE.out
                obtain ⟨e0, e1, e2, _⟩ := hE1.cells
                exact bodyPost_ret (v := .agg #[.slice a3 i c3, .int .i64 X, .int .i64 y0]) (by simp [results, Try.results59, go_sem, e0, e1, e2]) rfl ⟨a3, i, c3, zs', X, y0, rfl, own_base hE2 (by omega), (by omega), ⟨p', by omega, hE4⟩, hE5⟩
        · go_wp2_with fail
          refine (pick_rd HRL.out i (by omega) (by omega) (by omega)).mono ?_
          rintro e1 w4 ⟨z, rfl, hz, hrd4, hap4, hsz4⟩
          have hd4 := HL.out.apart hap4 hrd4 (show _ ≤ p + 5 + 2 * i by omega)
          have HD4 := Lib.hid hd4
          have HRD4 := Lib.hid hrd4
          clear hrd4 hap4 hsz4
          obtain ⟨p3, p4⟩ := pow_all (show z ≤ 5 by omega)
          obtain ⟨d0, d1, d2, d3, d4, d5⟩ := hd4.mach.cells
          have HL2 := Lib.hid (hd4.store1 (x' := (2 : Int) ^ z) (by have := hd4.ne; omega))
          have HRL2 := Lib.hid (HRD4.out.far D 1 (.int .i64 ((2 : Int) ^ z)) (by have := hd4.ne; omega))
          clear hd4
          go_wp2_with fail
          clear d0 d1 d2 d3 d4 d5
          generalize w4.setCell ⟨D, 1, none⟩ (.int .i64 ((2 : Int) ^ z)) = w9 at HL2 HRL2 ⊢
          obtain ⟨Y, hY⟩ : ∃ Y : Int, Y = (2 : Int) ^ z := ⟨_, rfl⟩
          rw [← hY] at HL2
          clear hY p3 p4
          refine (pick_rd HRL2.out 20 (by omega) (by omega) (by omega)).mono ?_
          rintro e1 w5 ⟨t, rfl, ht, hrd5, hap5, hsz5⟩
          have HD5 := Lib.hid (HL2.out.apart hap5 hrd5 (show _ ≤ p + 30 by omega))
          have hR5 := hrd5.lt
          have hDlt : D < w5.heap.size := lt_of_block HD5.out.mach
          have hSz : w.heap.size + 2 ≤ w5.heap.size := by have h1 := lt_of_block HD5.out.mach; have h2 := HD5.out.ne; omega
          have HR5 := Lib.hid hrd5
          clear hrd5 hap5 hsz5
          obtain ⟨zs, hzs⟩ := HD5.out.own
          have HZ5 := Lib.hid hzs
          clear hzs
          by_cases t0 : t = 0
          · subst t0
            have HID := Lib.hid (Apart.refl R w5)
            have hl5 := HD5.out.ne
            have hRD : R < D := by omega
            have hne : R ≠ D := by omega
            have hne2 : D ≠ R := by omega
            obtain ⟨d0, d1, d2, d3, d4, d5⟩ := HD5.out.mach.cells
            obtain ⟨q, hq⟩ : ∃ q : Nat, q = 2 ^ i := ⟨_, rfl⟩
            have q1 := HR5.out.q1
            have g1 := HR5.out.f1
            go_wp2
            go_region_with (go_at_call 60; (go_loud (with_reducible refine (pick_rdi (a := a) (n := n) (c := c) (p := P5 + 1 + 1) ?_ (2 : Int) 2 rfl (by omega) (by omega) (by omega)).mono ?_)); (go_loud (rd_up HR5)); (go_loud (rintro e1 w6 ⟨z, rfl, hz, hrd6, hap6, hsz6⟩)); (go_loud (obtain ⟨y, hy⟩ : ∃ y : Int, (#[Value.int .i64 (-1), Value.int .i64 (IntKind.i64.wrap (2 ^ i))] : Array Value)[z]? = some (.int .i64 y) := two_cell z hz _ _)); (go_loud (have hap56 := Apart.trans (show Apart R w5 _ by apart_up HID) hap6)); (go_loud (have HD6 := Lib.hid (HD5.out.apart (P' := p + 31) hap56 hrd6 (by omega)))); clear hap56; (go_loud (have zI : (z : Int) < 2 := by omega)); (go_loud (have z0 : (0 : Int) ≤ (z : Int) := by omega)); (first | (have hc := (table_cell2 hap6 hR5).trans hy) | skip); (go_loud (obtain ⟨d0, d1, d2, d3, d4, d5⟩ := HD6.out.mach.cells)); (go_loud (obtain ⟨f0, f1', f2, f3, f4, f5⟩ := HD6.out.res.cells)); (have hcB : (w6.alloc (.cells #[Value.int .i64 (-1), Value.int .i64 (IntKind.i64.wrap (2 ^ i))] 3)).cell? ⟨w6.heap.size, z, none⟩ = some (.int .i64 y) := (by rw [World.cell?_alloc_at _ _ _ _ rfl]; exact hy)); (have hD6 : D < w6.heap.size := lt_of_block HD6.out.mach); (have hS6 : w.heap.size < w6.heap.size := lt_of_block HD6.out.res); clear hrd6 hap6 hsz6 hy)
            · have hx := HD6.out.store2 (y' := y)
              have HX := Lib.hid hx
              clear hx d0 d1 d2 d3 d4 d5 f0 f1' f2 f3 f4 f5 hc hcB
              generalize w6.setCell ⟨D, 2, none⟩ (.int .i64 y) = w7 at HX ⊢
              have HE := Lib.hid (draw_end HX.out)
              obtain ⟨f0, f1', f2, f3, f4, f5⟩ := HX.out.res.cells
              obtain ⟨h0, h1, h2, h3, h4, h5⟩ := HX.out.mach.cells
              go_wp2
              generalize (((w7.setCell ⟨w.heap.size, 0, none⟩ (.slice a3 i c3)).setCell ⟨w.heap.size, 1, none⟩ (.int .i64 Y)).setCell ⟨w.heap.size, 2, none⟩ (.int .i64 y)) = wz at HE ⊢
              obtain ⟨hE1, ⟨zs', hE2⟩, ⟨p', hE3, hE4⟩, hE5⟩ := HE.out
              obtain ⟨e0, e1, e2, _⟩ := hE1.cells
              exact bodyPost_ret (v := .agg #[.slice a3 i c3,   .int .i64 Y, .int .i64 y]) (by simp [results, Try.results59, go_sem, e0, e1, e2]) rfl ⟨a3, i, c3, zs', Y, y, rfl, own_base hE2 (by omega), (by omega), ⟨p', by omega, hE4⟩, hE5⟩
            · have hx := HD6.out.store2 (y' := y)
              obtain ⟨p6, hp6, hrd6⟩ := hx.rd
              have HX := Lib.hid (hx.apart ((Apart.refl R _).allocs hrd6.lt (.cells #[Value.int .i64 (-1), Value.int .i64 (IntKind.i64.wrap (2 ^ i))] 3)) (hrd6.alloc _) (show _ ≤ p + 31 by omega))
              clear hx hrd6 d0 d1 d2 d3 d4 d5 f0 f1' f2 f3 f4 f5 hcB
              generalize (w6.setCell ⟨D, 2, none⟩ (.int .i64 y)).alloc (.cells #[Value.int .i64 (-1), Value.int .i64 (IntKind.i64.wrap (2 ^ i))] 3) = w7 at HX ⊢
              have HE := Lib.hid (draw_end HX.out)
              obtain ⟨f0, f1', f2, f3, f4, f5⟩ := HX.out.res.cells
              obtain ⟨h0, h1, h2, h3, h4, h5⟩ := HX.out.mach.cells
              go_wp2
              generalize (((w7.setCell ⟨w.heap.size, 0, none⟩ (.slice a3 i c3)).setCell ⟨w.heap.size, 1, none⟩ (.int .i64 Y)).setCell ⟨w.heap.size, 2, none⟩ (.int .i64 y)) = wz at HE ⊢
              obtain ⟨hE1, ⟨zs', hE2⟩, ⟨p', hE3, hE4⟩, hE5⟩ := HE.out
              obtain ⟨e0, e1, e2, _⟩ := hE1.cells
              exact bodyPost_ret (v := .agg #[.slice a3 i c3,   .int .i64 Y, .int .i64 y]) (by simp [results, Try.results59, go_sem, e0, e1, e2]) rfl ⟨a3, i, c3, zs', Y, y, rfl, own_base hE2 (by omega), (by omega), ⟨p', by omega, hE4⟩, hE5⟩
          · have b0 : ((t : Int) == 0) = false := by rw [beq_eq_false_iff_ne]; omega
            by_cases t1 : t = 1
            · subst t1
              obtain ⟨d0, d1, d2, d3, d4, d5⟩ := HD5.out.mach.cells
              go_wp2_with (at_builtin; refine wpList_append_own _ rfl _ _ 23 rfl (w.heap.size + 1) 3 i0 (.int .i64 0) 1 8 Try.underlying23 hi hz0 hz1 hz2 rfl (by decide) _ _ _ rfl (own_below HZ5.out ((Below.refl _ _).alloc (Nat.le_refl _) _) (Nat.le_refl _)) ⟨w5.heap.size, 0, none⟩ 5 5 (ints [1, 1, 1, 1, 1]) rfl rfl ?cb1 ?cb2 ?cb3 ?cb4 ?cb5 ?_)
              case cb1 =>
                intro j u hj
                match j, hj with
                | 0, hj => simp [ints] at hj; subst hj; simp [Addr.add]
                | 1, hj => simp [ints] at hj; subst hj; simp [Addr.add]
                | 2, hj => simp [ints] at hj; subst hj; simp [Addr.add]
                | 3, hj => simp [ints] at hj; subst hj; simp [Addr.add]
                | 4, hj => simp [ints] at hj; subst hj; simp [Addr.add]
                | j + 5, hj => simp [ints] at hj
              case cb2 => intro u hu; simp [ints] at hu; subst hu; rfl
              case cb3 => unfold maxLen; omega
              case cb4 => omega
              case cb5 => simp; omega
              intro v' w6 hown6 hgrow _
              obtain ⟨hm6, hA⟩ := DrawM.grow HD5.out (us := [1, 1, 1, 1, 1]) (P' := p + 30) hgrow hown6 ((Apart.refl R w5).allocs hR5 _) (HR5.out.alloc _) (by omega)
              obtain ⟨a6, c6, rfl⟩ := own_form hown6
              have HX := Lib.hid hA
              obtain ⟨e0, e1, e2, e3, e4, e5⟩ := hm6.cells
              clear hown6 hgrow hm6 hA d0 d1 d2 d3 d4 d5
              have HE := Lib.hid (draw_end HX.out)
              obtain ⟨f0, f1', f2, f3, f4, f5⟩ := HX.out.res.cells
              obtain ⟨h0, h1, h2, h3, h4, h5⟩ := HX.out.mach.cells
              go_wp2
              generalize ((((w6.setCell ⟨D, 0, none⟩ (.slice a6 (i + 5) c6)).setCell ⟨w.heap.size, 0, none⟩ (.slice a6 (i + 5) c6)).setCell ⟨w.heap.size, 1, none⟩ (.int .i64 Y)).setCell ⟨w.heap.size, 2, none⟩ (.int .i64 y0)) = wz at HE ⊢
              obtain ⟨hE1, ⟨zs', hE2⟩, ⟨p', hE3, hE4⟩, hE5⟩ := HE.out
              obtain ⟨e0, e1, e2, _⟩ := hE1.cells
              exact bodyPost_ret (v := .agg #[.slice a6 (i + 5) c6,   .int .i64 Y, .int .i64 y0]) (by simp [results, Try.results59, go_sem, e0, e1, e2]) rfl ⟨a6, (i + 5), c6, zs', Y, y0, rfl, own_base hE2 (by omega), (by omega), ⟨p', by omega, hE4⟩, hE5⟩
            · have b1 : ((t : Int) == 1) = false := by rw [beq_eq_false_iff_ne]; omega
              by_cases t2 : t = 2
              · subst t2
                obtain ⟨d0, d1, d2, d3, d4, d5⟩ := HD5.out.mach.cells
                have HE := Lib.hid (draw_end0 HD5.out)
                obtain ⟨f0, f1', f2, f3, f4, f5⟩ := HD5.out.res.cells
                have hS1 : w.heap.size < D := HD5.out.ne
                have hS2 : w.heap.size < w5.heap.size := by omega
                have hS3 : w.heap.size ≠ D := by omega
                have hS4 : D ≠ w.heap.size := by omega
                go_wp2
                trace_state
                generalize ((((w5.setCell ⟨D, 0, none⟩ (.slice (some ⟨w5.heap.size, 0, none⟩) 0 0)).setCell ⟨w.heap.size, 0, none⟩ (.slice (some ⟨w5.heap.size, 0, none⟩) 0 0)).setCell ⟨w.heap.size, 1, none⟩ (.int .i64 Y)).setCell ⟨w.heap.size, 2, none⟩ (.int .i64 y0)).alloc (.cells #[] 3) = wz at HE ⊢
                obtain ⟨hE1, ⟨zs', hE2⟩, ⟨p', hE3, hE4⟩, hE5⟩ := HE.out
                obtain ⟨e0, e1, e2, _⟩ := hE1.cells
                exact bodyPost_ret (v := .agg #[.slice (some ⟨w5.heap.size, 0, none⟩) 0 0,   .int .i64 Y, .int .i64 y0]) (by simp [results, Try.results59, go_sem, e0, e1, e2]) rfl ⟨(some ⟨w5.heap.size, 0, none⟩), 0, 0, zs', Y, y0, rfl, own_base hE2 (by omega), (by omega), ⟨p', by omega, hE4⟩, hE5⟩
              · have b2 : ((t : Int) == 2) = false := by rw [beq_eq_false_iff_ne]; omega
                have HE := Lib.hid (draw_end HD5.out)
                obtain ⟨f0, f1', f2, f3, f4, f5⟩ := HD5.out.res.cells
                obtain ⟨h0, h1, h2, h3, h4, h5⟩ := HD5.out.mach.cells
                go_wp2
                generalize (((w5.setCell ⟨w.heap.size, 0, none⟩ (.slice a3 i c3)).setCell ⟨w.heap.size, 1, none⟩ (.int .i64 Y)).setCell ⟨w.heap.size, 2, none⟩ (.int .i64 y0)) = wz at HE ⊢
                obtain ⟨hE1, ⟨zs', hE2⟩, ⟨p', hE3, hE4⟩, hE5⟩ := HE.out
                obtain ⟨e0, e1, e2, _⟩ := hE1.cells
                exact bodyPost_ret (v := .agg #[.slice a3 i c3,   .int .i64 Y, .int .i64 y0]) (by simp [results, Try.results59, go_sem, e0, e1, e2]) rfl ⟨a3, i, c3, zs', Y, y0, rfl, own_base hE2 (by omega), (by omega), ⟨p', by omega, hE4⟩, hE5⟩

end Go.Proofs.Ytiphooodijbhiaa
