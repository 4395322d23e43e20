/-
  The walk of spec.l1Less: it makes the ring, then the tail of a set as short as it may be.
-/
import Derived.Test.YtojjfkabepkhdaaSetDef
import Derived.Test.YtojjfkabepkhdaaTidyText
import Derived.Deep.QuietTactic
import Derived.BigQuiet
import Derived.Deep.RegionWith
import Derived.Deep.AppendLies
import Derived.Deep.RegionLaw
namespace Go.Proofs.Ytojjfkabepkhdaa
open Go.RowKit

/-- A set of the model's, in memory. -/
structure LessIn (w : World) (t r : List Bool) (a1 : Option Addr) (n1 c1 : Nat) (a2 : Option Addr) (n2 c2 : Nat) : Prop where
  tail : Reads w a1 n1 t
  ring : Reads w a2 n2 r
  cap1 : n1 ≤ c1
  cap2 : n2 ≤ c2
  max1 : c1 ≤ maxLen
  max2 : c2 ≤ maxLen
  le1 : n1 ≤ 4000
  le2 : n2 ≤ 4000
  pos : 0 < n2

theorem LessIn.below {w w' : World} {t r : List Bool} {a1 : Option Addr} {n1 c1 : Nat} {a2 : Option Addr} {n2 c2 B : Nat} (h : LessIn w t r a1 n1 c1 a2 n2 c2) (hb : Below B w w') (hB : w.heap.size ≤ B) : LessIn w' t r a1 n1 c1 a2 n2 c2 :=
  ⟨h.tail.below hb hB, h.ring.below hb hB, h.cap1, h.cap2, h.max1, h.max2, h.le1, h.le2, h.pos⟩

theorem Reads.take {w : World} {a : Option Addr} {n d : Nat} {bs : List Bool} (h : Reads w a n bs) (hd : d ≤ n) : Reads w a d (bs.take d) := by
  refine ⟨by rw [List.length_take, h.len]; omega, ?_⟩
  rcases h.cells with h0 | ⟨g, o, ha, hg, hc⟩
  · exact .inl (by omega)
  · exact .inr ⟨g, o, ha, hg, fun i hi => by rw [getD_take _ _ _ hi]; exact hc i (by omega)⟩

/-- What l1Less leaves: the tidy tail and ring of the same set. -/
structure LessOut (w : World) (f : Nat → Bool) (b1 : Option Addr) (m e1 : Nat) (b2 : Option Addr) (q e2 : Nat) : Prop where
  tidy : Tidy f m q
  lies : LessIn w (part f 0 m) (part f m q) b1 m e1 b2 q e2

def LessPost (f : Nat → Bool) (w : World) (e : Ending) (w' : World) : Prop :=
  ∃ b1 m e1 b2 q e2, e = .returned (.agg #[.slice b1 m e1, .slice b2 q e2]) ∧ Below w.heap.size w w' ∧ LessOut w' f b1 m e1 b2 q e2

/-- What the inner loop has found out of the ring's first k places. -/
def SoFar (r : List Bool) (d k : Nat) (b : Bool) : Prop := (b = true → r.length % d = 0 ∧ ∀ i, d ≤ i → i < k → r.getD i false = r.getD (i - d) false) ∧ (b = false → ¬ PerRing r d)

theorem soFar_start (r : List Bool) (n d : Nat) (hn : r.length = n) : SoFar r d d ((n : Int) % (d : Int) == 0) := by
  have h2 : (n : Int) % (d : Int) = ((n % d : Nat) : Int) := rfl
  refine ⟨fun h => ⟨?_, fun i h1 h2 => by omega⟩, fun h hp => ?_⟩
  · have h1 : (n : Int) % (d : Int) = 0 := by simpa using h
    rw [hn]; omega
  · have h1 := hp.1
    rw [hn] at h1
    rw [h2, h1] at h
    simp at h

theorem soFar_step {r : List Bool} {d k : Nat} (h : SoFar r d k true) (he : r.getD k false = r.getD (k - d) false) : SoFar r d (k + 1) true :=
  ⟨fun _ => ⟨(h.1 rfl).1, fun i h1 h2 => by
    by_cases e : i = k
    · rw [e]; exact he
    · exact (h.1 rfl).2 i h1 (by omega)⟩, fun h => by simp at h⟩

theorem soFar_fail {r : List Bool} {d k : Nat} (hd : d ≤ k) (hk : k < r.length) (he : ¬ r.getD k false = r.getD (k - d) false) : SoFar r d (k + 1) false :=
  ⟨fun h => by simp at h, fun _ hp => he (hp.2 k hd hk)⟩

theorem soFar_done {r : List Bool} {d k : Nat} (h : SoFar r d k true) (hk : r.length = k) : PerRing r d := ⟨(h.1 rfl).1, fun i h1 h2 => (h.1 rfl).2 i h1 (by omega)⟩

theorem soFar_not {r : List Bool} {d k : Nat} (h : SoFar r d k false) : ¬ PerRing r d := h.2 rfl

/-- The world of l1Less behind its first operations. -/
abbrev lessW (w : World) (v1 v2 : Value) : World := (w.alloc (.cells #[v1, v2] 48)).alloc (.cells #[.slice none 0 0, .slice none 0 0] 48)

theorem lessW_below (w : World) (v1 v2 : Value) : Below w.heap.size w (lessW w v1 v2) := ((Below.refl _ _).alloc (Nat.le_refl _) _).alloc (by simp) _

theorem lessW_cells (w : World) (v1 v2 : Value) : (lessW w v1 v2).cell? ⟨w.heap.size + 1, 0, none⟩ = some (.slice none 0 0) ∧ (lessW w v1 v2).cell? ⟨w.heap.size + 1, 1, none⟩ = some (.slice none 0 0) ∧
    (lessW w v1 v2).frozen? ⟨w.heap.size + 1, 0, none⟩ = false ∧ (lessW w v1 v2).frozen? ⟨w.heap.size + 1, 1, none⟩ = false := by
  refine ⟨?_, ?_, ?_, ?_⟩ <;> go_simp

/-- Behind the call of itself: the answer is stored and handed back. -/
theorem less_end {w w3 : World} {v1 v2 : Value} {nd : Nat} {f g : Nat → Bool} {b1 b2 : Option Addr} {m e1 q e2 : Nat} (hb : Below ((lessW w v1 v2).drewN nd).heap.size ((lessW w v1 v2).drewN nd) w3)
    (ho : LessOut w3 f b1 m e1 b2 q e2) (hf : f = g) :
    w3.cell? ⟨w.heap.size + 1, 0, none⟩ = some (.slice none 0 0) ∧ w3.cell? ⟨w.heap.size + 1, 1, none⟩ = some (.slice none 0 0) ∧
    w3.frozen? ⟨w.heap.size + 1, 0, none⟩ = false ∧ w3.frozen? ⟨w.heap.size + 1, 1, none⟩ = false ∧ w.heap.size + 2 ≤ w3.heap.size ∧ LessOut w3 g b1 m e1 b2 q e2 ∧ Below w.heap.size w w3 := by
  obtain ⟨c0, c1, f0, f1⟩ := lessW_cells w v1 v2
  have hs : ((lessW w v1 v2).drewN nd).heap.size = w.heap.size + 2 := by show (lessW w v1 v2).heap.size = _; simp
  have hs3 := hb.size
  have l : w.heap.size + 1 < ((lessW w v1 v2).drewN nd).heap.size := by omega
  subst hf
  exact ⟨(hb.cell (p := ⟨w.heap.size + 1, 0, none⟩) l).trans c0, (hb.cell (p := ⟨w.heap.size + 1, 1, none⟩) l).trans c1, (hb.frozen (p := ⟨w.heap.size + 1, 0, none⟩) l).trans f0, (hb.frozen (p := ⟨w.heap.size + 1, 1, none⟩) l).trans f1,
    by omega, ho, (below_drewN (lessW_below w v1 v2) nd).trans (hb.mono (by omega))⟩

theorem Reads.store {w : World} {a : Option Addr} {n : Nat} {bs : List Bool} {p : Addr} (h : Reads w a n bs) (hp : w.cell? p = some (.slice none 0 0)) (v : Value) : Reads (w.setCell p v) a n bs := by
  refine ⟨h.len, ?_⟩
  rcases h.cells with h0 | ⟨g, o, ha, hg, hc⟩
  · exact .inl h0
  · refine .inr ⟨g, o, ha, by simpa [World.setCell] using hg, fun i hi => ?_⟩
    rw [World.cell?_setCell_other _ _ _ _ (fun e => by have := hc i hi; rw [← e, hp] at this; cases this)]
    exact hc i hi

theorem LessOut.store {w : World} {f : Nat → Bool} {b1 b2 : Option Addr} {m e1 q e2 : Nat} {p : Addr} (h : LessOut w f b1 m e1 b2 q e2) (hp : w.cell? p = some (.slice none 0 0)) (v : Value) : LessOut (w.setCell p v) f b1 m e1 b2 q e2 :=
  ⟨h.tidy, h.lies.tail.store hp v, h.lies.ring.store hp v, h.lies.cap1, h.lies.cap2, h.lies.max1, h.lies.max2, h.lies.le1, h.lies.le2, h.lies.pos⟩

theorem less_fin {w w3 : World} {g : Nat → Bool} {b1 b2 : Option Addr} {m e1 q e2 : Nat} {u v : Value} (r0 : w3.cell? ⟨w.heap.size + 1, 0, none⟩ = some (.slice none 0 0)) (r1 : w3.cell? ⟨w.heap.size + 1, 1, none⟩ = some (.slice none 0 0))
    (ho : LessOut w3 g b1 m e1 b2 q e2) (hb : Below w.heap.size w w3) :
    Below w.heap.size w ((w3.setCell ⟨w.heap.size + 1, 0, none⟩ u).setCell ⟨w.heap.size + 1, 1, none⟩ v) ∧ LessOut ((w3.setCell ⟨w.heap.size + 1, 0, none⟩ u).setCell ⟨w.heap.size + 1, 1, none⟩ v) g b1 m e1 b2 q e2 :=
  ⟨(hb.setCell (by show _ ≤ w.heap.size + 1; omega) _).setCell (by show _ ≤ w.heap.size + 1; omega) _, (ho.store r0 u).store ((World.cell?_setCell_other _ _ _ _ (by simp)).trans r1) v⟩

theorem lessIn_later {w : World} {v1 v2 u v : Value} {nd : Nat} {t r : List Bool} {a1 : Option Addr} {n1 c1 : Nat} {a2 : Option Addr} {n2 c2 : Nat} (h : LessIn w t r a1 n1 c1 a2 n2 c2) :
    Below w.heap.size w ((((lessW w v1 v2).drewN nd).setCell ⟨w.heap.size + 1, 0, none⟩ u).setCell ⟨w.heap.size + 1, 1, none⟩ v) ∧ LessIn ((((lessW w v1 v2).drewN nd).setCell ⟨w.heap.size + 1, 0, none⟩ u).setCell ⟨w.heap.size + 1, 1, none⟩ v) t r a1 n1 c1 a2 n2 c2 := by
  have hb : Below w.heap.size w ((((lessW w v1 v2).drewN nd).setCell ⟨w.heap.size + 1, 0, none⟩ u).setCell ⟨w.heap.size + 1, 1, none⟩ v) :=
    ((below_drewN (lessW_below w v1 v2) nd).setCell (by show _ ≤ w.heap.size + 1; omega) _).setCell (by show _ ≤ w.heap.size + 1; omega) _
  exact ⟨hb, h.below hb (Nat.le_refl _)⟩

theorem less_self {w : World} {v1 v2 u v : Value} {nd : Nat} {t r : List Bool} {a1 : Option Addr} {n1 c1 : Nat} {a2 : Option Addr} {n2 c2 : Nat} (h : LessIn w t r a1 n1 c1 a2 n2 c2)
    (h1 : ∀ d, 0 < d → d < n2 → ¬ PerRing r d) (h2 : n1 = 0 ∨ t.getD (n1 - 1) false ≠ r.getD (n2 - 1) false) :
    Below w.heap.size w ((((lessW w v1 v2).drewN nd).setCell ⟨w.heap.size + 1, 0, none⟩ u).setCell ⟨w.heap.size + 1, 1, none⟩ v) ∧ LessOut ((((lessW w v1 v2).drewN nd).setCell ⟨w.heap.size + 1, 0, none⟩ u).setCell ⟨w.heap.size + 1, 1, none⟩ v) (hasB t r) a1 n1 c1 a2 n2 c2 := by
  obtain ⟨hb, hl⟩ := lessIn_later (v1 := v1) (v2 := v2) (u := u) (v := v) (nd := nd) h
  have e1 := h.tail.len
  have e2 := h.ring.len
  have ht := less_tidy (t := t) (r := r) (by rw [e2]; exact h.pos) (by rw [e2]; exact h1) (by rw [e1, e2]; exact h2)
  have p1 := part_tail t r
  have p2 := part_ring t r
  rw [e1] at p1 ht p2
  rw [e2] at ht p2
  exact ⟨hb, ht, by rw [p1, p2]; exact hl⟩

theorem lessW_size (w : World) (v1 v2 : Value) (k : Nat) : ((lessW w v1 v2).drewN k).heap.size = w.heap.size + 1 + 1 := by show (lessW w v1 v2).heap.size = _; simp

theorem less_lit (w : World) (v1 v2 : Value) (k : Nat) (x : Bool) :
    (((lessW w v1 v2).drewN k).alloc (.cells #[.bool x] 4)).ownsRow w.heap.size 4 1 (.slice (some ⟨w.heap.size + 1 + 1, 0, none⟩) 1 1) 1 [.bool x] := by
  have hs := lessW_size w v1 v2 k
  have h := World.ownsRow_lit (base := w.heap.size) (e := 4) (size := 1) ((lessW w v1 v2).drewN k) #[.bool x] 1 (by rw [hs]; omega) (by decide) rfl
  rw [hs] at h
  exact h

theorem less_size_lit (w : World) (v1 v2 : Value) (k : Nat) (o : Obj) : w.heap.size ≤ (((lessW w v1 v2).drewN k).alloc o).heap.size := by
  have hs := lessW_size w v1 v2 k
  simp at hs ⊢; omega

theorem less_below_lit (w : World) (v1 v2 : Value) (k : Nat) (o : Obj) : Below w.heap.size w (((lessW w v1 v2).drewN k).alloc o) :=
  (below_drewN (lessW_below w v1 v2) k).alloc (by have := lessW_size w v1 v2 k; omega) o

theorem bools_one (l : List Bool) : ∀ u ∈ l.map Value.bool, u.oneCell' = true := by
  intro u hu
  obtain ⟨b, _, rfl⟩ := List.mem_map.1 hu
  rfl

theorem less_news {w W' : World} {t r : List Bool} {a1 : Option Addr} {n1 c1 g2 o2 n2 c2 d : Nat} (h : LessIn w t r a1 n1 c1 (some ⟨g2, o2, none⟩) n2 c2) (hd : d < n2) (hb : Below w.heap.size w W') :
    ∀ (j : Nat) (u : Value), ((r.take d).map Value.bool)[j]? = some u → W'.cell? ((⟨g2, o2, none⟩ : Addr).add j) = some u := by
  intro j u hj
  rcases h.ring.cells with h0 | ⟨g, o, ha, hg, hc⟩
  · have := h.pos; omega
  · injection ha with ha
    injection ha with h1 h2 _
    subst h1; subst h2
    have hlen := h.ring.len
    have hjd : j < d := by
      rcases Nat.lt_or_ge j d with k | k
      · exact k
      · rw [List.getElem?_eq_none (by rw [List.length_map, List.length_take]; omega)] at hj; cases hj
    rw [List.getElem?_map, List.getElem?_take_of_lt hjd, List.getElem?_eq_getElem (by omega)] at hj
    injection hj with hj
    subst hj
    have e : (⟨g2, o2, none⟩ : Addr).add j = ⟨g2, o2 + j, none⟩ := by unfold Addr.add; split <;> simp_all
    rw [e]
    refine ((hb.cell (p := ⟨g2, o2 + j, none⟩) hg).trans (hc j (by omega))).trans ?_
    rw [List.getD_eq_getElem?_getD, List.getElem?_eq_getElem (by omega)]; rfl

theorem less_grown {w w3 : World} {v1 v2 : Value} {k : Nat} {o : Obj} (hg : (((lessW w v1 v2).drewN k).alloc o).grownBy w3 (Value.slice (some ⟨w.heap.size + 1 + 1, 0, none⟩) 1 1).ownBlock) :
    Below (w.heap.size + 1 + 1) (lessW w v1 v2) w3 := by
  have hs := lessW_size w v1 v2 k
  exact ((below_drewN (Below.refl _ _) k).alloc (by omega) o).grown hg (by simp) (fun j hj => by
    have e : some (w.heap.size + 1 + 1) = some j := hj
    injection e with e; omega)

/-- The world behind the append: what the call of itself wants. -/
theorem less_next {w w3 : World} {t r : List Bool} {a1 : Option Addr} {y c1 n2 c2 g cap base : Nat} {a2 : Option Addr} {x : Bool} {v1 v2 : Value} (h : LessIn w t r a1 (y + 1) c1 a2 n2 c2) (hb : Below (w.heap.size + 1 + 1) (lessW w v1 v2) w3)
    (ho : w3.ownsRow base 4 1 (.slice (some ⟨g, 0, none⟩) (1 + (n2 - 1)) cap) (1 + (n2 - 1)) ([.bool x] ++ (r.take (n2 - 1)).map Value.bool)) :
    LessIn w3 (t.take y) (x :: r.take (n2 - 1)) a1 y c1 (some ⟨g, 0, none⟩) n2 cap := by
  rw [show 1 + (n2 - 1) = n2 from by have := h.pos; omega] at ho
  have hw : Below w.heap.size w w3 := (lessW_below w v1 v2).trans (hb.mono (by omega))
  have hcap : n2 ≤ cap ∧ cap ≤ maxLen := by
    rcases ho.2 with ⟨hv, _⟩ | ⟨g', cap', cur, hv, _, _, hn, hm, _⟩
    · cases hv
    · injection hv with _ _ hc
      subst hc; exact ⟨hn, hm⟩
  have hr : Reads w3 (some ⟨g, 0, none⟩) n2 (x :: r.take (n2 - 1)) := reads_own2 ho (by rw [List.length_cons, List.length_take, h.ring.len]; have := h.pos; omega)
  have p := h.pos
  have l1 := h.le1
  have l2 := h.le2
  have k1 := h.cap1
  exact ⟨(h.tail.take (by omega)).below hw (Nat.le_refl _), hr, by omega, hcap.1, h.max1, hcap.2, by omega, by omega, by omega⟩

theorem less_boxes {w w3 : World} {v1 v2 : Value} (hb : Below (w.heap.size + 1 + 1) (lessW w v1 v2) w3) :
    w3.cell? ⟨w.heap.size, 0, none⟩ = some v1 ∧ w3.cell? ⟨w.heap.size, 1, none⟩ = some v2 := by
  refine ⟨(hb.cell (p := ⟨w.heap.size, 0, none⟩) (by show w.heap.size < _; omega)).trans ?_, (hb.cell (p := ⟨w.heap.size, 1, none⟩) (by show w.heap.size < _; omega)).trans ?_⟩
  · rw [World.cell?_alloc_past _ _ _ (by simp), World.cell?_alloc_at _ _ _ _ rfl]; rfl
  · rw [World.cell?_alloc_past _ _ _ (by simp), World.cell?_alloc_at _ _ _ _ rfl]; rfl

theorem less_end2 {w w3 : World} {v1 v2 : Value} {f g : Nat → Bool} {b1 b2 : Option Addr} {m e1 q e2 : Nat} (hb : Below (w.heap.size + 1 + 1) (lessW w v1 v2) w3)
    (ho : LessOut w3 f b1 m e1 b2 q e2) (hf : f = g) :
    w3.cell? ⟨w.heap.size + 1, 0, none⟩ = some (.slice none 0 0) ∧ w3.cell? ⟨w.heap.size + 1, 1, none⟩ = some (.slice none 0 0) ∧
    w3.frozen? ⟨w.heap.size + 1, 0, none⟩ = false ∧ w3.frozen? ⟨w.heap.size + 1, 1, none⟩ = false ∧ w.heap.size + 2 ≤ w3.heap.size ∧ LessOut w3 g b1 m e1 b2 q e2 ∧ Below w.heap.size w w3 := by
  obtain ⟨c0, c1, f0, f1⟩ := lessW_cells w v1 v2
  have hs : (lessW w v1 v2).heap.size = w.heap.size + 1 + 1 := by simp
  have hs3 := hb.size
  have l : w.heap.size + 1 < w.heap.size + 1 + 1 := by omega
  subst hf
  exact ⟨(hb.cell (p := ⟨w.heap.size + 1, 0, none⟩) l).trans c0, (hb.cell (p := ⟨w.heap.size + 1, 1, none⟩) l).trans c1, (hb.frozen (p := ⟨w.heap.size + 1, 0, none⟩) l).trans f0, (hb.frozen (p := ⟨w.heap.size + 1, 1, none⟩) l).trans f1,
    by omega, ho, (lessW_below w v1 v2).trans (hb.mono (by omega))⟩

theorem less_after {w w3 w4 : World} {v1 v2 : Value} (hb : Below (w.heap.size + 1 + 1) (lessW w v1 v2) w3) (hb4 : Below w3.heap.size w3 w4) : Below (w.heap.size + 1 + 1) (lessW w v1 v2) w4 :=
  hb.trans (hb4.mono (by have := hb.size; have : (lessW w v1 v2).heap.size = w.heap.size + 1 + 1 := by simp
                         omega))

set_option maxRecDepth 100000 in
set_option maxHeartbeats 4000000 in
theorem less_any (N : Nat) : ∀ (t r : List Bool) (a1 : Option Addr) (n1 c1 : Nat) (a2 : Option Addr) (n2 c2 : Nat) (w : World), n1 + n2 = N → LessIn w t r a1 n1 c1 a2 n2 c2 →
    Calls Try.prog 81 #[.agg #[.slice a1 n1 c1, .slice a2 n2 c2]] w (LessPost (hasB t r) w) := by
  induction N using Nat.strongRecOn with
  | ind N ih =>
    intro t r a1 n1 c1 a2 n2 c2 w hN h
    have HI := Lib.hid ih
    have HN := Lib.hid hN
    have H := Lib.hid h
    clear ih hN h
    have hle1 := H.out.le1
    have hle2 := H.out.le2
    have hpos := H.out.pos
    obtain ⟨g2, o2, rfl, hg2, hc2⟩ : ∃ g o, a2 = some ⟨g, o, none⟩ ∧ g < w.heap.size ∧ ∀ i, i < n2 → w.cell? ⟨g, o + i, none⟩ = some (.bool (r.getD i false)) := by
      rcases H.out.ring.cells with h | h
      · omega
      · exact h
    have HC := Lib.hid (fun i (hi : i < n2) => ((lessW_below w (.slice a1 n1 c1) (.slice (some ⟨g2, o2, none⟩) n2 c2)).cell (p := ⟨g2, o2 + i, none⟩) hg2).trans (hc2 i hi))
    clear hc2
    obtain ⟨i0, hi, hz0, hz1, hz2⟩ := info_parts Try.infoBool
    go_enter Try.func81, Try.ntmps81
    go_wp2
    go_loopw [4] (fun i wr => ∃ d : Nat, 1 ≤ d ∧ d ≤ n2 ∧ i = .int .i64 d ∧ (∀ e, 0 < e → e < d → ¬ PerRing r e) ∧ ∃ nd, wr = (lessW w (.slice a1 n1 c1) (.slice (some ⟨g2, o2, none⟩) n2 c2)).drewN nd) (fun i _ => n2 - (intOf i).toNat)
    case atStart => exact ⟨1, Nat.le_refl _, hpos, rfl, fun e h1 h2 => by omega, 0, rfl⟩
    case round =>
      obtain ⟨d, hd1, hdn, rfl, hno, nd, rfl⟩ := hrel
      have HNO := Lib.hid hno
      clear hno
      by_cases hlt : d < n2
      · have hE : ¬ d = 0 := by omega
        go_wp2
        go_loopw [5, 6] (fun s5 s6 wr => ∃ (k : Nat) (b : Bool), s5 = .bool b ∧ s6 = .int .i64 k ∧ d ≤ k ∧ k ≤ n2 ∧ SoFar r d k b ∧ ∃ nd, wr = (lessW w (.slice a1 n1 c1) (.slice (some ⟨g2, o2, none⟩) n2 c2)).drewN nd)
          (fun _ s6 _ => n2 - (intOf s6).toNat)
        case atStart => exact ⟨d, _, rfl, rfl, Nat.le_refl _, hdn, soFar_start r n2 d H.out.ring.len, nd, rfl⟩
        case round =>
          obtain ⟨k, b, rfl, rfl, hk1, hk2, hbt, nd2, rfl⟩ := hrel
          have HBT := Lib.hid hbt
          clear hbt
          cases b
          · have HP := Lib.hid (soFar_not HBT.out)
            by_cases hkn : k < n2
            · go_wp2
              go_roundw
              case rel => exact ⟨d + 1, by omega, by omega, by go_num, fun e h1 h2 => by
                by_cases e' : e = d
                · rw [e']; exact HP.out
                · exact HNO.out e h1 (by omega), nd2, rfl⟩
              case measure => simp [intOf]; omega
            · go_wp2
              go_roundw
              case rel => exact ⟨d + 1, by omega, by omega, by go_num, fun e h1 h2 => by
                by_cases e' : e = d
                · rw [e']; exact HP.out
                · exact HNO.out e h1 (by omega), nd2, rfl⟩
              case measure => simp [intOf]; omega
          · by_cases hkn : k < n2
            · have q1 := HC.out k hkn
              have q2 := HC.out (k - d) (by omega)
              have b1 : (k : Int) < (n2 : Int) := by omega
              have b2 : (0 : Int) ≤ (k : Int) := by omega
              have b3 : (k : Int) - (d : Int) < (n2 : Int) := by omega
              have b4 : (0 : Int) ≤ (k : Int) - (d : Int) := by omega
              obtain ⟨x, hx⟩ : ∃ x, r.getD k false = x := ⟨_, rfl⟩
              obtain ⟨y, hy⟩ : ∃ y, r.getD (k - d) false = y := ⟨_, rfl⟩
              rw [hx] at q1
              rw [hy] at q2
              have HX := Lib.hid hx
              have HY := Lib.hid hy
              clear hx hy
              by_cases he : x = y
              · subst he
                go_wp2
                have e1 : IntKind.i64.wrap ((k : Int) - (d : Int)) = (k : Int) - (d : Int) := by rw [IntWalk.i64_in _ (by omega)]
                have e2 : ((k : Int) - (d : Int)).toNat = k - d := by omega
                go_quiet (fail)
                go_wp2
                go_roundw
                case rel => exact ⟨k + 1, true, rfl, by go_num, by omega, by omega, soFar_step HBT.out (by rw [HX.out, HY.out]), _, rfl⟩
                case measure => simp [intOf]; omega
              · have hnb : (x == y) = false := by revert he; cases x <;> cases y <;> simp
                have HNP := Lib.hid (soFar_fail (r := r) hk1 (by rw [H.out.ring.len]; exact hkn) (by rw [HX.out, HY.out]; exact he))
                go_wp2
                have e1 : IntKind.i64.wrap ((k : Int) - (d : Int)) = (k : Int) - (d : Int) := by rw [IntWalk.i64_in _ (by omega)]
                have e2 : ((k : Int) - (d : Int)).toNat = k - d := by omega
                go_quiet (fail)
                go_wp2
                go_roundw
                case rel => exact ⟨k + 1, false, rfl, by go_num, by omega, by omega, HNP.out, _, rfl⟩
                case measure => simp [intOf]; omega
            · have hkn2 : k = n2 := by omega
              subst hkn2
              have HPR := Lib.hid (soFar_done HBT.out H.out.ring.len)
              have b1 : (d : Int) ≤ (c2 : Int) := by have := H.out.cap2; omega
              have b2 : (0 : Int) ≤ (d : Int) := by omega
              have HIn : Hid (LessIn w t (r.take d) a1 n1 c1 (some ⟨g2, o2, none⟩) d c2) := Lib.hid
                ⟨H.out.tail, H.out.ring.take (by omega), H.out.cap1, by have := H.out.cap2; omega, H.out.max1, H.out.max2, hle1, by omega, by omega⟩
              have HF := Lib.hid (less_ring (t := t) (by omega) (by rw [H.out.ring.len]; omega) HPR.out)
              go_wp2
              go_region_with (go_at_call 81; (with_reducible refine (HI.out (n1 + d) ?_ t (r.take d) a1 n1 c1 (some ⟨g2, o2, none⟩) d c2 _ rfl ?_).mono ?_); (have := HN.out; omega); exact HIn.out.below (below_drewN (lessW_below _ _ _) _) (Nat.le_refl _); rintro e w3 ⟨b1, m, e1, b2, q, e2, rfl, hb3, hout⟩; (obtain ⟨r0, r1, f0, f1, hz, HE0⟩ := less_end hb3 hout HF.out); have HE := Lib.hid HE0; clear HE0 hb3 hout)
              all_goals
                go_wp2
                exact bodyPost_ret (v := .agg #[.slice b1 m e1, .slice b2 q e2]) (by simp [results, Try.results81, go_sem, r0, r1]) rfl ⟨b1, m, e1, b2, q, e2, rfl, less_fin r0 r1 HE.out.1 HE.out.2⟩
      · obtain rfl : d = n2 := by omega
        cases n1 with
        | zero =>
          go_wp2
          go_quiet (fail)
          go_wp2
          exact bodyPost_ret (v := .agg #[.slice a1 0 c1, .slice (some ⟨g2, o2, none⟩) d c2]) (by simp [results, Try.results81, go_sem]) rfl ⟨_, _, _, _, _, _, rfl, less_self H.out (fun e h1 h2 => HNO.out e h1 h2) (.inl rfl)⟩
        | succ y =>
          obtain ⟨g1, o1, rfl, hg1, hc1⟩ : ∃ g o, a1 = some ⟨g, o, none⟩ ∧ g < w.heap.size ∧ ∀ i, i < y + 1 → w.cell? ⟨g, o + i, none⟩ = some (.bool (t.getD i false)) := by
            rcases H.out.tail.cells with h | h
            · omega
            · exact h
          have q1 := ((lessW_below w (.slice (some ⟨g1, o1, none⟩) (y + 1) c1) (.slice (some ⟨g2, o2, none⟩) d c2)).cell (p := ⟨g1, o1 + y, none⟩) hg1).trans (hc1 y (by omega))
          have q2 := HC.out (d - 1) (by omega)
          clear hc1
          obtain ⟨x, hx⟩ : ∃ x, t.getD y false = x := ⟨_, rfl⟩
          obtain ⟨z, hz⟩ : ∃ z, r.getD (d - 1) false = z := ⟨_, rfl⟩
          rw [hx] at q1
          rw [hz] at q2
          have HX := Lib.hid hx
          have HZ := Lib.hid hz
          clear hx hz
          have b1 : (0 : Int) < (y : Int) + 1 := by omega
          have b2 : (0 : Int) ≤ (y : Int) := by omega
          have b3 : (y : Int) < (y : Int) + 1 := by omega
          have b4 : (0 : Int) ≤ (d : Int) - 1 := by omega
          have b4' : (1 : Int) ≤ (d : Int) := by omega
          have b5 : (d : Int) - 1 < (d : Int) := by omega
          by_cases he : x = z
          · subst he
            go_wp2
            have e1 : IntKind.i64.wrap ((y : Int) + 1 - 1) = (y : Int) := by rw [IntWalk.i64_in _ (by omega)]; omega
            have e2 : IntKind.i64.wrap ((d : Int) - 1) = (d : Int) - 1 := by rw [IntWalk.i64_in _ (by omega)]
            have e3 : ((d : Int) - 1).toNat = d - 1 := by omega
            go_quiet (fail)
            go_wp2
            have b6 : (d : Int) - 1 ≤ (c2 : Int) := by have := H.out.cap2; omega
            have HF2 : Hid (hasB (t.take y) (x :: r.take (d - 1)) = hasB t r) := Lib.hid (by
              have e1 := H.out.tail.len
              have e2 := H.out.ring.len
              have := less_tail (t := t) (r := r) (by omega) (by omega) (by rw [e1, e2, show y + 1 - 1 = y from by omega, HX.out, HZ.out])
              rw [e1, e2, show y + 1 - 1 = y from by omega, HZ.out] at this
              exact this)
            by_cases hd1 : d = 1
            · subst hd1
              have q5 : (lessW w (.slice (some ⟨g1, o1, none⟩) (y + 1) c1) (.slice (some ⟨g2, o2, none⟩) 1 c2)).cell? ⟨g2, o2, none⟩ = some (.bool x) := q2
              have e4 : IntKind.i64.wrap 0 = 0 := by decide
              clear e2 e3 q2
              go_region
              all_goals
                have HB : Hid (Below (w.heap.size + 1 + 1) (lessW w (.slice (some ⟨g1, o1, none⟩) (y + 1) c1) (.slice (some ⟨g2, o2, none⟩) 1 c2)) (((lessW w (.slice (some ⟨g1, o1, none⟩) (y + 1) c1) (.slice (some ⟨g2, o2, none⟩) 1 c2)).drewN (nd + nq + 1)).alloc (.cells #[.bool x] 4))) :=
                  Lib.hid ((below_drewN (Below.refl _ _) _).alloc (by have := lessW_size w (.slice (some ⟨g1, o1, none⟩) (y + 1) c1) (.slice (some ⟨g2, o2, none⟩) 1 c2) (nd + nq + 1); omega) _)
                have HO := Lib.hid (less_lit w (.slice (some ⟨g1, o1, none⟩) (y + 1) c1) (.slice (some ⟨g2, o2, none⟩) 1 c2) (nd + nq + 1) x)
                have HNx := Lib.hid (less_next (x := x) H.out HB.out HO.out)
                obtain ⟨q3, q4⟩ := less_boxes HB.out
                have b7 : (y : Int) ≤ (c1 : Int) := by have := H.out.cap1; omega
                go_wp2_with fail
                refine (HI.out (y + 1) ?_ (t.take y) (x :: r.take (1 - 1)) (some ⟨g1, o1, none⟩) y c1 (some ⟨w.heap.size + 1 + 1, 0, none⟩) 1 1 _ rfl HNx.out).mono ?_
                · have := HN.out; omega
                rintro e w4 ⟨p1, m, p2, p3, q, p4, rfl, hb4, hout⟩
                obtain ⟨r0, r1, f0, f1, hz, HE0⟩ := less_end2 (less_after HB.out hb4) hout HF2.out
                have HE := Lib.hid HE0
                clear HE0 hb4 hout
                go_wp2
                exact bodyPost_ret (v := .agg #[.slice p1 m p2, .slice p3 q p4]) (by simp [results, Try.results81, go_sem, r0, r1]) rfl ⟨p1, m, p2, p3, q, p4, rfl, less_fin r0 r1 HE.out.1 HE.out.2⟩
            · have HN2 := Lib.hid (fun W' hW' => less_news (W' := W') (d := d - 1) H.out (by omega) hW')
              have HLn : Hid ((r.take (d - 1)).length = d - 1) := Lib.hid (by rw [List.length_take, H.out.ring.len]; omega)
              go_region_law (refine step_append_lies _ rfl _ _ 46 rfl w.heap.size 4 i0 (.bool false) 1 1 Try.underlying46 hi hz0 hz1 hz2 rfl (by decide) _ 1 [.bool x] rfl ?_ ⟨g2, o2, none⟩ (d - 1) c2 ((r.take (d - 1)).map Value.bool) rfl ?_ ?_ ?_ ?_ ?_ ?_ ?_ _ rfl ?_; exact less_lit _ _ _ _ _; exact (by rw [List.length_map, HLn.out, Nat.mul_one]); exact HN2.out _ (less_below_lit _ _ _ _ _); exact bools_one _; exact (by omega); exact (by unfold maxLen; omega); exact (by omega); exact less_size_lit _ _ _ _ _; intro g cap w3 hown hgrow _ _; have HB := Lib.hid (less_grown hgrow); have HO := Lib.hid hown; clear hown hgrow)
              all_goals
                obtain ⟨q3, q4⟩ := less_boxes HB.out
                have b7 : (y : Int) ≤ (c1 : Int) := by have := H.out.cap1; omega
                have HNx := Lib.hid (less_next H.out HB.out HO.out)
                go_wp2_with fail
                refine (HI.out (y + d) ?_ (t.take y) (x :: r.take (d - 1)) (some ⟨g1, o1, none⟩) y c1 (some ⟨g, 0, none⟩) d cap _ rfl HNx.out).mono ?_
                · have := HN.out; omega
                rintro e w4 ⟨p1, m, p2, p3, q, p4, rfl, hb4, hout⟩
                obtain ⟨r0, r1, f0, f1, hz, HE0⟩ := less_end2 (less_after HB.out hb4) hout HF2.out
                have HE := Lib.hid HE0
                clear HE0 hb4 hout
                go_wp2
                exact bodyPost_ret (v := .agg #[.slice p1 m p2, .slice p3 q p4]) (by simp [results, Try.results81, go_sem, r0, r1]) rfl ⟨p1, m, p2, p3, q, p4, rfl, less_fin r0 r1 HE.out.1 HE.out.2⟩
          · have hnb : (x == z) = false := by revert he; cases x <;> cases z <;> simp
            go_wp2
            have e1 : IntKind.i64.wrap ((y : Int) + 1 - 1) = (y : Int) := by rw [IntWalk.i64_in _ (by omega)]; omega
            have e2 : IntKind.i64.wrap ((d : Int) - 1) = (d : Int) - 1 := by rw [IntWalk.i64_in _ (by omega)]
            have e3 : ((d : Int) - 1).toNat = d - 1 := by omega
            go_quiet (fail)
            go_wp2
            exact bodyPost_ret (v := .agg #[.slice (some ⟨g1, o1, none⟩) (y + 1) c1, .slice (some ⟨g2, o2, none⟩) d c2]) (by simp [results, Try.results81, go_sem]) rfl
              ⟨_, _, _, _, _, _, rfl, less_self H.out (fun e h1 h2 => HNO.out e h1 h2) (.inr (by rw [show y + 1 - 1 = y from by omega, HX.out, HZ.out]; exact he))⟩

end Go.Proofs.Ytojjfkabepkhdaa
