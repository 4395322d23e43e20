/-
  The walk of the program's restLine.place. The walk of the program's restLine.byNumbersOf: the rests by the numbers of a set.
-/
import Derived.Test.YtcacdgojibojgacRoundI
import Derived.Test.YtcacdgojibojgacFillI
import Derived.Deep.RegionHeld3
import Derived.Lib.MinMax
set_option linter.unusedSimpArgs false
set_option linter.unusedVariables false
namespace Go.Proofs.Ytcacdgojibojgac
open Go.RowKit

set_option maxHeartbeats 1000000 in
theorem place_early (a : Option Addr) (c m q k : Nat) (w : World) (h : k < m) (hs : m + q ≤ 1000) :
    Calls Try.prog 115 #[.agg #[.slice a (m + q : Nat) c, .int .i64 m], .int .i64 k] w fun e w' => e = .returned (.int .i64 k) ∧ Below w.heap.size w w' := by
  go_enter Try.func115, Try.ntmps115
  go_wp2
  go_ret
  exact ⟨rfl, (Below.refl _ _).alloc (Nat.le_refl _) _⟩

set_option maxHeartbeats 1000000 in
theorem place_late (a : Option Addr) (c m q d : Nat) (w : World) (hs : m + q ≤ 1000) (hq : 0 < q) (hk : d ≤ 100000) :
    Calls Try.prog 115 #[.agg #[.slice a (m + q : Nat) c, .int .i64 m], .int .i64 (m + d : Nat)] w fun e w' => e = .returned (.int .i64 (m + d % q : Nat)) ∧ Below w.heap.size w w' := by
  have K1 : ∀ W : World, (W.cell? ⟨w.heap.size, 0, none⟩ = some (.slice a (m + q : Nat) c) ∧ W.cell? ⟨w.heap.size, 1, none⟩ = some (.int .i64 m) ∧ Below w.heap.size w W) →
      Calls Try.prog 114 #[.agg #[.slice a (m + q : Nat) c, .int .i64 m]] W fun e w' => e = .returned (.int .i64 q) ∧ (w'.cell? ⟨w.heap.size, 0, none⟩ = some (.slice a (m + q : Nat) c) ∧ w'.cell? ⟨w.heap.size, 1, none⟩ = some (.int .i64 m) ∧ Below w.heap.size w w') :=
    fun W h => (round_any a c m q W hs).mono fun e w' ⟨he, hb⟩ => ⟨he, (hb.cell (p := ⟨w.heap.size, 0, none⟩) (lt_of_some h.1)).trans h.1, (hb.cell (p := ⟨w.heap.size, 1, none⟩) (lt_of_some h.1)).trans h.2.1, h.2.2.trans (hb.mono h.2.2.size)⟩
  have HK1 := Lib.hid K1
  have HSD : (w.alloc (.cells #[.slice a (m + q : Nat) c, .int .i64 m] 105)).drew.cell? ⟨w.heap.size, 0, none⟩ = some (.slice a (m + q : Nat) c) ∧ (w.alloc (.cells #[.slice a (m + q : Nat) c, .int .i64 m] 105)).drew.cell? ⟨w.heap.size, 1, none⟩ = some (.int .i64 m) ∧ Below w.heap.size w (w.alloc (.cells #[.slice a (m + q : Nat) c, .int .i64 m] 105)).drew :=
    ⟨by show (w.alloc (.cells #[.slice a (m + q : Nat) c, .int .i64 m] 105)).cell? _ = _; rw [World.cell?_alloc_at _ _ _ _ rfl]; rfl, by show (w.alloc (.cells #[.slice a (m + q : Nat) c, .int .i64 m] 105)).cell? _ = _; rw [World.cell?_alloc_at _ _ _ _ rfl]; rfl, ((Below.refl _ _).alloc (Nat.le_refl _) _).drew⟩
  clear K1
  have hd : IntKind.i64.wrap ((m : Int) + (d : Int) - (m : Int)) = (d : Int) := by rw [IntWalk.i64_in _ (by omega)]; omega
  have hq0 : ¬ (q : Int) = 0 := by omega
  have hq1 : ¬ q = 0 := by omega
  have hx1 : ((d : Int) % (q : Int)) < (q : Int) := Int.emod_lt_of_pos _ (by omega)
  have hx0 : (0 : Int) ≤ ((d : Int) % (q : Int)) := Int.emod_nonneg _ (by omega)
  have HW : Hid (IntKind.i64.wrap ((m : Int) + (d : Int) % (q : Int)) = ((m + d % q : Nat) : Int)) := Lib.hid (by rw [IntWalk.i64_in _ (by omega)]; omega)
  go_enter Try.func115, Try.ntmps115
  go_wp2
  go_region_held3 (fun w' => w'.cell? ⟨w.heap.size, 0, none⟩ = some (.slice a (m + q : Nat) c) ∧ w'.cell? ⟨w.heap.size, 1, none⟩ = some (.int .i64 m) ∧ Below w.heap.size w w') (first | assumption | (constructor <;> assumption))
    (first
      | (go_at_call 114; (with_reducible refine (HK1.out _ ?_).mono ?_); assumption; rintro e w5 ⟨rfl, hb5⟩))
  all_goals
    go_wp2
    go_ret
    exact ⟨ret_int HW.out, hb5.2.2⟩

theorem place_any (a : Option Addr) (c m q k : Nat) (w : World) (hs : m + q ≤ 1000) (hq : 0 < q) (hk : k ≤ 100000) :
    Calls Try.prog 115 #[.agg #[.slice a (m + q : Nat) c, .int .i64 m], .int .i64 k] w fun e w' => e = .returned (.int .i64 (placeF m q k)) ∧ Below w.heap.size w w' := by
  unfold placeF
  by_cases h : k < m
  · rw [if_pos h]; exact place_early a c m q k w h hs
  · rw [if_neg h]
    obtain ⟨d, rfl⟩ : ∃ d, k = m + d := ⟨k - m, by omega⟩
    rw [show m + d - m = d from by omega]
    exact place_late a c m q d w hs hq (by omega)

/-- The cells of the rests by the numbers of a list. -/
def prCells (f : Nat → Bool) (m q : Nat) (l : List Nat) : List Value := l.flatMap fun i => [.string (tailT f m i), .string (ringT f m q i)]
theorem prCells_length (f : Nat → Bool) (m q : Nat) (l : List Nat) : (prCells f m q l).length = l.length * 2 := by
  unfold prCells
  induction l with
  | nil => rfl
  | cons r l ih => rw [List.flatMap_cons, List.length_append, ih]; simp; omega
theorem prCells_snoc (f : Nat → Bool) (m q : Nat) (l : List Nat) (r : Nat) : prCells f m q (l ++ [r]) = prCells f m q l ++ [.string (tailT f m r), .string (ringT f m q r)] := by
  unfold prCells; rw [List.flatMap_append]; simp
theorem prCells_get (f : Nat → Bool) (m q : Nat) (l : List Nat) (i : Nat) (h : i < l.length) :
    (prCells f m q l)[i * 2]? = some (.string (tailT f m (l.getD i 0))) ∧ (prCells f m q l)[i * 2 + 1]? = some (.string (ringT f m q (l.getD i 0))) := by
  induction l generalizing i with
  | nil => simp at h
  | cons r l ih =>
    have e : prCells f m q (r :: l) = .string (tailT f m r) :: .string (ringT f m q r) :: prCells f m q l := rfl
    cases i with
    | zero => rw [e]; exact ⟨rfl, rfl⟩
    | succ i =>
      have := ih i (by simpa using h)
      rw [e, show (i + 1) * 2 = i * 2 + 1 + 1 from by omega]
      exact this

/-- A slice reads as the rests by the numbers of a list. -/
structure ParList (w : World) (a : Option Addr) (n : Nat) (f : Nat → Bool) (m q : Nat) (l : List Nat) : Prop where
  len : l.length = n
  cells : n = 0 ∨ ∃ g, a = some ⟨g, 0, none⟩ ∧ g < w.heap.size ∧ ∀ i, i < n → w.cell? ⟨g, i * 2, none⟩ = some (.string (tailT f m (l.getD i 0))) ∧ w.cell? ⟨g, i * 2 + 1, none⟩ = some (.string (ringT f m q (l.getD i 0)))
theorem ParList.keep {w w' : World} {a : Option Addr} {n m q B : Nat} {f : Nat → Bool} {l : List Nat} (h : ParList w a n f m q l) (hb : Below B w w') (hB : ∀ b, a = some b → b.block < B) : ParList w' a n f m q l := by
  obtain ⟨hl, hc⟩ := h
  refine ⟨hl, ?_⟩
  rcases hc with hc | ⟨g, ha, hg, hc⟩
  · exact .inl hc
  · refine .inr ⟨g, ha, by have := hb.size; omega, fun i hi => ?_⟩
    have hgB : g < B := hB _ ha
    obtain ⟨h1, h2⟩ := hc i hi
    exact ⟨(hb.cell (p := ⟨g, i * 2, none⟩) hgB).trans h1, (hb.cell (p := ⟨g, i * 2 + 1, none⟩) hgB).trans h2⟩
theorem ParList.step {w w' : World} {a : Option Addr} {n m q : Nat} {f : Nat → Bool} {l : List Nat} (h : ParList w a n f m q l) (hb : Below w.heap.size w w') : ParList w' a n f m q l := by
  obtain ⟨hl, hc⟩ := h
  rcases hc with hc | ⟨g, ha, hg, hc⟩
  · exact ⟨hl, .inl hc⟩
  · exact ParList.keep ⟨hl, .inr ⟨g, ha, hg, hc⟩⟩ hb fun b hb2 => by rw [ha] at hb2; cases hb2; exact hg
theorem ParList.at {w : World} {a : Option Addr} {n m q : Nat} {f : Nat → Bool} {l : List Nat} (h : ParList w a n f m q l) {i : Nat} (hi : i < n) :
    ∃ g, a = some ⟨g, 0, none⟩ ∧ g < w.heap.size ∧ w.cell? ⟨g, i * 2, none⟩ = some (.string (tailT f m (l.getD i 0))) ∧ w.cell? ⟨g, i * 2 + 1, none⟩ = some (.string (ringT f m q (l.getD i 0))) := by
  rcases h.cells with h0 | ⟨g, ha, hg, hc⟩
  · omega
  · exact ⟨g, ha, hg, hc i hi⟩
theorem parList_own {w : World} {base c n m q : Nat} {f : Nat → Bool} {a : Option Addr} {l : List Nat} (h : w.ownsRow base 84 2 (.slice a n c) n (prCells f m q l)) : ParList w a n f m q l := by
  have hl : l.length = n := by have := h.1; rw [prCells_length] at this; omega
  refine ⟨hl, ?_⟩
  rcases h.2 with ⟨hv, h0⟩ | ⟨g, cap, cur, hv, hg, hh, hn', hm, hs, ht⟩
  · exact .inl h0
  · right
    injection hv with ha hn2 hc
    subst ha
    have hlt : g < w.heap.size := by
      rcases Nat.lt_or_ge g w.heap.size with h | h
      · exact h
      · rw [Array.getElem?_eq_none h] at hh; cases hh
    have key : ∀ j v, j < n * 2 → (prCells f m q l)[j]? = some v → w.cell? ⟨g, j, none⟩ = some v := fun j v hj hv => by
      have e : cur[j]? = some v := by
        rw [← Array.getElem?_toList]
        have : (cur.toList.take (n * 2))[j]? = (prCells f m q l)[j]? := by rw [ht]
        rw [List.getElem?_take_of_lt hj] at this
        rw [this, hv]
      simp only [World.cell?, hh]
      exact e
    refine ⟨g, rfl, hlt, fun i hi => ?_⟩
    obtain ⟨h1, h2⟩ := prCells_get f m q l i (by omega)
    exact ⟨key _ _ (by omega) h1, key _ _ (by omega) h2⟩
theorem getD_range (n i : Nat) (h : i < n) : (List.range n).getD i 0 = i := by
  rw [List.getD_eq_getElem?_getD, List.getElem?_range h]; rfl

/-- Is the rest at the place i one by a number of g that is less than K? -/
def metF (g : Nat → Bool) (m q K i : Nat) : Bool := someF (fun k => g k && decide (placeF m q k = i)) 0 K
theorem metF_iff {g : Nat → Bool} {m q K i : Nat} : metF g m q K i = true ↔ ∃ k, k < K ∧ g k = true ∧ placeF m q k = i := by
  unfold metF
  rw [someF_iff]
  simp only [Nat.zero_add, Bool.and_eq_true, decide_eq_true_iff]
theorem metF_no {g : Nat → Bool} {m q K i : Nat} (h : g K = false) : metF g m q K i = metF g m q (K + 1) i := by
  unfold metF
  rw [show someF (fun k => g k && decide (placeF m q k = i)) 0 (K + 1) = (someF (fun k => g k && decide (placeF m q k = i)) 0 K || (g (0 + K) && decide (placeF m q (0 + K) = i))) from rfl, Nat.zero_add, h]
  simp
theorem metF_yes {g : Nat → Bool} {m q K i : Nat} (h : g K = true) : put (metF g m q K) (placeF m q K) true i = metF g m q (K + 1) i := by
  unfold metF put
  rw [show someF (fun k => g k && decide (placeF m q k = i)) 0 (K + 1) = (someF (fun k => g k && decide (placeF m q k = i)) 0 K || (g (0 + K) && decide (placeF m q (0 + K) = i))) from rfl, Nat.zero_add, h]
  by_cases e : i = placeF m q K
  · rw [if_pos e, decide_eq_true e.symm]; simp
  · rw [if_neg e, decide_eq_false (fun x => e x.symm)]; simp
/-- The places of the rests by numbers of g. -/
def metL (g : Nat → Bool) (m q B N : Nat) : List Nat := (List.range N).filter (metF g m q B)
theorem metL_yes {g : Nat → Bool} {m q B j : Nat} (h : metF g m q B j = true) : metL g m q B (j + 1) = metL g m q B j ++ [j] := by
  unfold metL; rw [List.range_succ, List.filter_append]; simp [h]
theorem metL_no {g : Nat → Bool} {m q B j : Nat} (h : metF g m q B j = false) : metL g m q B (j + 1) = metL g m q B j := by
  unfold metL; rw [List.range_succ, List.filter_append]; simp [h]
theorem metL_le (g : Nat → Bool) (m q B N : Nat) : (metL g m q B N).length ≤ N := by
  have := List.length_filter_le (metF g m q B) (List.range N)
  rw [List.length_range] at this
  exact this
theorem rest_zero {g : Nat → Bool} {m q : Nat} (h : Tidy g m q) (k : Nat) : hasI (sb (tailT g m (placeF m q k)).data.toList) (sb (ringT g m q (placeF m q k)).data.toList) 0 = g k := by
  have := hasI_nat (sb (tailT g m (placeF m q k)).data.toList) (sb (ringT g m q (placeF m q k)).data.toList) 0
  rw [rest_has h, down_place h] at this
  have e : downF g k 0 = g k := by unfold downF; rw [Nat.zero_add]
  rw [← e]
  exact this

/-- The world of byNumbersOf's first loop. -/
structure ByAt (f g : Nat → Bool) (m q m2 q2 : Nat) (a a2 : Option Addr) (c c2 GM K : Nat) (w wr : World) : Prop where
  x0 : wr.cell? ⟨w.heap.size, 0, none⟩ = some (.slice a (m + q : Nat) c)
  x1 : wr.cell? ⟨w.heap.size, 1, none⟩ = some (.int .i64 m)
  y0 : wr.cell? ⟨w.heap.size + 1, 0, none⟩ = some (.slice a2 (m2 + q2 : Nat) c2)
  y1 : wr.cell? ⟨w.heap.size + 1, 1, none⟩ = some (.int .i64 m2)
  first : ParList wr a (m + q) f m q (List.range (m + q))
  second : ParList wr a2 (m2 + q2) g m2 q2 (List.range (m2 + q2))
  row : BRow wr GM (m + q) (metF g m q K)
  below : Below w.heap.size w wr
  gm : GM = w.heap.size + 1 + 1
  notF : ∀ b, a = some b → b.block < w.heap.size
  notS : ∀ b, a2 = some b → b.block < w.heap.size
section
variable {f g : Nat → Bool} {m q m2 q2 : Nat} {a a2 : Option Addr} {c c2 GM K : Nat} {w wr : World}
theorem ByAt.keep {w' : World} {B : Nat} (h : ByAt f g m q m2 q2 a a2 c c2 GM K w wr) (hb : Below B wr w') (hB : w.heap.size + 1 + 1 < B) : ByAt f g m q m2 q2 a a2 c c2 GM K w w' :=
  ⟨(hb.cell (p := ⟨w.heap.size, 0, none⟩) (by show w.heap.size < B; omega)).trans h.x0, (hb.cell (p := ⟨w.heap.size, 1, none⟩) (by show w.heap.size < B; omega)).trans h.x1, (hb.cell (p := ⟨w.heap.size + 1, 0, none⟩) (by show w.heap.size + 1 < B; omega)).trans h.y0,
    (hb.cell (p := ⟨w.heap.size + 1, 1, none⟩) (by show w.heap.size + 1 < B; omega)).trans h.y1, h.first.keep hb (fun b hb => by have := h.notF b hb; omega), h.second.keep hb (fun b hb => by have := h.notS b hb; omega),
    h.row.below hb (by have := h.gm; omega), h.below.trans (hb.mono (by omega)), h.gm, h.notF, h.notS⟩
theorem ByAt.step {w' : World} (h : ByAt f g m q m2 q2 a a2 c c2 GM K w wr) (hb : Below wr.heap.size wr w') : ByAt f g m q m2 q2 a a2 c c2 GM K w w' :=
  h.keep hb (by have h1 := h.row.lt; have := h.gm; omega)
theorem ByAt.no (h : ByAt f g m q m2 q2 a a2 c c2 GM K w wr) (hg : g K = false) : ByAt f g m q m2 q2 a a2 c c2 GM (K + 1) w wr :=
  { h with row := h.row.congr fun i _ => metF_no hg }
theorem parList_other {w : World} {a : Option Addr} {n m q : Nat} {f : Nat → Bool} {l : List Nat} (h : ParList w a n f m q l) {p : Addr} (hp : ∀ b, a = some b → b.block ≠ p.block) (u : Value) : ParList (w.setCell p u) a n f m q l := by
  obtain ⟨hl, hc⟩ := h
  refine ⟨hl, ?_⟩
  rcases hc with hc | ⟨g, ha, hg, hc⟩
  · exact .inl hc
  · refine .inr ⟨g, ha, by simpa [World.setCell] using hg, fun i hi => ?_⟩
    have hne : g ≠ p.block := hp _ ha
    obtain ⟨h1, h2⟩ := hc i hi
    exact ⟨(World.cell?_of_block (heap_setCell_other w p g u hne)).trans h1, (World.cell?_of_block (heap_setCell_other w p g u hne)).trans h2⟩
theorem ByAt.yes (h : ByAt f g m q m2 q2 a a2 c c2 GM K w wr) (hg : g K = true) : ByAt f g m q m2 q2 a a2 c c2 GM (K + 1) w (wr.setCell ⟨GM, placeF m q K, none⟩ (.bool true)) := by
  have e := h.gm
  have o : ∀ j, j ≠ GM → (wr.setCell ⟨GM, placeF m q K, none⟩ (.bool true)).heap[j]? = wr.heap[j]? := fun j hj => heap_setCell_other wr _ j _ hj
  exact ⟨(World.cell?_of_block (o w.heap.size (by omega))).trans h.x0, (World.cell?_of_block (o w.heap.size (by omega))).trans h.x1, (World.cell?_of_block (o (w.heap.size + 1) (by omega))).trans h.y0, (World.cell?_of_block (o (w.heap.size + 1) (by omega))).trans h.y1,
    parList_other h.first (fun b hb => by have := h.notF b hb; show b.block ≠ GM; omega) _, parList_other h.second (fun b hb => by have := h.notS b hb; show b.block ≠ GM; omega) _,
    (h.row.put _ _).congr fun i _ => metF_yes hg, h.below.setCell (by show _ ≤ GM; omega) _, h.gm, h.notF, h.notS⟩
theorem ByAt.held {w' : World} (_ : ByAt f g m q m2 q2 a a2 c c2 GM K w wr) (h : ByAt f g m q m2 q2 a a2 c c2 GM K w w') :
    w'.cell? ⟨w.heap.size, 0, none⟩ = some (.slice a (m + q : Nat) c) ∧ w'.cell? ⟨w.heap.size, 1, none⟩ = some (.int .i64 m) ∧ w'.cell? ⟨w.heap.size + 1, 0, none⟩ = some (.slice a2 (m2 + q2 : Nat) c2) ∧ w'.cell? ⟨w.heap.size + 1, 1, none⟩ = some (.int .i64 m2) ∧ ByAt f g m q m2 q2 a a2 c c2 GM K w w' := ⟨h.x0, h.x1, h.y0, h.y1, h⟩
theorem ByAt.first_at {G p : Nat} (h : ByAt f g m q m2 q2 (some ⟨G, 0, none⟩) a2 c c2 GM K w wr) (hp : p < m + q) :
    wr.cell? ⟨G, p * 2, none⟩ = some (.string (tailT f m p)) ∧ wr.cell? ⟨G, p * 2 + 1, none⟩ = some (.string (ringT f m q p)) := by
  obtain ⟨g', e, _, k0, k1⟩ := h.first.at hp
  cases e
  rw [getD_range _ _ hp] at k0 k1
  exact ⟨k0, k1⟩
theorem ByAt.second_at {G2 p : Nat} (h : ByAt f g m q m2 q2 a (some ⟨G2, 0, none⟩) c c2 GM K w wr) (hp : p < m2 + q2) :
    wr.cell? ⟨w.heap.size + 1, 0, none⟩ = some (.slice (some ⟨G2, 0, none⟩) (m2 + q2 : Nat) c2) ∧ wr.cell? ⟨w.heap.size + 1, 1, none⟩ = some (.int .i64 m2) ∧ wr.cell? ⟨G2, p * 2, none⟩ = some (.string (tailT g m2 p)) ∧ wr.cell? ⟨G2, p * 2 + 1, none⟩ = some (.string (ringT g m2 q2 p)) ∧ ByAt f g m q m2 q2 a (some ⟨G2, 0, none⟩) c c2 GM K w wr := by
  obtain ⟨g', e, _, k0, k1⟩ := h.second.at hp
  cases e
  rw [getD_range _ _ hp] at k0 k1
  exact ⟨h.y0, h.y1, k0, k1, h⟩

/-- The world of byNumbersOf's second loop. -/
structure PickAt (f g : Nat → Bool) (m q m2 q2 : Nat) (a a2 : Option Addr) (c c2 GM K j : Nat) (v : Value) (w wr : World) : Prop where
  by_ : ByAt f g m q m2 q2 a a2 c c2 GM K w wr
  own : wr.ownsRow (w.heap.size + 1 + 1 + 1) 84 2 v (metL g m q K j).length (prCells f m q (metL g m q K j))
theorem pickAt_start (h : ByAt f g m q m2 q2 a a2 c c2 GM K w wr) : PickAt f g m q m2 q2 a a2 c c2 GM K 0 (.slice (some ⟨wr.heap.size, 0, none⟩) 0 0) w (wr.alloc (.cells #[] 84)) :=
  ⟨h.step ((Below.refl _ _).alloc (Nat.le_refl _) _), World.ownsRow_made wr #[] 0 (by have h1 := h.row.lt; have := h.gm; omega) (by decide) rfl⟩
theorem PickAt.no {j : Nat} {v : Value} (h : PickAt f g m q m2 q2 a a2 c c2 GM K j v w wr) (hm : metF g m q K j = false) : PickAt f g m q m2 q2 a a2 c c2 GM K (j + 1) v w wr :=
  ⟨h.by_, by rw [metL_no hm]; exact h.own⟩
theorem PickAt.yes {j : Nat} {v v' : Value} {w' : World} {o : Obj} (h : PickAt f g m q m2 q2 a a2 c c2 GM K j v w wr) (hm : metF g m q K j = true)
    (hown : w'.ownsRow (w.heap.size + 1 + 1 + 1) 84 2 v' ((metL g m q K j).length + 1) (prCells f m q (metL g m q K j) ++ [.string (tailT f m j), .string (ringT f m q j)])) (hg : (wr.alloc o).grownBy w' v.ownBlock) :
    PickAt f g m q m2 q2 a a2 c c2 GM K (j + 1) v' w w' := by
  have hsz : w.heap.size + 1 + 1 + 1 ≤ wr.heap.size := by have h1 := h.by_.row.lt; have := h.by_.gm; omega
  have hb : Below (w.heap.size + 1 + 1 + 1) wr w' := ((Below.refl _ _).alloc hsz o).grown hg (by simp; omega) (fun k hk => (h.own.lt k hk).1)
  refine ⟨h.by_.keep hb (Nat.lt_succ_self _), ?_⟩
  rw [metL_yes hm, prCells_snoc, List.length_append]
  exact hown
end
theorem byAt_start {f g : Nat → Bool} {m q m2 q2 : Nat} {a a2 : Option Addr} {c c2 : Nat} {w : World} (h1 : ParList w a (m + q) f m q (List.range (m + q))) (h2 : ParList w a2 (m2 + q2) g m2 q2 (List.range (m2 + q2)))
    (hq : 0 < q) (hq2 : 0 < q2) :
    ByAt f g m q m2 q2 a a2 c c2 (w.heap.size + 1 + 1) 0 w (((w.alloc (.cells #[.slice a (m + q : Nat) c, .int .i64 m] 105)).alloc (.cells #[.slice a2 (m2 + q2 : Nat) c2, .int .i64 m2] 105)).alloc (.cells (madeCells #[.bool false] (m + q)) 4)) := by
  have b1 := (Below.refl w.heap.size w).alloc (Nat.le_refl _) (.cells #[.slice a (m + q : Nat) c, .int .i64 m] 105)
  have b2 := b1.alloc b1.size (.cells #[.slice a2 (m2 + q2 : Nat) c2, .int .i64 m2] 105)
  have b3 := b2.alloc b2.size (.cells (madeCells #[.bool false] (m + q)) 4)
  have hr := bRow_new ((w.alloc (.cells #[.slice a (m + q : Nat) c, .int .i64 m] 105)).alloc (.cells #[.slice a2 (m2 + q2 : Nat) c2, .int .i64 m2] 105)) (m + q)
  have e : ((w.alloc (.cells #[.slice a (m + q : Nat) c, .int .i64 m] 105)).alloc (.cells #[.slice a2 (m2 + q2 : Nat) c2, .int .i64 m2] 105)).heap.size = w.heap.size + 1 + 1 := by simp
  rw [e] at hr
  have x : ∀ o v, (#[.slice a (m + q : Nat) c, .int .i64 m] : Array Value)[o]? = some v → (((w.alloc (.cells #[.slice a (m + q : Nat) c, .int .i64 m] 105)).alloc (.cells #[.slice a2 (m2 + q2 : Nat) c2, .int .i64 m2] 105)).alloc (.cells (madeCells #[.bool false] (m + q)) 4)).cell? ⟨w.heap.size, o, none⟩ = some v := fun o v hv => by
    rw [World.cell?_alloc_past _ _ _ (by simp; omega), World.cell?_alloc_past _ _ _ (by simp), World.cell?_alloc_at _ _ _ _ rfl]; exact hv
  have y : ∀ o v, (#[.slice a2 (m2 + q2 : Nat) c2, .int .i64 m2] : Array Value)[o]? = some v → (((w.alloc (.cells #[.slice a (m + q : Nat) c, .int .i64 m] 105)).alloc (.cells #[.slice a2 (m2 + q2 : Nat) c2, .int .i64 m2] 105)).alloc (.cells (madeCells #[.bool false] (m + q)) 4)).cell? ⟨w.heap.size + 1, o, none⟩ = some v := fun o v hv => by
    rw [World.cell?_alloc_past _ _ _ (by simp), World.cell?_alloc_at _ _ _ _ (by simp)]; exact hv
  exact ⟨x 0 _ rfl, x 1 _ rfl, y 0 _ rfl, y 1 _ rfl, h1.step b3, h2.step b3, hr.congr fun _ _ => rfl, b3, rfl,
    fun b hb => by
      obtain ⟨g, e1, hg, _⟩ := h1.at (i := 0) (by omega)
      rw [e1] at hb; cases hb; exact hg,
    fun b hb => by
      obtain ⟨g, e1, hg, _⟩ := h2.at (i := 0) (by omega)
      rw [e1] at hb; cases hb; exact hg⟩

set_option maxRecDepth 100000 in
set_option maxHeartbeats 4000000 in
theorem byNumbers_any (f g : Nat → Bool) (m q m2 q2 c c2 : Nat) (a a2 : Option Addr) (w : World) (hf : Tidy f m q) (hg : Tidy g m2 q2) (hm : m ≤ 60) (hq : q ≤ 60) (hm2 : m2 ≤ 60) (hq2 : q2 ≤ 60)
    (h1 : ParList w a (m + q) f m q (List.range (m + q))) (h2 : ParList w a2 (m2 + q2) g m2 q2 (List.range (m2 + q2))) :
    Calls Try.prog 86 #[.agg #[.slice a (m + q : Nat) c, .int .i64 m], .agg #[.slice a2 (m2 + q2 : Nat) c2, .int .i64 m2]] w fun e w' =>
      ∃ a' n c', e = .returned (.slice a' n c') ∧ ParList w' a' n f m q (metL g m q (max m m2 + q * q2) (m + q)) ∧ (∀ b, a' = some b → w.heap.size ≤ b.block) ∧ Below w.heap.size w w' := by
  obtain ⟨i0, hi, hz0, hz1, hz2⟩ := info_parts Try.infoBool
  obtain ⟨j0, hji, hjz0, hjz1, hjz2⟩ := info_parts infoParts
  have hq0 := hf.pos
  have hq20 := hg.pos
  have HS := Lib.hid (byAt_start (c := c) (c2 := c2) h1 h2 hq0 hq20)
  obtain ⟨G, rfl, _⟩ := h1.at (i := 0) (by omega)
  obtain ⟨G2, rfl, _⟩ := h2.at (i := 0) (by omega)
  clear h1 h2
  obtain ⟨P, hP⟩ : ∃ P, P = q * q2 := ⟨_, rfl⟩
  have hPi : (q : Int) * (q2 : Int) = (P : Int) := by rw [hP, Int.natCast_mul]
  have hP2 : P ≤ 60 * 60 := by rw [hP]; exact Nat.mul_le_mul hq hq2
  obtain ⟨M, hM⟩ : ∃ M, M = max m m2 := ⟨_, rfl⟩
  have hMi : max (m : Int) (m2 : Int) = (M : Int) := by omega
  have hM2 : M ≤ 60 := by omega
  rw [← hP, ← hM]
  clear hP hM
  have HF := Lib.hid hf
  have HG := Lib.hid hg
  clear hf hg
  go_enter Try.func86, Try.ntmps86
  go_wp2_with (at_make; refine wpList_make_row _ rfl _ _ 72 rfl 4 i0 (.bool false) Try.underlying72 hi hz0 hz1 rfl .i64 .i64 (m + q) rfl rfl ?b1 ?b2 ?_)
  case b1 => rw [hz2]; omega
  case b2 => omega
  generalize ((w.alloc (.cells #[.slice (some ⟨G, 0, none⟩) (m + q : Nat) c, .int .i64 m] 105)).alloc (.cells #[.slice (some ⟨G2, 0, none⟩) (m2 + q2 : Nat) c2, .int .i64 m2] 105)).alloc (.cells (madeCells #[.bool false] (m + q)) 4) = w4 at HS ⊢
  have HSD := HS.out.held (HS.out.step (Below.refl _ _).drew)
  have HK1 : Hid (∀ W : World, (W.cell? ⟨w.heap.size, 0, none⟩ = some (.slice (some ⟨G, 0, none⟩) (m + q : Nat) c) ∧ W.cell? ⟨w.heap.size, 1, none⟩ = some (.int .i64 m) ∧ W.cell? ⟨w.heap.size + 1, 0, none⟩ = some (.slice (some ⟨G2, 0, none⟩) (m2 + q2 : Nat) c2) ∧ W.cell? ⟨w.heap.size + 1, 1, none⟩ = some (.int .i64 m2) ∧ ByAt f g m q m2 q2 (some ⟨G, 0, none⟩) (some ⟨G2, 0, none⟩) c c2 (w.heap.size + 1 + 1) 0 w W) → Calls Try.prog 114 #[.agg #[.slice (some ⟨G, 0, none⟩) (m + q : Nat) c, .int .i64 m]] W fun e w' => e = .returned (.int .i64 q) ∧ (w'.cell? ⟨w.heap.size, 0, none⟩ = some (.slice (some ⟨G, 0, none⟩) (m + q : Nat) c) ∧ w'.cell? ⟨w.heap.size, 1, none⟩ = some (.int .i64 m) ∧ w'.cell? ⟨w.heap.size + 1, 0, none⟩ = some (.slice (some ⟨G2, 0, none⟩) (m2 + q2 : Nat) c2) ∧ w'.cell? ⟨w.heap.size + 1, 1, none⟩ = some (.int .i64 m2) ∧ ByAt f g m q m2 q2 (some ⟨G, 0, none⟩) (some ⟨G2, 0, none⟩) c c2 (w.heap.size + 1 + 1) 0 w w')) :=
    Lib.hid fun W h => (round_any _ c m q W (by omega)).mono fun e w' he => ⟨he.1, h.2.2.2.2.held (h.2.2.2.2.step he.2)⟩
  have HK2 : Hid (∀ W : World, (W.cell? ⟨w.heap.size, 0, none⟩ = some (.slice (some ⟨G, 0, none⟩) (m + q : Nat) c) ∧ W.cell? ⟨w.heap.size, 1, none⟩ = some (.int .i64 m) ∧ W.cell? ⟨w.heap.size + 1, 0, none⟩ = some (.slice (some ⟨G2, 0, none⟩) (m2 + q2 : Nat) c2) ∧ W.cell? ⟨w.heap.size + 1, 1, none⟩ = some (.int .i64 m2) ∧ ByAt f g m q m2 q2 (some ⟨G, 0, none⟩) (some ⟨G2, 0, none⟩) c c2 (w.heap.size + 1 + 1) 0 w W) → Calls Try.prog 114 #[.agg #[.slice (some ⟨G2, 0, none⟩) (m2 + q2 : Nat) c2, .int .i64 m2]] W fun e w' => e = .returned (.int .i64 q2) ∧ (w'.cell? ⟨w.heap.size, 0, none⟩ = some (.slice (some ⟨G, 0, none⟩) (m + q : Nat) c) ∧ w'.cell? ⟨w.heap.size, 1, none⟩ = some (.int .i64 m) ∧ w'.cell? ⟨w.heap.size + 1, 0, none⟩ = some (.slice (some ⟨G2, 0, none⟩) (m2 + q2 : Nat) c2) ∧ w'.cell? ⟨w.heap.size + 1, 1, none⟩ = some (.int .i64 m2) ∧ ByAt f g m q m2 q2 (some ⟨G, 0, none⟩) (some ⟨G2, 0, none⟩) c c2 (w.heap.size + 1 + 1) 0 w w')) :=
    Lib.hid fun W h => (round_any _ c2 m2 q2 W (by omega)).mono fun e w' he => ⟨he.1, h.2.2.2.2.held (h.2.2.2.2.step he.2)⟩
  go_wp2
  go_region_held3 (fun w' => w'.cell? ⟨w.heap.size, 0, none⟩ = some (.slice (some ⟨G, 0, none⟩) (m + q : Nat) c) ∧ w'.cell? ⟨w.heap.size, 1, none⟩ = some (.int .i64 m) ∧ w'.cell? ⟨w.heap.size + 1, 0, none⟩ = some (.slice (some ⟨G2, 0, none⟩) (m2 + q2 : Nat) c2) ∧ w'.cell? ⟨w.heap.size + 1, 1, none⟩ = some (.int .i64 m2) ∧ ByAt f g m q m2 q2 (some ⟨G, 0, none⟩) (some ⟨G2, 0, none⟩) c c2 (w.heap.size + 1 + 1) 0 w w') (first | assumption | (constructor <;> assumption))
    (first
      | (go_at_call 114; (with_reducible refine (HK1.out _ ?_).mono ?_); assumption; rintro e w5 ⟨rfl, hb5⟩)
      | (go_at_call 114; (with_reducible refine (HK2.out _ ?_).mono ?_); assumption; rintro e w5 ⟨rfl, hb5⟩))
  all_goals
    have HA := Lib.hid hb5.2.2.2.2
    clear HK1 HK2 HSD HS hb5
    go_wp2
    go_loopw [25] (fun i wr => ∃ k : Nat, k ≤ M + P ∧ i = .int .i64 k ∧ ByAt f g m q m2 q2 (some ⟨G, 0, none⟩) (some ⟨G2, 0, none⟩) c c2 (w.heap.size + 1 + 1) k w wr) (fun i _ => M + P - (intOf i).toNat)
    case atStart => exact ⟨0, Nat.zero_le _, rfl, HA.out⟩
    case round =>
      obtain ⟨k, hk, rfl, hl⟩ := hrel
      by_cases hlt : k < M + P
      · obtain ⟨p2, hp2e⟩ : ∃ p, p = placeF m2 q2 k := ⟨_, rfl⟩
        have hp2 : p2 < m2 + q2 := by rw [hp2e]; exact place_lt hq20 k
        have hp2i : (p2 : Int) < (m2 : Int) + (q2 : Int) := by omega
        have HSD := (hl.step (Below.refl _ _).drew).second_at hp2
        have HK3 : Hid (∀ W : World, (W.cell? ⟨w.heap.size + 1, 0, none⟩ = some (.slice (some ⟨G2, 0, none⟩) (m2 + q2 : Nat) c2) ∧ W.cell? ⟨w.heap.size + 1, 1, none⟩ = some (.int .i64 m2) ∧ W.cell? ⟨G2, p2 * 2, none⟩ = some (.string (tailT g m2 p2)) ∧ W.cell? ⟨G2, p2 * 2 + 1, none⟩ = some (.string (ringT g m2 q2 p2)) ∧ ByAt f g m q m2 q2 (some ⟨G, 0, none⟩) (some ⟨G2, 0, none⟩) c c2 (w.heap.size + 1 + 1) k w W) → Calls Try.prog 115 #[.agg #[.slice (some ⟨G2, 0, none⟩) (m2 + q2 : Nat) c2, .int .i64 m2], .int .i64 k] W fun e w' => e = .returned (.int .i64 p2) ∧ (w'.cell? ⟨w.heap.size + 1, 0, none⟩ = some (.slice (some ⟨G2, 0, none⟩) (m2 + q2 : Nat) c2) ∧ w'.cell? ⟨w.heap.size + 1, 1, none⟩ = some (.int .i64 m2) ∧ w'.cell? ⟨G2, p2 * 2, none⟩ = some (.string (tailT g m2 p2)) ∧ w'.cell? ⟨G2, p2 * 2 + 1, none⟩ = some (.string (ringT g m2 q2 p2)) ∧ ByAt f g m q m2 q2 (some ⟨G, 0, none⟩) (some ⟨G2, 0, none⟩) c c2 (w.heap.size + 1 + 1) k w w')) :=
          Lib.hid fun W h => (place_any _ c2 m2 q2 k W (by omega) hq20 (by omega)).mono fun e w' he => ⟨by rw [hp2e]; exact he.1, (h.2.2.2.2.step he.2).second_at hp2⟩
        have HK4 : Hid (∀ W : World, (W.cell? ⟨w.heap.size + 1, 0, none⟩ = some (.slice (some ⟨G2, 0, none⟩) (m2 + q2 : Nat) c2) ∧ W.cell? ⟨w.heap.size + 1, 1, none⟩ = some (.int .i64 m2) ∧ W.cell? ⟨G2, p2 * 2, none⟩ = some (.string (tailT g m2 p2)) ∧ W.cell? ⟨G2, p2 * 2 + 1, none⟩ = some (.string (ringT g m2 q2 p2)) ∧ ByAt f g m q m2 q2 (some ⟨G, 0, none⟩) (some ⟨G2, 0, none⟩) c c2 (w.heap.size + 1 + 1) k w W) → Calls Try.prog 87 #[.agg #[.string (tailT g m2 p2), .string (ringT g m2 q2 p2)], .int .i64 0] W fun e w' => e = .returned (.bool (g k)) ∧ (w'.cell? ⟨w.heap.size + 1, 0, none⟩ = some (.slice (some ⟨G2, 0, none⟩) (m2 + q2 : Nat) c2) ∧ w'.cell? ⟨w.heap.size + 1, 1, none⟩ = some (.int .i64 m2) ∧ w'.cell? ⟨G2, p2 * 2, none⟩ = some (.string (tailT g m2 p2)) ∧ w'.cell? ⟨G2, p2 * 2 + 1, none⟩ = some (.string (ringT g m2 q2 p2)) ∧ ByAt f g m q m2 q2 (some ⟨G, 0, none⟩) (some ⟨G2, 0, none⟩) c c2 (w.heap.size + 1 + 1) k w w')) :=
          Lib.hid fun W h => (has_any (tailT g m2 p2) (ringT g m2 q2 p2) 0 W (by rw [tailT_size]; omega) (by rw [ringT_size]; exact hq2) (by rw [ringT_size]; exact hq20) (by decide)).mono fun e w' he => ⟨by rw [hp2e, rest_zero HG.out] at he; exact he.1, (h.2.2.2.2.step he.2).second_at hp2⟩
        have HL := Lib.hid hl
        clear hp2e hl
        cases hgk : g k
        · rw [hgk] at HK4
          have HN := Lib.hid hgk
          clear hgk
          go_wp2
          go_region_held3 (fun w' => w'.cell? ⟨w.heap.size + 1, 0, none⟩ = some (.slice (some ⟨G2, 0, none⟩) (m2 + q2 : Nat) c2) ∧ w'.cell? ⟨w.heap.size + 1, 1, none⟩ = some (.int .i64 m2) ∧ w'.cell? ⟨G2, p2 * 2, none⟩ = some (.string (tailT g m2 p2)) ∧ w'.cell? ⟨G2, p2 * 2 + 1, none⟩ = some (.string (ringT g m2 q2 p2)) ∧ ByAt f g m q m2 q2 (some ⟨G, 0, none⟩) (some ⟨G2, 0, none⟩) c c2 (w.heap.size + 1 + 1) k w w') (first | assumption | (constructor <;> assumption))
            (first
              | (go_at_call 115; (with_reducible refine (HK3.out _ ?_).mono ?_); assumption; rintro e w5 ⟨rfl, hb5⟩)
              | (go_at_call 87; (with_reducible refine (HK4.out _ ?_).mono ?_); assumption; rintro e w5 ⟨rfl, hb5⟩))
          have HK := Lib.hid (hb5.2.2.2.2.no HN.out)
          clear hb5 HSD
          go_wp2
          go_roundw
          case rel => exact ⟨k + 1, by omega, by go_num, HK.out⟩
          case measure => simp [intOf]; omega
        · rw [hgk] at HK4
          obtain ⟨p1, hp1e⟩ : ∃ p, p = placeF m q k := ⟨_, rfl⟩
          have hp1 : p1 < m + q := by rw [hp1e]; exact place_lt hq0 k
          have hp1i : (p1 : Int) < (m : Int) + (q : Int) := by omega
          have hcall : ∀ W : World, Calls Try.prog 115 #[.agg #[.slice (some ⟨G, 0, none⟩) (m + q : Nat) c, .int .i64 m], .int .i64 k] W fun e w' => e = .returned (.int .i64 p1) ∧ Below W.heap.size W w' := fun W => by
            rw [hp1e]; exact place_any _ c m q k W (by omega) hq0 (by omega)
          have HY : Hid (∀ wx : World, ByAt f g m q m2 q2 (some ⟨G, 0, none⟩) (some ⟨G2, 0, none⟩) c c2 (w.heap.size + 1 + 1) k w wx → ByAt f g m q m2 q2 (some ⟨G, 0, none⟩) (some ⟨G2, 0, none⟩) c c2 (w.heap.size + 1 + 1) (k + 1) w (wx.setCell ⟨w.heap.size + 1 + 1, p1, none⟩ (.bool true))) :=
            Lib.hid fun wx h => by rw [hp1e]; exact h.yes hgk
          have HC := Lib.hid hcall
          clear hgk hp1e hcall
          go_wp2
          go_region_held3 (fun w' => w'.cell? ⟨w.heap.size + 1, 0, none⟩ = some (.slice (some ⟨G2, 0, none⟩) (m2 + q2 : Nat) c2) ∧ w'.cell? ⟨w.heap.size + 1, 1, none⟩ = some (.int .i64 m2) ∧ w'.cell? ⟨G2, p2 * 2, none⟩ = some (.string (tailT g m2 p2)) ∧ w'.cell? ⟨G2, p2 * 2 + 1, none⟩ = some (.string (ringT g m2 q2 p2)) ∧ ByAt f g m q m2 q2 (some ⟨G, 0, none⟩) (some ⟨G2, 0, none⟩) c c2 (w.heap.size + 1 + 1) k w w') (first | assumption | (constructor <;> assumption))
            (first
              | (go_at_call 115; (with_reducible refine (HK3.out _ ?_).mono ?_); assumption; rintro e w5 ⟨rfl, hb5⟩)
              | (go_at_call 87; (with_reducible refine (HK4.out _ ?_).mono ?_); assumption; rintro e w5 ⟨rfl, hb5⟩))
          have HK := Lib.hid hb5.2.2.2.2
          have x0 := hb5.2.2.2.2.x0
          have x1 := hb5.2.2.2.2.x1
          clear hb5 HSD
          go_wp2_with fail
          refine (HC.out _).mono ?_
          rintro e w6 ⟨rfl, hb6⟩
          have HK6 := Lib.hid (HK.out.step hb6)
          have r0 := (HK.out.step hb6).row.cell hp1
          have r1 := (HK.out.step hb6).row.free p1
          clear hb6 x0 x1
          go_wp2
          go_roundw
          case rel => exact ⟨k + 1, by omega, by go_num, HY.out _ HK6.out⟩
          case measure => simp [intOf]; omega
      · have hkE : k = M + P := by omega
        have HKE := Lib.hid hkE
        have hnk : decide ((k : Int) < (M : Int) + (P : Int)) = false := decide_eq_false (by omega)
        clear hkE
        have HPk := Lib.hid (pickAt_start hl)
        clear hl
        go_wp2
        rw [hnk]
        go_loopw [7, 45] (fun v i wr => ∃ j : Nat, j ≤ m + q ∧ i = .int .i64 j ∧ PickAt f g m q m2 q2 (some ⟨G, 0, none⟩) (some ⟨G2, 0, none⟩) c c2 (w.heap.size + 1 + 1) k j v w wr) (fun _ i _ => m + q - (intOf i).toNat)
        case atStart => exact ⟨0, Nat.zero_le _, rfl, HPk.out⟩
        case round =>
          obtain ⟨j, hj, rfl, hp⟩ := hrel
          by_cases hlj : j < m + q
          · have r0 := hp.by_.row.cell hlj
            cases hmj : metF g m q k j
            · rw [hmj] at r0
              have HN := Lib.hid (hp.no hmj)
              clear hp hmj
              go_wp2
              go_roundw
              case rel => exact ⟨j + 1, by omega, by go_num, HN.out⟩
              case measure => simp [intOf]; omega
            · rw [hmj] at r0
              obtain ⟨s0, s1⟩ := hp.by_.first_at hlj
              have x0 := hp.by_.x0
              have x1 := hp.by_.x1
              have hsz : w.heap.size + 1 + 1 + 1 ≤ wr.heap.size := by have h1 := hp.by_.row.lt; omega
              have hle := metL_le g m q k j
              have hlj2 : (j : Int) < (m : Int) + (q : Int) := by omega
              have HP := Lib.hid hp
              have HMJ := Lib.hid hmj
              clear hp hmj
              go_wp2_with
                (at_builtin; refine wpList_append_own _ rfl _ _ 103 rfl (w.heap.size + 1 + 1 + 1) 84 j0 (.agg #[.string ⟨#[]⟩, .string ⟨#[]⟩]) 2 32 Try.underlying103 hji hjz0 hjz1 hjz2 rfl (by decide) _ _ _ rfl (HP.out.own.alloc _) ⟨wr.heap.size, 0, none⟩ 1 1 [.string (tailT f m j), .string (ringT f m q j)] rfl rfl ?c1 ?c2 ?c3 ?c4 ?c5 ?_)
              case c1 =>
                intro i u hi
                match i, hi with
                | 0, hi => simp at hi; subst hi; simp [Addr.add]
                | 1, hi => simp at hi; subst hi; simp [Addr.add]
              case c2 => intro u hu; simp at hu; rcases hu with rfl | rfl <;> rfl
              case c3 => unfold maxLen; omega
              case c4 => omega
              case c5 => simp; omega
              intro v' w7 hown7 hgrow _
              have HN := Lib.hid (HP.out.yes HMJ.out hown7 hgrow)
              clear hown7 hgrow
              go_wp2
              go_roundw
              case rel => exact ⟨j + 1, by omega, by go_num, HN.out⟩
              case measure => simp [intOf]; omega
          · obtain rfl : j = m + q := by omega
            obtain ⟨a', c', rfl⟩ := own_form hp.own
            have HP := Lib.hid hp
            clear hp
            go_wp2
            go_ret
            exact ⟨a', _, c', rfl, by rw [← HKE.out]; exact parList_own HP.out.own, fun b hb => by have := (HP.out.own.lt b.block (by rw [hb]; rfl)).1; omega, HP.out.by_.below⟩

end Go.Proofs.Ytcacdgojibojgac
