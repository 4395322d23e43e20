/-
  A block of truths that the call itself made, known whole; the walks of impl.numbers.add, of impl.shifts.up and of impl.shiftsOf.
-/
import Derived.Test.YtonphojjlilcnaaHasMath
import Derived.Laws.CopyOwn
import Derived.Laws.Rows
import Derived.Laws.Tables
import Derived.Deep.OwnRows
set_option linter.unusedVariables false
set_option linter.unusedSimpArgs false
namespace Go.Proofs.Ytonphojjlilcnaa
open Go.RowKit

/-- The block g has N truths, as c tells. -/
def BRow (w : World) (g N : Nat) (c : Nat → Bool) : Prop := ∃ cur : Array Value, w.heap[g]? = some (.cells cur 4 (0, 0)) ∧ cur.size = N ∧ ∀ i, i < N → cur[i]? = some (.bool (c i))
theorem BRow.lt {w : World} {g N : Nat} {c : Nat → Bool} (h : BRow w g N c) : g < w.heap.size := by
  obtain ⟨cur, h1, _⟩ := h
  rcases Nat.lt_or_ge g w.heap.size with k | k
  · exact k
  · rw [Array.getElem?_eq_none k] at h1; cases h1
theorem BRow.cell {w : World} {g N : Nat} {c : Nat → Bool} (h : BRow w g N c) {i : Nat} (hi : i < N) : w.cell? ⟨g, i, none⟩ = some (.bool (c i)) := by
  obtain ⟨cur, h1, h2, h3⟩ := h
  rw [cell_of_row w _ _ _ _ _ h1]; exact h3 i hi
theorem BRow.free {w : World} {g N : Nat} {c : Nat → Bool} (h : BRow w g N c) (i : Nat) : w.frozen? ⟨g, i, none⟩ = false := by
  obtain ⟨cur, h1, h2, h3⟩ := h
  exact frozen_of_row w _ _ _ _ h1
theorem BRow.below {w w' : World} {g N B : Nat} {c : Nat → Bool} (h : BRow w g N c) (hb : Below B w w') (hg : g < B) : BRow w' g N c := by
  obtain ⟨cur, h1, h2, h3⟩ := h
  exact ⟨cur, (hb.block g hg).trans h1, h2, h3⟩
theorem BRow.step {w w' : World} {g N : Nat} {c : Nat → Bool} (h : BRow w g N c) (hb : Below w.heap.size w w') : BRow w' g N c := h.below hb h.lt
theorem BRow.congr {w : World} {g N : Nat} {c d : Nat → Bool} (h : BRow w g N c) (hc : ∀ i, i < N → c i = d i) : BRow w g N d := by
  obtain ⟨cur, h1, h2, h3⟩ := h
  exact ⟨cur, h1, h2, fun i hi => by rw [← hc i hi]; exact h3 i hi⟩
theorem BRow.other {w : World} {g N : Nat} {c : Nat → Bool} (h : BRow w g N c) {a : Addr} (ha : g ≠ a.block) (u : Value) : BRow (w.setCell a u) g N c := by
  obtain ⟨cur, h1, h2, h3⟩ := h
  exact ⟨cur, (heap_setCell_other w _ _ _ ha).trans h1, h2, h3⟩
/-- k turned to b. -/
def put (c : Nat → Bool) (k : Nat) (b : Bool) (i : Nat) : Bool := if i = k then b else c i
theorem BRow.put {w : World} {g N : Nat} {c : Nat → Bool} (h : BRow w g N c) (k : Nat) (b : Bool) : BRow (w.setCell ⟨g, k, none⟩ (.bool b)) g N (put c k b) := by
  obtain ⟨cur, h1, h2, h3⟩ := h
  refine ⟨_, heap_setCell_same w _ _ _ _ _ h1, by simpa using h2, fun i hi => ?_⟩
  unfold Proofs.Ytonphojjlilcnaa.put
  rw [Array.getElem?_setIfInBounds]
  by_cases e : k = i
  · subst e; rw [if_pos rfl, if_pos (by omega), if_pos rfl]
  · rw [if_neg e, if_neg (fun x => e x.symm)]; exact h3 i hi
theorem bRow_new (w : World) (N : Nat) : BRow (w.alloc (.cells (madeCells #[.bool false] N) 4)) w.heap.size N fun _ => false := by
  refine ⟨_, heap_alloc_new w _, ?_, ?_⟩
  · simp [madeCells]
  · intro i hi
    simp [madeCells, hi, Nat.mod_one]

/-- What lies behind as many places without numbers. -/
def behind (N : Nat) (c : Nat → Bool) (i : Nat) : Bool := decide (N ≤ i) && c (i - N)

/-- No block but g has turned. -/
structure Else (g : Nat) (w w' : World) : Prop where
  os : w'.os = w.os
  tape : w'.tape = w.tape
  output : w'.output = w.output
  size : w.heap.size ≤ w'.heap.size
  block : ∀ k, k ≠ g → k < w.heap.size → w'.heap[k]? = w.heap[k]?
theorem Else.refl (g : Nat) (w : World) : Else g w w := ⟨rfl, rfl, rfl, Nat.le_refl _, fun _ _ _ => rfl⟩
theorem Else.put {g : Nat} {w w' : World} (h : Else g w w') (k : Nat) (v : Value) : Else g w (w'.setCell ⟨g, k, none⟩ v) :=
  ⟨h.os, h.tape, h.output, by simp [World.setCell]; exact h.size, fun j hj hlt => by rw [heap_setCell_other w' ⟨g, k, none⟩ j v hj, h.block j hj hlt]⟩
theorem Else.below {g B : Nat} {w0 w w' : World} (h : Else g w w') (hb : Below B w0 w) (hB : B ≤ g) (hg : g < w.heap.size) : Below B w0 w' :=
  hb.trans ⟨h.os, h.tape, h.output, h.size, fun k hk => h.block k (by omega) (by omega)⟩
theorem BRow.else {w w' : World} {g h N : Nat} {c : Nat → Bool} (hr : BRow w g N c) (he : Else h w w') (hn : g ≠ h) : BRow w' g N c := by
  have hl := hr.lt
  obtain ⟨cur, h1, h2, h3⟩ := hr
  exact ⟨cur, (he.block g hn hl).trans h1, h2, h3⟩
theorem Else.cell {g : Nat} {w w' : World} (h : Else g w w') {p : Addr} (hp : p.block ≠ g) (hl : p.block < w.heap.size) : w'.cell? p = w.cell? p := World.cell?_of_block (w := w) (h.block p.block hp hl)
theorem Else.own {g : Nat} {w w' : World} {base size n : Nat} {e : TypeId} {v : Value} {xs : List Value} (ho : Else g w w') (h : w.ownsRow base e size v n xs) (hd : v.ownBlock ≠ some g) : w'.ownsRow base e size v n xs := by
  obtain ⟨h1, h2⟩ := h
  refine ⟨h1, ?_⟩
  rcases h2 with h2 | ⟨b, cap, cur, hv, hg, hh, hr⟩
  · exact .inl h2
  · refine .inr ⟨b, cap, cur, hv, hg, ?_, hr⟩
    have hlt : b < w.heap.size := by
      rcases Nat.lt_or_ge b w.heap.size with h | h
      · exact h
      · rw [Array.getElem?_eq_none h] at hh; cases hh
    rw [ho.block b (fun e => hd (by rw [hv, ← e]; rfl)) hlt]; exact hh

/-- The first places as d tells, the others as c. -/
def mix (c d : Nat → Bool) (o k j : Nat) : Bool := if j < o + k then d j else c j
theorem mix_zero {c d : Nat → Bool} {o : Nat} (h : ∀ j, j < o → d j = c j) (j : Nat) : c j = mix c d o 0 j := by
  unfold mix
  by_cases e : j < o + 0
  · rw [if_pos e, h j (by omega)]
  · rw [if_neg e]
theorem mix_put {c d : Nat → Bool} {o k : Nat} (b : Bool) (h : d (o + k) = b) (j : Nat) : put (mix c d o k) (o + k) b j = mix c d o (k + 1) j := by
  unfold put mix
  by_cases e : j = o + k
  · subst e; rw [if_pos rfl, if_pos (by omega), h]
  · rw [if_neg e]
    by_cases e2 : j < o + k
    · rw [if_pos e2, if_pos (by omega)]
    · rw [if_neg e2, if_neg (by omega)]
theorem mix_keep {c d : Nat → Bool} {o k : Nat} (h : d (o + k) = c (o + k)) (j : Nat) : mix c d o k j = mix c d o (k + 1) j := by
  unfold mix
  by_cases e : j = o + k
  · subst e; rw [if_neg (by omega), if_pos (by omega), h]
  · by_cases e2 : j < o + k
    · rw [if_pos e2, if_pos (by omega)]
    · rw [if_neg e2, if_neg (by omega)]

set_option maxHeartbeats 400000 in
theorem add_any (g o h p L N c1 c2 : Nat) (c d e : Nat → Bool) (w : World) (hg : BRow w g N c) (hN : o + L ≤ N) (hL : L ≤ 100000) (h0 : ∀ j, j < o → d j = c j) (hd : ∀ i, i < L → d (o + i) = (c (o + i) || e i))
    (hR : ∀ k w', k < L → BRow w' g N (mix c d o k) → Else g w w' → w'.cell? ⟨h, p + k, none⟩ = some (.bool (e k))) :
    Calls Try.prog 50 #[.slice (some ⟨g, o, none⟩) L c1, .slice (some ⟨h, p, none⟩) L c2] w fun e w' =>
      e = .returned (.tuple #[]) ∧ BRow w' g N (mix c d o L) ∧ Else g w w' := by
  have HR := Lib.hid hR
  have HD := Lib.hid hd
  have HG := Lib.hid (hg.congr fun j _ => mix_zero h0 j)
  clear hR hd hg h0
  go_enter Try.func50, Try.ntmps50
  go_wp2
  go_loopw [8] (fun i wr => ∃ k : Nat, k ≤ L ∧ i = .int .i64 k ∧ BRow wr g N (mix c d o k) ∧ Else g w wr) (fun i _ => L - (intOf i).toNat)
  case atStart => exact ⟨0, Nat.zero_le _, rfl, HG.out, Else.refl _ _⟩
  case round =>
    obtain ⟨k, hk, rfl, hb, he⟩ := hrel
    by_cases hlt : k < L
    · have hc := HR.out k wr hlt hb he
      cases hv : e k
      · rw [hv] at hc
        have hk2 : d (o + k) = c (o + k) := by rw [HD.out k hlt, hv, Bool.or_false]
        have HB := Lib.hid (hb.congr fun j _ => mix_keep hk2 j)
        have HE := Lib.hid he
        clear hb he hv hk2
        go_wp2
        go_roundw
        case rel => exact ⟨k + 1, by omega, by go_num, HB.out, HE.out⟩
        case measure => simp [intOf]; omega
      · rw [hv] at hc
        have hk2 : d (o + k) = true := by rw [HD.out k hlt, hv, Bool.or_true]
        have HB := Lib.hid ((hb.put (o + k) true).congr fun j _ => mix_put true hk2 j)
        have HE := Lib.hid (he.put (o + k) (.bool true))
        have hq := hb.cell (i := o + k) (by omega)
        have hf := hb.free (o + k)
        clear hb he hv hk2
        go_wp2
        go_roundw
        case rel => exact ⟨k + 1, by omega, by go_num, HB.out, HE.out⟩
        case measure => simp [intOf]; omega
    · obtain rfl : k = L := by omega
      have HB := Lib.hid hb
      have HE := Lib.hid he
      clear hb he
      go_wp2
      go_end0
      exact ⟨rfl, HB.out, HE.out⟩

theorem ret_slice {p : Option Addr} {a a' b b' : Nat} (h : a = a') (h2 : b = b') : Ending.returned (.slice p a b) = .returned (.slice p a' b') := by rw [h, h2]

set_option maxHeartbeats 400000 in
theorem up_any (g L k c : Nat) (w : World) (hk : k ≤ L) (h0 : 0 < L) (hL : L ≤ 100000) (hc : 2 * L ≤ c) :
    Calls Try.prog 51 #[.slice (some ⟨g, 0, none⟩) (2 * L : Nat) c, .int .i64 k] w fun e w' =>
      e = .returned (.slice (some ⟨g, L - k, none⟩) L L) ∧ w' = w := by
  go_enter Try.func51, Try.ntmps51
  go_wp2
  go_ret
  exact ⟨ret_slice (by omega) (by omega), rfl⟩

theorem vals_get {c : Nat → Bool} {N i : Nat} {v : Value} (h : ((List.range N).map fun i => Value.bool (c i))[i]? = some v) : i < N ∧ v = .bool (c i) := by
  rw [List.getElem?_map] at h
  rcases Nat.lt_or_ge i N with k | k
  · rw [List.getElem?_range k] at h
    exact ⟨k, by simpa using h.symm⟩
  · rw [List.getElem?_eq_none (by simpa using k)] at h; cases h
theorem splice_low {α : Type} (L : List α) (off : Nat) (cs : List α) (i : Nat) (h : i < off) (h2 : off ≤ L.length) : (splice L off cs)[i]? = L[i]? := by
  unfold splice
  rw [List.getElem?_append_left (by rw [List.length_take]; omega), List.getElem?_take_of_lt h]
theorem splice_in {α : Type} (L : List α) (off : Nat) (cs : List α) (i : Nat) (h : i < cs.length) (h2 : off ≤ L.length) : (splice L off cs)[off + i]? = cs[i]? := by
  unfold splice
  rw [List.getElem?_append_right (by rw [List.length_take]; omega), List.length_take, show off + i - min off L.length = i from by omega, List.getElem?_append_left h]
theorem behind_row {w : World} {g N : Nat} {f : Nat → Bool} {cur : Array Value} (hs : cur.size = 2 * N) (hc : ∀ i, i < 2 * N → cur[i]? = some (.bool false))
    (h : w.heap[g]? = some (.cells (splice cur.toList N ((List.range N).map fun i => Value.bool (f i))).toArray 4 (0, 0))) : BRow w g (2 * N) (behind N f) := by
  refine ⟨_, h, ?_, fun i hi => ?_⟩
  · rw [List.size_toArray, length_splice _ _ _ (by simp; omega)]; simpa using hs
  · rw [List.getElem?_toArray]
    rcases Nat.lt_or_ge i N with k | k
    · rw [splice_low _ _ _ _ k (by simp; omega), Array.getElem?_toList, hc i hi]
      unfold behind; rw [decide_eq_false (by omega)]; rfl
    · obtain ⟨j, rfl⟩ : ∃ j, i = N + j := ⟨i - N, by omega⟩
      rw [splice_in _ _ _ _ (by simp; omega) (by simp; omega), List.getElem?_map, List.getElem?_range (by omega)]
      unfold behind; rw [decide_eq_true (by omega), show N + j - N = j from by omega]; rfl
set_option maxRecDepth 100000 in
set_option maxHeartbeats 400000 in
theorem shiftsOf_any (g N c : Nat) (f : Nat → Bool) (w : World) (h : BRow w g N f) (h0 : 0 < N) (hN : N ≤ 100000) :
    Calls Try.prog 48 #[.slice (some ⟨g, 0, none⟩) N c] w fun e w' =>
      ∃ G, e = .returned (.slice (some ⟨G, 0, none⟩) (2 * N : Nat) (2 * N : Nat)) ∧ w.heap.size ≤ G ∧ BRow w' G (2 * N) (behind N f) ∧ Below w.heap.size w w' := by
  obtain ⟨i0, hi, hz0, hz1, hz2⟩ := info_parts Try.infoBool
  have hsz : (Try.prog.info? 4).map (·.size) = some 1 := by rw [hi]; exact congrArg some hz1
  obtain ⟨M, hM⟩ : ∃ M, 2 * N = M := ⟨_, rfl⟩
  have hMi : (2 : Int) * (N : Int) = (M : Int) := by omega
  rw [hM]
  obtain ⟨cs, hcs⟩ : ∃ cs, cs = (List.range N).map fun i => Value.bool (f i) := ⟨_, rfl⟩
  have HC := Lib.hid hcs
  have hcl : cs.length = N := by rw [hcs]; simp
  have HW := Lib.hid h
  have hlt := h.lt
  clear hcs h
  go_enter Try.func48, Try.ntmps48
  go_wp2_with (at_make; refine wpList_make_row _ rfl _ _ 52 rfl 4 i0 (.bool false) Try.underlying52 hi hz0 hz1 rfl .i64 .i64 M rfl rfl ?b1 ?b2 ?_)
  case b1 => rw [hz2]; omega
  case b2 => omega
  have HB := Lib.hid (bRow_new w M)
  have HW2 := Lib.hid (HW.out.below ((Below.refl w.heap.size w).alloc (Nat.le_refl _) (.cells (madeCells #[.bool false] M) 4)) hlt)
  have HX := Lib.hid ((Below.refl w.heap.size w).alloc (Nat.le_refl _) (.cells (madeCells #[.bool false] M) 4))
  generalize w.alloc (.cells (madeCells #[.bool false] M) 4) = w1 at HB HW2 HX
  obtain ⟨cur, q1, q2, q3⟩ := HB.out
  have hrun := run_copy_row (P := Try.prog) w1 52 51 3 4 w.heap.size N (M - N) (M - N) ⟨g, 0, none⟩ N c cur 4 cs Try.underlying52 hsz q1 (by rw [hcl]; exact (Nat.min_eq_left (by omega)).symm)
    (fun j v hv => by
      rw [HC.out] at hv
      obtain ⟨h1, rfl⟩ := vals_get hv
      have := HW2.out.cell h1
      rw [Addr.add_lit, Nat.zero_add]; exact this) (by omega) (fun v hv => by
      rw [HC.out] at hv
      obtain ⟨i, _, rfl⟩ := List.mem_map.1 hv
      rfl)
  rw [List.append_assoc] at hrun
  have q4 := setRow_heap w1 w.heap.size _ (cur.toList.take N ++ (cs ++ cur.toList.drop (N + cs.length))).toArray 4 _ q1
  have HS : Hid (BRow (w1.setRow w.heap.size (cur.toList.take N ++ (cs ++ cur.toList.drop (N + cs.length))).toArray) w.heap.size (2 * N) (behind N f)) := Lib.hid (by
    refine behind_row (by rw [q2, hM]) (by rw [hM]; exact q3) ?_
    rw [← HC.out]; exact q4)
  have HBS := Lib.hid (below_setRow (g := w.heap.size) HX.out (Nat.le_refl _) (cur.toList.take N ++ (cs ++ cur.toList.drop (N + cs.length))).toArray)
  clear q1 q3 q4
  generalize w1.setRow w.heap.size (cur.toList.take N ++ (cs ++ cur.toList.drop (N + cs.length))).toArray = w2 at hrun HS HBS
  go_wp2
  rw [hrun]
  simp only [Result.andThen]
  rw [Oper.upon_value]
  go_wp2
  go_ret
  exact ⟨_, rfl, Nat.le_refl _, by rw [← hM]; exact HS.out, HBS.out⟩

end Go.Proofs.Ytonphojjlilcnaa
