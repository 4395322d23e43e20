/-
  Set texts, cut into tail and ring: plain facts, no program in sight. A set of a tail and a ring, as truths; and a slice that reads as truths.
-/
import Derived.Test.YtifodjlfjnmnkabBase
import Derived.Lib.Strings
import Derived.Lib.IndexBytes
import Derived.Deep.QuietTactic
import Derived.BigQuiet
import Derived.IntWalk
namespace Go.Proofs.Ytifodjlfjnmnkab
open Go.RowKit

open Go

/-- A list cut at the first c: what is before it, what is behind it, whether there is one. -/
def cut1 (c : UInt8) : List UInt8 → List UInt8 × List UInt8 × Bool
  | [] => ([], [], false)
  | x :: l => if x == c then ([], l, true) else (x :: (cut1 c l).1, (cut1 c l).2.1, (cut1 c l).2.2)

theorem index_cons_hit (c : UInt8) (l : List UInt8) : Lib.index (c :: l) [c] = 0 := by unfold Lib.index; rw [if_pos (by simp)]
theorem index_cons_miss (c x : UInt8) (l : List UInt8) (h : (x == c) = false) : Lib.index (x :: l) [c] = if Lib.index l [c] == -1 then -1 else Lib.index l [c] + 1 := by
  conv => lhs; unfold Lib.index
  have h2 : (c == x) = false := by rw [beq_eq_false_iff_ne] at h ⊢; exact fun e => h e.symm
  rw [if_neg (by simp [List.isPrefixOf, h2])]

theorem cut_eq (c : UInt8) (l : List UInt8) : Lib.cut l [c] = cut1 c l := by
  induction l with
  | nil => rfl
  | cons x l ih =>
    unfold cut1
    by_cases h : x == c
    · rw [if_pos h]
      have e := eq_of_beq h; subst e
      unfold Lib.cut; rw [index_cons_hit]; simp
    · rw [if_neg h, ← ih]
      have h' : (x == c) = false := by simpa using h
      have hge := Lib.index_ge l [c]
      unfold Lib.cut
      rw [index_cons_miss c x l h']
      by_cases hm : Lib.index l [c] = -1
      · rw [hm]; simp
      · have hp : 0 ≤ Lib.index l [c] := by omega
        obtain ⟨n, hn⟩ := Int.eq_ofNat_of_zero_le hp
        rw [hn]
        have e1 : ((n : Int) == -1) = false := by rw [beq_eq_false_iff_ne]; omega
        have e2 : ((n : Int) + 1).toNat = n + 1 := by omega
        have e3 : ((n : Int)).toNat = n := by omega
        have e4 : n + 1 + 1 = (n + 1) + 1 := rfl
        have p1 : (0 : Int) ≤ (n : Int) + 1 := by omega
        have p2 : (0 : Int) ≤ (n : Int) := by omega
        simp only [e1, e2, e3, p1, p2, if_true, Bool.false_eq_true, if_false]
        simp

/-- The tail and the ring of a text; they count only where `setOk` holds. -/
def setTail (l : List UInt8) : List UInt8 := (cut1 40 l).1
def setRest (l : List UInt8) : List UInt8 := (cut1 40 l).2.1
def setRing (l : List UInt8) : List UInt8 := (cut1 41 (setRest l)).1
def setOk (l : List UInt8) : Bool :=
  (cut1 40 l).2.2 && (cut1 41 (setRest l)).2.2 && (cut1 41 (setRest l)).2.1.isEmpty && !(setRing l).isEmpty && partB (setTail l) && partB (setRing l)

theorem cut1_free (c : UInt8) (t r : List UInt8) (h : ∀ x ∈ t, x ≠ c) : cut1 c (t ++ c :: r) = (t, r, true) := by
  induction t with
  | nil => simp [cut1]
  | cons x t ih =>
    have hx : (x == c) = false := by rw [beq_eq_false_iff_ne]; exact h x (by simp)
    simp [cut1, hx, ih (fun y hy => h y (by simp [hy]))]

theorem cut1_back (c : UInt8) (l : List UInt8) (h : (cut1 c l).2.2 = true) : l = (cut1 c l).1 ++ c :: (cut1 c l).2.1 ∧ ∀ x ∈ (cut1 c l).1, x ≠ c := by
  induction l with
  | nil => simp [cut1] at h
  | cons x l ih =>
    unfold cut1 at h ⊢
    by_cases hx : x == c
    · rw [if_pos hx]; have e := eq_of_beq hx; subst e; simp
    · rw [if_neg hx] at h ⊢
      obtain ⟨a, b⟩ := ih h
      refine ⟨by simp only [List.cons_append]; rw [← a], ?_⟩
      intro y hy
      simp only [List.mem_cons] at hy
      rcases hy with rfl | hy
      · simpa using hx
      · exact b y hy

theorem sign_ne (c : UInt8) (h : isSign c = true) : c ≠ 40 ∧ c ≠ 41 := by
  constructor <;> (intro e; subst e; exact absurd h (by decide))
theorem part_free {l : List UInt8} (h : partB l = true) (x : UInt8) (hx : x ∈ l) : x ≠ 40 ∧ x ≠ 41 := by
  unfold partB at h; simp only [Bool.and_eq_true] at h
  exact sign_ne x (allSigns_mem _ h.2 x hx)
theorem part_len {l : List UInt8} (h : partB l = true) : l.length ≤ 60 := by
  unfold partB at h; simp only [Bool.and_eq_true] at h; exact of_decide_eq_true h.1
theorem part_signs {l : List UInt8} (h : partB l = true) : allSigns l = true := by
  unfold partB at h; simp only [Bool.and_eq_true] at h; exact h.2

/-- A text that is a tail, '(', a ring and ')'. -/
structure IsText (l t r : List UInt8) : Prop where
  eq : l = t ++ 40 :: (r ++ [41])
  tail : partB t = true
  ring : partB r = true
  some : r ≠ []

theorem ok_text {l : List UInt8} (h : setOk l = true) : IsText l (setTail l) (setRing l) := by
  unfold setOk at h
  simp only [Bool.and_eq_true, Bool.not_eq_true'] at h
  obtain ⟨⟨⟨⟨⟨h1, h2⟩, h3⟩, h4⟩, h5⟩, h6⟩ := h
  have e1 := (cut1_back 40 l h1).1
  have e2 := (cut1_back 41 (setRest l) h2).1
  have e3 : (cut1 41 (setRest l)).2.1 = [] := by simpa using h3
  refine ⟨?_, h5, h6, by intro e; rw [e] at h4; simp at h4⟩
  have e4 : setRest l = setRing l ++ [41] := by rw [e3] at e2; exact e2
  exact e1.trans (congrArg (fun z => setTail l ++ 40 :: z) e4)
theorem text_cut {l t r : List UInt8} (h : IsText l t r) : cut1 40 l = (t, r ++ [41], true) := by
  rw [h.eq]; exact cut1_free 40 t _ (fun x hx => (part_free h.tail x hx).1)
theorem text_cut2 {l t r : List UInt8} (h : IsText l t r) : cut1 41 (r ++ [41]) = (r, [], true) := cut1_free 41 r [] (fun x hx => (part_free h.ring x hx).2)
theorem text_tail {l t r : List UInt8} (h : IsText l t r) : setTail l = t := by unfold setTail; rw [text_cut h]
theorem text_rest {l t r : List UInt8} (h : IsText l t r) : setRest l = r ++ [41] := by unfold setRest; rw [text_cut h]
theorem text_ring {l t r : List UInt8} (h : IsText l t r) : setRing l = r := by unfold setRing; rw [text_rest h, text_cut2 h]
theorem text_ok {l t r : List UInt8} (h : IsText l t r) : setOk l = true := by
  have h5 : (r.isEmpty) = false := by cases r with | nil => exact absurd rfl h.some | cons _ _ => rfl
  unfold setOk
  rw [text_tail h, text_ring h, text_rest h, text_cut h, text_cut2 h, h.tail, h.ring, h5]; rfl

theorem tail_le {l : List UInt8} (h : setOk l = true) : (setTail l).length ≤ 60 := part_len (ok_text h).tail
theorem ring_le {l : List UInt8} (h : setOk l = true) : (setRing l).length ≤ 60 := part_len (ok_text h).ring
theorem ring_pos {l : List UInt8} (h : setOk l = true) : 0 < (setRing l).length := List.length_pos_iff.2 (ok_text h).some
theorem text_length {l t r : List UInt8} (h : IsText l t r) : l.length = t.length + r.length + 2 := by rw [h.eq]; simp; omega

/-- Signs as truths. -/
def sb (l : List UInt8) : List Bool := l.map (· == 49)

theorem sb_length (l : List UInt8) : (sb l).length = l.length := by simp [sb]

theorem bits_sb (l : List UInt8) : bits l = (sb l).map Value.bool := by simp [bits, sb]

/-- Is n in the set of a tail and a ring? -/
def hasB (t r : List Bool) (n : Nat) : Bool := if n < t.length then t.getD n false else r.getD ((n - t.length) % r.length) false

def hasI (t r : List Bool) (n : Int) : Bool := decide (0 ≤ n) && hasB t r n.toNat

theorem hasI_neg (t r : List Bool) (n : Int) (h : n < 0) : hasI t r n = false := by unfold hasI; rw [decide_eq_false (by omega)]; rfl

theorem hasI_nat (t r : List Bool) (k : Nat) : hasI t r (k : Int) = hasB t r k := by unfold hasI; rw [decide_eq_true (by omega)]; simp

theorem hasB_tail (t r : List Bool) (k : Nat) (h : k < t.length) : hasB t r k = t.getD k false := by unfold hasB; rw [if_pos h]

theorem hasB_ring (t r : List Bool) (j : Nat) : hasB t r (t.length + j) = r.getD (j % r.length) false := by
  unfold hasB; rw [if_neg (by omega), show t.length + j - t.length = j from by omega]

theorem at_sb (s : ByteArray) (k : Nat) (h : k < s.size) : (sb s.data.toList).getD k false = ((s[k].toNat : Int) == 49) := by
  have h' : k < (sb s.data.toList).length := by rw [sb_length, size_eq]; exact h
  rw [List.getD_eq_getElem?_getD, List.getElem?_eq_getElem h', Option.getD_some]
  have e : (sb s.data.toList)[k] = (s[k] == 49) := by simp only [sb, List.getElem_map]; rfl
  rw [e]
  rw [Bool.eq_iff_iff, beq_iff_eq, beq_iff_eq, ← UInt8.toNat_inj]
  have e49 : (49 : UInt8).toNat = 49 := rfl
  rw [e49]; omega

/-- A slice reads as a list of truths. -/
structure Reads (w : World) (a : Option Addr) (n : Nat) (bs : List Bool) : Prop where
  len : bs.length = n
  cells : n = 0 ∨ ∃ g o, a = some ⟨g, o, none⟩ ∧ g < w.heap.size ∧ ∀ i, i < n → w.cell? ⟨g, o + i, none⟩ = some (.bool (bs.getD i false))

theorem Reads.below {w w' : World} {a : Option Addr} {n B : Nat} {bs : List Bool} (h : Reads w a n bs) (hb : Below B w w') (hB : w.heap.size ≤ B) : Reads w' a n bs := by
  obtain ⟨hl, hc⟩ := h
  refine ⟨hl, ?_⟩
  rcases hc with hc | ⟨g, o, ha, hg, hc⟩
  · exact .inl hc
  · exact .inr ⟨g, o, ha, by have := hb.size; omega, fun i hi => (hb.cell (p := ⟨g, o + i, none⟩) (by exact Nat.lt_of_lt_of_le hg hB)).trans (hc i hi)⟩

theorem reads_own2 {w : World} {base c n : Nat} {a : Option Addr} {l : List Bool} (h : w.ownsRow base 4 1 (.slice a n c) n (l.map Value.bool)) (hn : l.length = n) : Reads w a n l := by
  obtain ⟨h1, h2⟩ := h
  refine ⟨hn, ?_⟩
  rcases h2 with ⟨hv, h0⟩ | ⟨g, cap, cur, hv, hg, hh, hn', hm, hs, ht⟩
  · exact .inl h0
  · right
    injection hv with ha hn2 hc
    subst ha
    have hlt : g < w.heap.size := by
      rcases Nat.lt_or_ge g w.heap.size with h | h
      · exact h
      · rw [Array.getElem?_eq_none h] at hh; cases hh
    refine ⟨g, 0, rfl, hlt, fun i hi => ?_⟩
    have e : cur[i]? = some (.bool (l.getD i false)) := by
      rw [← Array.getElem?_toList]
      have : (cur.toList.take (n * 1))[i]? = (l.map Value.bool)[i]? := by rw [ht]
      rw [List.getElem?_take_of_lt (by omega)] at this
      rw [this, List.getElem?_map, List.getElem?_eq_getElem (by omega), List.getD_eq_getElem?_getD, List.getElem?_eq_getElem (by omega)]
      rfl
    simp only [Nat.zero_add, World.cell?, hh]
    exact e

theorem reads_own {w : World} {base c n : Nat} {a : Option Addr} {l : List UInt8} (h : w.ownsRow base 4 1 (.slice a n c) n (bits l)) (hn : l.length = n) : Reads w a n (sb l) := by
  obtain ⟨h1, h2⟩ := h
  refine ⟨by rw [sb_length]; exact hn, ?_⟩
  rcases h2 with ⟨hv, h0⟩ | ⟨g, cap, cur, hv, hg, hh, hn', hm, hs, ht⟩
  · exact .inl h0
  · right
    injection hv with ha hn2 hc
    subst ha
    have hlt : g < w.heap.size := by
      rcases Nat.lt_or_ge g w.heap.size with h | h
      · exact h
      · rw [Array.getElem?_eq_none h] at hh; cases hh
    refine ⟨g, 0, rfl, hlt, fun i hi => ?_⟩
    have e : cur[i]? = some (.bool ((sb l).getD i false)) := by
      rw [← Array.getElem?_toList]
      have : (cur.toList.take (n * 1))[i]? = (bits l)[i]? := by rw [ht]
      rw [List.getElem?_take_of_lt (by omega)] at this
      rw [this, bits_sb, List.getElem?_map, List.getElem?_eq_getElem (by rw [sb_length]; omega), List.getD_eq_getElem?_getD, List.getElem?_eq_getElem (by rw [sb_length]; omega)]
      rfl
    simp only [Nat.zero_add, World.cell?, hh]
    exact e

theorem hasB_round (t r : List Bool) (n : Nat) (h : t.length ≤ n) : hasB t r (n + r.length) = hasB t r n := by
  unfold hasB
  rw [if_neg (by omega), if_neg (by omega), show n + r.length - t.length = (n - t.length) + r.length from by omega, Nat.add_mod_right]

theorem hasB_rounds (t r : List Bool) (n k : Nat) (h : t.length ≤ n) : hasB t r (n + k * r.length) = hasB t r n := by
  induction k with
  | zero => simp
  | succ k ih => rw [Nat.succ_mul, ← Nat.add_assoc, hasB_round t r _ (by omega), ih]

end Go.Proofs.Ytifodjlfjnmnkab
