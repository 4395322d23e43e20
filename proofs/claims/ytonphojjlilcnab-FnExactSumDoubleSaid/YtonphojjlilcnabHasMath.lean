/-
  A set of a tail and a ring, as truths; and a slice that reads as truths.
-/
import Derived.Test.YtonphojjlilcnabBase
import Derived.Test.YtonphojjlilcnabParse
import Derived.Deep.QuietTactic
import Derived.BigQuiet
import Derived.IntWalk
namespace Go.Proofs.Ytonphojjlilcnab
open Go.RowKit

/-- Signs as truths. -/
def sb (l : List UInt8) : List Bool := l.map (· == 49)

theorem sb_length (l : List UInt8) : (sb l).length = l.length := by simp [sb]

theorem bits_sb (l : List UInt8) : bits l = (sb l).map Value.bool := by simp [bits, sb]

/-- Is n in the set of a tail and a ring? -/
def hasB (t r : List Bool) (n : Nat) : Bool := if n < t.length then t.getD n false else r.getD ((n - t.length) % r.length) false

def hasI (t r : List Bool) (n : Int) : Bool := decide (0 ≤ n) && hasB t r n.toNat

theorem hasI_neg (t r : List Bool) (n : Int) (h : n < 0) : hasI t r n = false := by unfold hasI; rw [decide_eq_false (by omega)]; rfl

theorem hasI_nat (t r : List Bool) (k : Nat) : hasI t r (k : Int) = hasB t r k := by unfold hasI; rw [decide_eq_true (by omega)]; simp

theorem hasB_tail (t r : List Bool) (k : Nat) (h : k < t.length) : hasB t r k = t.getD k false := by unfold hasB; rw [if_pos h]

theorem hasB_ring (t r : List Bool) (j : Nat) : hasB t r (t.length + j) = r.getD (j % r.length) false := by
  unfold hasB; rw [if_neg (by omega), show t.length + j - t.length = j from by omega]

theorem at_sb (s : ByteArray) (k : Nat) (h : k < s.size) : (sb s.data.toList).getD k false = ((s[k].toNat : Int) == 49) := by
  have h' : k < (sb s.data.toList).length := by rw [sb_length, size_eq]; exact h
  rw [List.getD_eq_getElem?_getD, List.getElem?_eq_getElem h', Option.getD_some]
  have e : (sb s.data.toList)[k] = (s[k] == 49) := by simp only [sb, List.getElem_map]; rfl
  rw [e]
  rw [Bool.eq_iff_iff, beq_iff_eq, beq_iff_eq, ← UInt8.toNat_inj]
  have e49 : (49 : UInt8).toNat = 49 := rfl
  rw [e49]; omega

/-- A slice reads as a list of truths. -/
structure Reads (w : World) (a : Option Addr) (n : Nat) (bs : List Bool) : Prop where
  len : bs.length = n
  cells : n = 0 ∨ ∃ g o, a = some ⟨g, o, none⟩ ∧ g < w.heap.size ∧ ∀ i, i < n → w.cell? ⟨g, o + i, none⟩ = some (.bool (bs.getD i false))

theorem Reads.below {w w' : World} {a : Option Addr} {n B : Nat} {bs : List Bool} (h : Reads w a n bs) (hb : Below B w w') (hB : w.heap.size ≤ B) : Reads w' a n bs := by
  obtain ⟨hl, hc⟩ := h
  refine ⟨hl, ?_⟩
  rcases hc with hc | ⟨g, o, ha, hg, hc⟩
  · exact .inl hc
  · exact .inr ⟨g, o, ha, by have := hb.size; omega, fun i hi => (hb.cell (p := ⟨g, o + i, none⟩) (by exact Nat.lt_of_lt_of_le hg hB)).trans (hc i hi)⟩

theorem reads_own2 {w : World} {base c n : Nat} {a : Option Addr} {l : List Bool} (h : w.ownsRow base 4 1 (.slice a n c) n (l.map Value.bool)) (hn : l.length = n) : Reads w a n l := by
  obtain ⟨h1, h2⟩ := h
  refine ⟨hn, ?_⟩
  rcases h2 with ⟨hv, h0⟩ | ⟨g, cap, cur, hv, hg, hh, hn', hm, hs, ht⟩
  · exact .inl h0
  · right
    injection hv with ha hn2 hc
    subst ha
    have hlt : g < w.heap.size := by
      rcases Nat.lt_or_ge g w.heap.size with h | h
      · exact h
      · rw [Array.getElem?_eq_none h] at hh; cases hh
    refine ⟨g, 0, rfl, hlt, fun i hi => ?_⟩
    have e : cur[i]? = some (.bool (l.getD i false)) := by
      rw [← Array.getElem?_toList]
      have : (cur.toList.take (n * 1))[i]? = (l.map Value.bool)[i]? := by rw [ht]
      rw [List.getElem?_take_of_lt (by omega)] at this
      rw [this, List.getElem?_map, List.getElem?_eq_getElem (by omega), List.getD_eq_getElem?_getD, List.getElem?_eq_getElem (by omega)]
      rfl
    simp only [Nat.zero_add, World.cell?, hh]
    exact e

theorem reads_own {w : World} {base c n : Nat} {a : Option Addr} {l : List UInt8} (h : w.ownsRow base 4 1 (.slice a n c) n (bits l)) (hn : l.length = n) : Reads w a n (sb l) := by
  obtain ⟨h1, h2⟩ := h
  refine ⟨by rw [sb_length]; exact hn, ?_⟩
  rcases h2 with ⟨hv, h0⟩ | ⟨g, cap, cur, hv, hg, hh, hn', hm, hs, ht⟩
  · exact .inl h0
  · right
    injection hv with ha hn2 hc
    subst ha
    have hlt : g < w.heap.size := by
      rcases Nat.lt_or_ge g w.heap.size with h | h
      · exact h
      · rw [Array.getElem?_eq_none h] at hh; cases hh
    refine ⟨g, 0, rfl, hlt, fun i hi => ?_⟩
    have e : cur[i]? = some (.bool ((sb l).getD i false)) := by
      rw [← Array.getElem?_toList]
      have : (cur.toList.take (n * 1))[i]? = (bits l)[i]? := by rw [ht]
      rw [List.getElem?_take_of_lt (by omega)] at this
      rw [this, bits_sb, List.getElem?_map, List.getElem?_eq_getElem (by rw [sb_length]; omega), List.getD_eq_getElem?_getD, List.getElem?_eq_getElem (by rw [sb_length]; omega)]
      rfl
    simp only [Nat.zero_add, World.cell?, hh]
    exact e

theorem hasB_round (t r : List Bool) (n : Nat) (h : t.length ≤ n) : hasB t r (n + r.length) = hasB t r n := by
  unfold hasB
  rw [if_neg (by omega), if_neg (by omega), show n + r.length - t.length = (n - t.length) + r.length from by omega, Nat.add_mod_right]

theorem hasB_rounds (t r : List Bool) (n k : Nat) (h : t.length ≤ n) : hasB t r (n + k * r.length) = hasB t r n := by
  induction k with
  | zero => simp
  | succ k ih => rw [Nat.succ_mul, ← Nat.add_assoc, hasB_round t r _ (by omega), ih]

end Go.Proofs.Ytonphojjlilcnab
