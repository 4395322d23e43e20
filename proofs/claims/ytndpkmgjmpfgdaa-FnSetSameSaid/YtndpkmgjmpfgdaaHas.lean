/-
  The walks of has: of the program (a struct of two texts), of the model (a struct of two slices of truths).
-/
import Derived.Test.YtndpkmgjmpfgdaaBase
import Derived.Test.YtndpkmgjmpfgdaaParse
import Derived.Deep.QuietTactic
import Derived.BigQuiet
import Derived.IntWalk
namespace Go.Proofs.Ytndpkmgjmpfgdaa
open Go.RowKit

/-- Signs as truths. -/
def sb (l : List UInt8) : List Bool := l.map (· == 49)
theorem sb_length (l : List UInt8) : (sb l).length = l.length := by simp [sb]
theorem bits_sb (l : List UInt8) : bits l = (sb l).map Value.bool := by simp [bits, sb]
/-- Is n in the set of a tail and a ring? -/
def hasB (t r : List Bool) (n : Nat) : Bool := if n < t.length then t.getD n false else r.getD ((n - t.length) % r.length) false
def hasI (t r : List Bool) (n : Int) : Bool := decide (0 ≤ n) && hasB t r n.toNat

theorem hasI_neg (t r : List Bool) (n : Int) (h : n < 0) : hasI t r n = false := by unfold hasI; rw [decide_eq_false (by omega)]; rfl
theorem hasI_nat (t r : List Bool) (k : Nat) : hasI t r (k : Int) = hasB t r k := by unfold hasI; rw [decide_eq_true (by omega)]; simp
theorem hasB_tail (t r : List Bool) (k : Nat) (h : k < t.length) : hasB t r k = t.getD k false := by unfold hasB; rw [if_pos h]
theorem hasB_ring (t r : List Bool) (j : Nat) : hasB t r (t.length + j) = r.getD (j % r.length) false := by
  unfold hasB; rw [if_neg (by omega), show t.length + j - t.length = j from by omega]

theorem at_sb (s : ByteArray) (k : Nat) (h : k < s.size) : (sb s.data.toList).getD k false = ((s[k].toNat : Int) == 49) := by
  have h' : k < (sb s.data.toList).length := by rw [sb_length, size_eq]; exact h
  rw [List.getD_eq_getElem?_getD, List.getElem?_eq_getElem h', Option.getD_some]
  have e : (sb s.data.toList)[k] = (s[k] == 49) := by simp only [sb, List.getElem_map]; rfl
  rw [e]
  rw [Bool.eq_iff_iff, beq_iff_eq, beq_iff_eq, ← UInt8.toNat_inj]
  have e49 : (49 : UInt8).toNat = 49 := rfl
  rw [e49]; omega

set_option maxHeartbeats 400000 in
theorem has_any (T R : ByteArray) (n : Int) (w : World) (hT : T.size ≤ 60) (hR : R.size ≤ 60) (hR0 : 0 < R.size) (hn : n ≤ 9223372036854775807) :
    Calls Try.prog 56 #[.agg #[.string T, .string R], .int .i64 n] w fun e w' =>
      e = .returned (.bool (hasI (sb T.data.toList) (sb R.data.toList) n)) ∧ Below w.heap.size w w' := by
  by_cases h0 : n < 0
  · have H := Lib.hid (hasI_neg (sb T.data.toList) (sb R.data.toList) n h0)
    go_enter Try.func56, Try.ntmps56
    go_wp2
    go_ret
    exact ⟨ret_bool H.out.symm, (Below.refl _ _).alloc (Nat.le_refl _) _⟩
  · obtain ⟨k, rfl⟩ := Int.eq_ofNat_of_zero_le (show 0 ≤ n by omega)
    by_cases h1 : k < T.size
    · have H : Hid (hasI (sb T.data.toList) (sb R.data.toList) (k : Int) = ((T[k].toNat : Int) == 49)) := by
        refine Lib.hid ?_
        rw [hasI_nat, hasB_tail _ _ _ (by rw [sb_length, size_eq]; exact h1), at_sb T k h1]
      go_enter Try.func56, Try.ntmps56
      go_wp2
      go_ret
      exact ⟨ret_bool H.out.symm, (Below.refl _ _).alloc (Nat.le_refl _) _⟩
    · obtain ⟨j, rfl⟩ : ∃ j, k = T.size + j := ⟨k - T.size, by omega⟩
      have hj : j % R.size < R.size := Nat.mod_lt _ hR0
      have H : Hid (hasI (sb T.data.toList) (sb R.data.toList) ((T.size + j : Nat) : Int) = ((R[j % R.size].toNat : Int) == 49)) := by
        refine Lib.hid ?_
        have e : T.size + j = (sb T.data.toList).length + j := by rw [sb_length, size_eq]
        rw [hasI_nat, e, hasB_ring, sb_length, size_eq, at_sb R _ hj]
      go_enter Try.func56, Try.ntmps56
      go_wp2
      have hE : ¬ R = ByteArray.empty := by intro e; subst e; exact absurd hR0 (by decide)
      have hw5 : ((j : Int) % (R.size : Int)) < (R.size : Int) := by omega
      have hw6 : (0 : Int) ≤ ((j : Int) % (R.size : Int)) := by omega
      have hw7 : ((j : Int) % (R.size : Int)).toNat = j % R.size := rfl
      have hw1 : IntKind.i64.wrap ((T.size : Int) + (j : Int) - (T.size : Int)) = (j : Int) := by rw [IntWalk.i64_in _ (by omega)]; omega
      go_quiet (fail)
      go_wp2
      go_ret
      exact ⟨ret_bool H.out.symm, below_drewN ((Below.refl _ _).alloc (Nat.le_refl _) _) _⟩

/-- A slice reads as a list of truths. -/
structure Reads (w : World) (a : Option Addr) (n : Nat) (bs : List Bool) : Prop where
  len : bs.length = n
  cells : n = 0 ∨ ∃ g o, a = some ⟨g, o, none⟩ ∧ g < w.heap.size ∧ ∀ i, i < n → w.cell? ⟨g, o + i, none⟩ = some (.bool (bs.getD i false))

theorem Reads.below {w w' : World} {a : Option Addr} {n B : Nat} {bs : List Bool} (h : Reads w a n bs) (hb : Below B w w') (hB : w.heap.size ≤ B) : Reads w' a n bs := by
  obtain ⟨hl, hc⟩ := h
  refine ⟨hl, ?_⟩
  rcases hc with hc | ⟨g, o, ha, hg, hc⟩
  · exact .inl hc
  · exact .inr ⟨g, o, ha, by have := hb.size; omega, fun i hi => (hb.cell (p := ⟨g, o + i, none⟩) (by exact Nat.lt_of_lt_of_le hg hB)).trans (hc i hi)⟩

theorem reads_own2 {w : World} {base c n : Nat} {a : Option Addr} {l : List Bool} (h : w.ownsRow base 4 1 (.slice a n c) n (l.map Value.bool)) (hn : l.length = n) : Reads w a n l := by
  obtain ⟨h1, h2⟩ := h
  refine ⟨hn, ?_⟩
  rcases h2 with ⟨hv, h0⟩ | ⟨g, cap, cur, hv, hg, hh, hn', hm, hs, ht⟩
  · exact .inl h0
  · right
    injection hv with ha hn2 hc
    subst ha
    have hlt : g < w.heap.size := by
      rcases Nat.lt_or_ge g w.heap.size with h | h
      · exact h
      · rw [Array.getElem?_eq_none h] at hh; cases hh
    refine ⟨g, 0, rfl, hlt, fun i hi => ?_⟩
    have e : cur[i]? = some (.bool (l.getD i false)) := by
      rw [← Array.getElem?_toList]
      have : (cur.toList.take (n * 1))[i]? = (l.map Value.bool)[i]? := by rw [ht]
      rw [List.getElem?_take_of_lt (by omega)] at this
      rw [this, List.getElem?_map, List.getElem?_eq_getElem (by omega), List.getD_eq_getElem?_getD, List.getElem?_eq_getElem (by omega)]
      rfl
    simp only [Nat.zero_add, World.cell?, hh]
    exact e
theorem reads_own {w : World} {base c n : Nat} {a : Option Addr} {l : List UInt8} (h : w.ownsRow base 4 1 (.slice a n c) n (bits l)) (hn : l.length = n) : Reads w a n (sb l) := by
  obtain ⟨h1, h2⟩ := h
  refine ⟨by rw [sb_length]; exact hn, ?_⟩
  rcases h2 with ⟨hv, h0⟩ | ⟨g, cap, cur, hv, hg, hh, hn', hm, hs, ht⟩
  · exact .inl h0
  · right
    injection hv with ha hn2 hc
    subst ha
    have hlt : g < w.heap.size := by
      rcases Nat.lt_or_ge g w.heap.size with h | h
      · exact h
      · rw [Array.getElem?_eq_none h] at hh; cases hh
    refine ⟨g, 0, rfl, hlt, fun i hi => ?_⟩
    have e : cur[i]? = some (.bool ((sb l).getD i false)) := by
      rw [← Array.getElem?_toList]
      have : (cur.toList.take (n * 1))[i]? = (bits l)[i]? := by rw [ht]
      rw [List.getElem?_take_of_lt (by omega)] at this
      rw [this, bits_sb, List.getElem?_map, List.getElem?_eq_getElem (by rw [sb_length]; omega), List.getD_eq_getElem?_getD, List.getElem?_eq_getElem (by rw [sb_length]; omega)]
      rfl
    simp only [Nat.zero_add, World.cell?, hh]
    exact e

set_option maxHeartbeats 400000 in
theorem l1Has_any (a1 a2 : Option Addr) (n1 c1 n2 c2 : Nat) (t r : List Bool) (k : Nat) (w : World) (h1 : Reads w a1 n1 t) (h2 : Reads w a2 n2 r) (hn1 : n1 ≤ 1048576) (hn2 : n2 ≤ 1048576) (hn0 : 0 < n2) (hk : k ≤ 9223372036854775807) :
    Calls Try.prog 57 #[.agg #[.slice a1 n1 c1, .slice a2 n2 c2], .int .i64 k] w fun e w' =>
      e = .returned (.bool (hasB t r k)) ∧ Below w.heap.size w w' := by
  by_cases hlt : k < n1
  · have H := Lib.hid (hasB_tail t r k (by rw [h1.len]; exact hlt))
    rcases h1.cells with h | ⟨g, o, rfl, hg, hc⟩
    · omega
    · have hc' : ∀ ob, (w.alloc ob).cell? ⟨g, o + k, none⟩ = some (.bool (t.getD k false)) := fun ob => by rw [World.cell?_alloc_past _ _ _ hg]; exact hc k hlt
      clear hc h1 h2
      go_enter Try.func57, Try.ntmps57
      go_wp2
      go_ret
      exact ⟨ret_bool H.out.symm, (Below.refl _ _).alloc (Nat.le_refl _) _⟩
  · obtain ⟨j, rfl⟩ : ∃ j, k = n1 + j := ⟨k - n1, by omega⟩
    have H : Hid (hasB t r (n1 + j) = r.getD (j % n2) false) := by
      refine Lib.hid ?_
      rw [← h1.len, hasB_ring, h2.len]
    have hj : j % n2 < n2 := Nat.mod_lt _ hn0
    rcases h2.cells with h | ⟨g, o, rfl, hg, hc⟩
    · omega
    · have hc' : ∀ ob, (w.alloc ob).cell? ⟨g, o + j % n2, none⟩ = some (.bool (r.getD (j % n2) false)) := fun ob => by rw [World.cell?_alloc_past _ _ _ hg]; exact hc _ hj
      clear hc h1 h2
      go_enter Try.func57, Try.ntmps57
      go_wp2
      have hE : ¬ n2 = 0 := by omega
      have hw5 : ((j : Int) % (n2 : Int)) < (n2 : Int) := by omega
      have hw6 : (0 : Int) ≤ ((j : Int) % (n2 : Int)) := by omega
      have hw7 : ((j : Int) % (n2 : Int)).toNat = j % n2 := rfl
      have hw1 : IntKind.i64.wrap ((n1 : Int) + (j : Int) - (n1 : Int)) = (j : Int) := by rw [IntWalk.i64_in _ (by omega)]; omega
      go_quiet (fail)
      go_wp2
      go_ret
      exact ⟨ret_bool H.out.symm, below_drewN ((Below.refl _ _).alloc (Nat.le_refl _) _) _⟩
end Go.Proofs.Ytndpkmgjmpfgdaa
