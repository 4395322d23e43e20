/-
  The walks of the laws' own helpers on slices of integers: eqIntS, markIntS, heldIntS.
-/
import Derived.Test.YtojjfkabepkhdaaHasMath
import Derived.Deep.QuietTactic
import Derived.BigQuiet
namespace Go.Proofs.Ytojjfkabepkhdaa
open Go.RowKit

theorem Try.infoInt : (Try.prog.info? 3).map (fun i => (i.zero, i.size, i.bytes)) = some (some (.int .i64 0), 1, 8) := by kernel_rfl

def ints (l : List Int) : List Value := l.map (Value.int .i64)
theorem ints_length (l : List Int) : (ints l).length = l.length := by simp [ints]

/-- A slice reads as a list of integers. -/
structure ReadsI (w : World) (a : Option Addr) (n : Nat) (zs : List Int) : Prop where
  len : zs.length = n
  cells : n = 0 ∨ ∃ g o, a = some ⟨g, o, none⟩ ∧ g < w.heap.size ∧ ∀ i, i < n → w.cell? ⟨g, o + i, none⟩ = some (.int .i64 (zs.getD i 0))

theorem ReadsI.below {w w' : World} {a : Option Addr} {n B : Nat} {zs : List Int} (h : ReadsI w a n zs) (hb : Below B w w') (hB : w.heap.size ≤ B) : ReadsI w' a n zs := by
  obtain ⟨hl, hc⟩ := h
  refine ⟨hl, ?_⟩
  rcases hc with hc | ⟨g, o, ha, hg, hc⟩
  · exact .inl hc
  · exact .inr ⟨g, o, ha, by have := hb.size; omega, fun i hi => (hb.cell (p := ⟨g, o + i, none⟩) (by exact Nat.lt_of_lt_of_le hg hB)).trans (hc i hi)⟩

theorem readsI_own {w : World} {base c n : Nat} {a : Option Addr} {zs : List Int} (h : w.ownsRow base 3 1 (.slice a n c) n (ints zs)) : ReadsI w a n zs := by
  obtain ⟨h1, h2⟩ := h
  rw [ints_length, Nat.mul_one] at h1
  refine ⟨h1, ?_⟩
  rcases h2 with ⟨hv, h0⟩ | ⟨g, cap, cur, hv, hg, hh, hn', hm, hs, ht⟩
  · exact .inl h0
  · right
    injection hv with ha hn2 hc
    subst ha
    have hlt : g < w.heap.size := by
      rcases Nat.lt_or_ge g w.heap.size with h | h
      · exact h
      · rw [Array.getElem?_eq_none h] at hh; cases hh
    refine ⟨g, 0, rfl, hlt, fun i hi => ?_⟩
    have e : cur[i]? = some (.int .i64 (zs.getD i 0)) := by
      rw [← Array.getElem?_toList]
      have : (cur.toList.take (n * 1))[i]? = (ints zs)[i]? := by rw [ht]
      rw [List.getElem?_take_of_lt (by omega)] at this
      rw [this]
      unfold ints
      rw [List.getElem?_map, List.getElem?_eq_getElem (by omega), List.getD_eq_getElem?_getD, List.getElem?_eq_getElem (by omega)]
      rfl
    simp only [Nat.zero_add, World.cell?, hh]
    exact e

theorem readsI_drewN {w : World} {a : Option Addr} {n : Nat} {zs : List Int} (h : ReadsI w a n zs) (k : Nat) : ReadsI (w.drewN k) a n zs :=
  h.below (below_drewN (Below.refl _ _) k) (Nat.le_refl _)
theorem own_drewN {w : World} {base size n : Nat} {e : TypeId} {v : Value} {xs : List Value} (h : w.ownsRow base e size v n xs) (k : Nat) : (w.drewN k).ownsRow base e size v n xs :=
  own_below h (below_drewN (Below.refl _ _) k) (Nat.le_refl _)

end Go.Proofs.Ytojjfkabepkhdaa
