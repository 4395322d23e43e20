/-
  What RowsMeet answers, as a plain fact; rows of the call's own.
-/
import Derived.Test.YtdcedkjoligekaaRowMath
import Derived.Test.YtdcedkjoligekaaInts
namespace Go.Proofs.Ytdcedkjoligekaa
open Go.RowKit
set_option linter.unusedVariables false

/-- The row of what two rows have in common, where it is one. -/
def MeetYes (z t : List Int) (m : Nat) : Prop := goodRow z = true ∧ goodRow t = true ∧ Least (theRow z) (theRow t) m ∧ m ≤ 59 ∧ stepOf (theRow z) (theRow t) ≤ 60
def MeetAns (z t : List Int) (l : List Int) (b : Bool) : Prop :=
  (b = true ∧ ∃ m, MeetYes z t m ∧ l = [(m : Int), ((stepOf (theRow z) (theRow t) : Nat) : Int)]) ∨ (b = false ∧ l = [] ∧ ∀ m, ¬ MeetYes z t m)

theorem meetAns_unique {z t l l' : List Int} {b b' : Bool} (h : MeetAns z t l b) (k : MeetAns z t l' b') : l = l' ∧ b = b' := by
  rcases h with ⟨rfl, m, hm, rfl⟩ | ⟨rfl, rfl, hn⟩ <;> rcases k with ⟨rfl, m', hm', rfl⟩ | ⟨rfl, rfl, hn'⟩
  · obtain rfl := least_one hm.2.2.1 hm'.2.2.1
    exact ⟨rfl, rfl⟩
  · exact (hn' _ hm).elim
  · exact (hn _ hm').elim
  · exact ⟨rfl, rfl⟩
theorem meetAns_le {z t l : List Int} {b : Bool} (h : MeetAns z t l b) : l.length ≤ 2 := by
  rcases h with ⟨_, m, _, rfl⟩ | ⟨_, rfl, _⟩ <;> simp

/-- A list of the call's own, and whether it counts. -/
def IntsOut (l : List Int) (b : Bool) (w : World) (e : Ending) (w' : World) : Prop :=
  ∃ a c, e = .returned (.tuple #[.slice a l.length c, .bool b]) ∧ Below w.heap.size w w' ∧ w'.ownsRow w.heap.size 3 1 (.slice a l.length c) l.length (ints l)
theorem own_none (w : World) : (w.alloc (.cells #[] 3)).ownsRow w.heap.size 3 1 (.slice (some ⟨w.heap.size, 0, none⟩) 0 0) 0 (ints []) := by
  have h := World.ownsRow_made (base := w.heap.size) (e := 3) (size := 1) w #[] 0 (Nat.le_refl _) (by decide) rfl
  exact h
theorem own_pair (w : World) (x y : Int) : (w.alloc (.cells #[.int .i64 x, .int .i64 y] 3)).ownsRow w.heap.size 3 1 (.slice (some ⟨w.heap.size, 0, none⟩) 2 2) 2 (ints [x, y]) := by
  refine ⟨rfl, .inr ⟨w.heap.size, 2, #[.int .i64 x, .int .i64 y], rfl, Nat.le_refl _, ?_, Nat.le_refl _, by decide, rfl, rfl⟩⟩
  exact heap_alloc_new w (.cells #[.int .i64 x, .int .i64 y] 3)
theorem intsOut_none {w w1 : World} (hb : Below w.heap.size w w1) : IntsOut [] false w (.returned (.tuple #[.slice (some ⟨w1.heap.size, 0, none⟩) 0 0, .bool false])) (w1.alloc (.cells #[] 3)) :=
  ⟨_, _, rfl, hb.alloc hb.size _, own_base (own_none w1) hb.size⟩
theorem intsOut_pair {w w1 : World} (hb : Below w.heap.size w w1) (x y : Int) : IntsOut [x, y] true w (.returned (.tuple #[.slice (some ⟨w1.heap.size, 0, none⟩) 2 2, .bool true])) (w1.alloc (.cells #[.int .i64 x, .int .i64 y] 3)) :=
  ⟨_, _, rfl, hb.alloc hb.size _, own_base (own_pair w1 x y) hb.size⟩

theorem step_if {z t : List Int} : ((if (theRow z).s = 0 ∨ (theRow t).s = 0 then 0 else Nat.lcm (theRow z).s (theRow t).s : Nat)) = stepOf (theRow z) (theRow t) := rfl
theorem lcm_small {a b : Nat} (ha : a ≤ 60) (hb : b ≤ 60) : Nat.lcm a b ≤ 3600 := by
  have h1 : Nat.lcm a b ≤ a * b := by unfold Nat.lcm; exact Nat.div_le_self _ _
  have h2 : a * b ≤ 60 * 60 := Nat.mul_le_mul ha hb
  omega
end Go.Proofs.Ytdcedkjoligekaa
