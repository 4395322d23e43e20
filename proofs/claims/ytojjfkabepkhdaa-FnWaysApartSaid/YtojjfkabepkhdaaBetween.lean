/-
  The walk of impl.between; what a function's own box keeps.
-/
import Derived.Test.YtojjfkabepkhdaaHasI
import Derived.Test.YtojjfkabepkhdaaMakeMath
namespace Go.Proofs.Ytojjfkabepkhdaa
open Go.RowKit

theorem between_in (k a b : Int) (w : World) (h : inR k a b = true) :
    Calls Try.prog 53 #[.int .i64 k, .int .i64 a, .int .i64 b] w fun e w' => e = .returned (.bool true) ∧ w' = w := by
  rcases inR_cases k a b with ⟨_, h1, h2⟩ | ⟨h1, _⟩
  · clear h
    go_enter Try.func53, Try.ntmps53
    go_wp2
    go_ret
    exact ⟨rfl, rfl⟩
  · rw [h] at h1; cases h1

theorem between_out (k a b : Int) (w : World) (h : inR k a b = false) :
    Calls Try.prog 53 #[.int .i64 k, .int .i64 a, .int .i64 b] w fun e w' => e = .returned (.bool false) ∧ w' = w := by
  rcases inR_cases k a b with ⟨h1, _, _⟩ | ⟨_, h1⟩
  · rw [h] at h1; cases h1
  · clear h
    by_cases h2 : k < a
    · clear h1
      go_enter Try.func53, Try.ntmps53
      go_wp2
      go_ret
      exact ⟨rfl, rfl⟩
    · have h3 : b < k := by omega
      have h4 : decide (k ≤ b) = false := decide_eq_false (by omega)
      clear h1
      go_enter Try.func53, Try.ntmps53
      go_wp2
      go_ret
      exact ⟨rfl, rfl⟩

theorem LibAt.alloc {m : Int} {w : World} (h : LibAt m w) (o : Obj) : LibAt m (w.alloc o) := h.below ((Below.refl _ _).alloc (Nat.le_refl _) _)
/-- A box ahead of a call, and one behind it. -/
theorem below_boxed {w w1 : World} {o : Obj} (hb : Below (w.alloc o).heap.size (w.alloc o) w1) (o2 : Obj) : Below w.heap.size w (w1.alloc o2) := by
  have hs := hb.size
  simp at hs
  exact (((Below.refl _ _).alloc (Nat.le_refl _) _).trans (hb.mono (by simp))).alloc (by omega) _
theorem below_boxed2 {w w1 w2 : World} {o o2 : Obj} (hb : Below (w.alloc o).heap.size (w.alloc o) w1) (hb2 : Below (w1.alloc o2).heap.size (w1.alloc o2) w2) : Below w.heap.size w w2 :=
  (below_boxed hb o2).trans (hb2.mono (below_boxed hb o2).size)
theorem boxed_cell {w w1 : World} {v : Value} {t : TypeId} (hb : Below (w.alloc (.cells #[v] t)).heap.size (w.alloc (.cells #[v] t)) w1) (o2 : Obj) : (w1.alloc o2).cell? ⟨w.heap.size, 0, none⟩ = some v := by
  have hs := hb.size
  simp at hs
  rw [World.cell?_alloc_past _ _ _ (by show w.heap.size < w1.heap.size; omega)]
  rw [hb.cell (p := ⟨w.heap.size, 0, none⟩) (by show w.heap.size < _; simp), World.cell?_alloc_at _ _ _ _ rfl]; rfl

/-- The boxes that a closure holds: a set's parts, and a value. -/
structure HeldBoxes (T R : ByteArray) (P B : Nat) (v : Value) (w : World) : Prop where
  lP : P < w.heap.size
  lK : B < w.heap.size
  c1 : w.cell? ⟨P, 0, none⟩ = some (.string T)
  c2 : w.cell? ⟨P, 1, none⟩ = some (.string R)
  c0 : w.cell? ⟨B, 0, none⟩ = some v
theorem HeldBoxes.below {T R : ByteArray} {P B : Nat} {v : Value} {w w' : World} (h : HeldBoxes T R P B v w) (hb : Below w.heap.size w w') : HeldBoxes T R P B v w' :=
  ⟨Nat.lt_of_lt_of_le h.lP hb.size, Nat.lt_of_lt_of_le h.lK hb.size, (hb.cell (p := ⟨P, 0, none⟩) h.lP).trans h.c1, (hb.cell (p := ⟨P, 1, none⟩) h.lP).trans h.c2, (hb.cell (p := ⟨B, 0, none⟩) h.lK).trans h.c0⟩
theorem held_start {w w1 : World} {v : Value} {t : TypeId} (T R : ByteArray) (hb : Below (w.alloc (.cells #[v] t)).heap.size (w.alloc (.cells #[v] t)) w1) :
    HeldBoxes T R w1.heap.size w.heap.size v (w1.alloc (.cells #[.string T, .string R] 41)) := by
  have hs := hb.size
  simp at hs
  refine ⟨by simp, by simp; omega, ?_, ?_, boxed_cell hb _⟩
  · rw [World.cell?_alloc_at _ _ _ _ rfl]; rfl
  · rw [World.cell?_alloc_at _ _ _ _ rfl]; rfl

theorem IsSplit.round {s T R : ByteArray} (h : IsSplit s T R) (n : Nat) (hn : T.size ≤ n) : fS s (n + R.size) = fS s n := by
  rw [← h.ringLen]; exact fS_round s n (by rw [h.tailLen]; exact hn)
theorem IsSplit.rounds {s T R : ByteArray} (h : IsSplit s T R) (n k : Nat) (hn : T.size ≤ n) : fS s (n + k * R.size) = fS s n := by
  rw [← h.ringLen]; exact fS_rounds s n k (by rw [h.tailLen]; exact hn)
theorem IsSplit.up {s T R : ByteArray} (h : IsSplit s T R) (k n : Nat) (hn : T.size + k ≤ n) : upF (fS s) k (n + R.size) = upF (fS s) k n := by
  unfold upF
  rw [decide_eq_true (by omega), decide_eq_true (by omega), show n + R.size - k = n - k + R.size from by omega, h.round _ (by omega)]
theorem IsSplit.down {s T R : ByteArray} (h : IsSplit s T R) (k n : Nat) (hn : T.size ≤ n) : downF (fS s) k (n + R.size) = downF (fS s) k n := by
  unfold downF
  rw [show n + R.size + k = n + k + R.size from by omega, h.round _ (by omega)]
theorem IsSplit.over {s T R : ByteArray} (h : IsSplit s T R) (k n : Nat) (hk : 0 < k) (hn : T.size ≤ n) : overF (fS s) k (n + R.size) = overF (fS s) k n := by
  rw [← h.ringLen]; exact overF_round s k n hk (by rw [h.tailLen]; exact hn)
theorem IsSplit.every {s T R : ByteArray} (h : IsSplit s T R) (k r n : Nat) (hk : 0 < k) (hn : T.size ≤ n) : everyF (fS s) k r (n + R.size) = everyF (fS s) k r n := by
  rw [← h.ringLen]; exact everyF_round s k r n hk (by rw [h.tailLen]; exact hn)
theorem IsSplit.times {s T R : ByteArray} (h : IsSplit s T R) (k n : Nat) (hk : 0 < k) (hn : k * T.size ≤ n) : timesF (fS s) k (n + k * R.size) = timesF (fS s) k n := by
  rw [← h.ringLen]; exact timesF_round s k n hk (by rw [h.tailLen]; exact hn)

end Go.Proofs.Ytojjfkabepkhdaa
