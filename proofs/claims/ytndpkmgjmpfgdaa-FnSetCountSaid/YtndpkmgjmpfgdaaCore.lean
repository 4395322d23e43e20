/-
  How a set text is read, by the program and by the model, in one form: a tail and a ring of truths.
-/
import Derived.Test.YtndpkmgjmpfgdaaRead
import Derived.Test.YtndpkmgjmpfgdaaSplit
import Derived.Test.YtndpkmgjmpfgdaaHas
import Derived.OpenShut
namespace Go.Proofs.Ytndpkmgjmpfgdaa
open Go.RowKit

theorem lt_of_some {w : World} {b o : Nat} {v : Value} (h : w.cell? ⟨b, o, none⟩ = some v) : b < w.heap.size := by
  rcases Nat.lt_or_ge b w.heap.size with k | k
  · exact k
  · simp [World.cell?, Array.getElem?_eq_none k] at h

/-- The cell of internal/bytealg.MaxLen, which strings.Cut reads. -/
structure LibAt (m : Int) (w : World) : Prop where
  lt : 0 < w.heap.size
  cell : w.cell? ⟨0, 0, none⟩ = some (.int .i64 m)
theorem LibAt.below {m : Int} {w w' : World} (h : LibAt m w) (hb : Below w.heap.size w w') : LibAt m w' :=
  ⟨Nat.lt_of_lt_of_le h.lt hb.size, (hb.cell (p := ⟨0, 0, none⟩) h.lt).trans h.cell⟩

def setT (s : ByteArray) : List Bool := sb (setTail s.data.toList)
def setR (s : ByteArray) : List Bool := sb (setRing s.data.toList)
/-- Is s a set text? -/
def okS (s : ByteArray) : Bool := setOk s.data.toList
theorem setT_le {s : ByteArray} (h : okS s = true) : (setT s).length ≤ 60 := by unfold setT; rw [sb_length]; exact tail_le h
theorem setR_le {s : ByteArray} (h : okS s = true) : (setR s).length ≤ 60 := by unfold setR; rw [sb_length]; exact ring_le h
theorem setR_pos {s : ByteArray} (h : okS s = true) : 0 < (setR s).length := by unfold setR; rw [sb_length]; exact ring_pos h

/-- The program's parts of a text. -/
structure IsSplit (s T R : ByteArray) : Prop where
  tail : sb T.data.toList = setT s
  ring : sb R.data.toList = setR s
  tailLe : T.size ≤ 60
  ringLe : R.size ≤ 60
  ringPos : 0 < R.size
  ringText : R.data.toList = setRing s.data.toList
theorem IsSplit.tailLen {s T R : ByteArray} (h : IsSplit s T R) : (setT s).length = T.size := by rw [← h.tail, sb_length, size_eq]
theorem IsSplit.ringLen {s T R : ByteArray} (h : IsSplit s T R) : (setR s).length = R.size := by rw [← h.ring, sb_length, size_eq]

theorem split_on (s : ByteArray) (m : Int) (w : World) (hs : s.size ≤ 1048576) (hL : LibAt m w) (hok : okS s = true) :
    Calls Try.prog 51 #[.string s] w fun e w' =>
      ∃ T R, e = .returned (.tuple #[.agg #[.string T, .string R], .bool true]) ∧ Below w.heap.size w w' ∧ IsSplit s T R := by
  have hok' : setOk s.data.toList = true := hok
  refine (split_any s m w hs hL.lt hL.cell).mono ?_
  rintro e w' ⟨rfl, hb⟩
  refine ⟨⟨(setTail s.data.toList).toArray⟩, ⟨(setRing s.data.toList).toArray⟩, by unfold splitVal; rw [hok', if_pos rfl], hb, rfl, rfl, ?_, ?_, ?_, rfl⟩
  · exact tail_le hok'
  · exact ring_le hok'
  · exact ring_pos hok'
theorem split_off (s : ByteArray) (m : Int) (w : World) (hs : s.size ≤ 1048576) (hL : LibAt m w) (hok : okS s = false) :
    Calls Try.prog 51 #[.string s] w fun e w' =>
      e = .returned (.tuple #[.agg #[.string ⟨#[]⟩, .string ⟨#[]⟩], .bool false]) ∧ Below w.heap.size w w' := by
  have hok' : setOk s.data.toList = false := hok
  refine (split_any s m w hs hL.lt hL.cell).mono ?_
  rintro e w' ⟨rfl, hb⟩
  exact ⟨by unfold splitVal; rw [hok']; rfl, hb⟩
theorem has_on (s T R : ByteArray) (n : Int) (w : World) (h : IsSplit s T R) (hn : n ≤ 9223372036854775807) :
    Calls Try.prog 56 #[.agg #[.string T, .string R], .int .i64 n] w fun e w' =>
      e = .returned (.bool (hasI (setT s) (setR s) n)) ∧ Below w.heap.size w w' := by
  have := has_any T R n w h.tailLe h.ringLe h.ringPos hn
  rw [h.tail, h.ring] at this
  exact this

/-- The model's reading of a text. -/
structure IsRead (w : World) (s : ByteArray) (a1 : Option Addr) (n1 : Nat) (a2 : Option Addr) (n2 : Nat) : Prop where
  tail : Reads w a1 n1 (setT s)
  ring : Reads w a2 n2 (setR s)
  tailLe : n1 ≤ 60
  ringLe : n2 ≤ 60
  ringPos : 0 < n2
theorem IsRead.below {w w' : World} {s : ByteArray} {a1 a2 : Option Addr} {n1 n2 B : Nat} (h : IsRead w s a1 n1 a2 n2) (hb : Below B w w') (hB : w.heap.size ≤ B) : IsRead w' s a1 n1 a2 n2 :=
  ⟨h.tail.below hb hB, h.ring.below hb hB, h.tailLe, h.ringLe, h.ringPos⟩
theorem IsRead.alloc {w : World} {s : ByteArray} {a1 a2 : Option Addr} {n1 n2 : Nat} (h : IsRead w s a1 n1 a2 n2) (o : Obj) : IsRead (w.alloc o) s a1 n1 a2 n2 :=
  h.below ((Below.refl _ _).alloc (Nat.le_refl _) o) (Nat.le_refl _)

theorem read_on (s : ByteArray) (w : World) (hs : s.size ≤ 1048576) (hok : okS s = true) :
    Calls Try.prog 52 #[.string s] w fun e w' =>
      ∃ a1 n1 c1 a2 n2 c2, e = .returned (.tuple #[.agg #[.slice a1 n1 c1, .slice a2 n2 c2], .bool true]) ∧ Below w.heap.size w w' ∧ IsRead w' s a1 n1 a2 n2 := by
  have hok' : setOk s.data.toList = true := hok
  refine (read_yes s w hs hok').mono ?_
  rintro e w' ⟨a1, c1, a2, c2, rfl, hb, h1, h2⟩
  exact ⟨_, _, _, _, _, _, rfl, hb, reads_own h1 rfl, reads_own h2 rfl, tail_le hok', ring_le hok', ring_pos hok'⟩
theorem read_off (s : ByteArray) (w : World) (hs : s.size ≤ 1048576) (hok : okS s = false) :
    Calls Try.prog 52 #[.string s] w fun e w' =>
      ∃ a1 n1 c1 a2 n2 c2, e = .returned (.tuple #[.agg #[.slice a1 n1 c1, .slice a2 n2 c2], .bool false]) ∧ Below w.heap.size w w' := read_no s w hs hok
theorem l1Has_on (s : ByteArray) (a1 a2 : Option Addr) (n1 c1 n2 c2 k : Nat) (w : World) (h : IsRead w s a1 n1 a2 n2) (hk : k ≤ 9223372036854775807) :
    Calls Try.prog 57 #[.agg #[.slice a1 n1 c1, .slice a2 n2 c2], .int .i64 k] w fun e w' =>
      e = .returned (.bool (hasI (setT s) (setR s) k)) ∧ Below w.heap.size w w' := by
  rw [hasI_nat]
  exact l1Has_any a1 a2 n1 c1 n2 c2 _ _ k w h.tail h.ring (by have := h.tailLe; omega) (by have := h.ringLe; omega) h.ringPos hk
end Go.Proofs.Ytndpkmgjmpfgdaa
