/-
  A set text as a tail and a ring of truths; and plain facts on worlds.
-/
import Derived.Test.YtojjfkabepkhdaaHasMath
import Derived.OpenShut
namespace Go.Proofs.Ytojjfkabepkhdaa
open Go.RowKit

theorem lt_of_some {w : World} {b o : Nat} {v : Value} (h : w.cell? ⟨b, o, none⟩ = some v) : b < w.heap.size := by
  rcases Nat.lt_or_ge b w.heap.size with k | k
  · exact k
  · simp [World.cell?, Array.getElem?_eq_none k] at h

theorem box_later {w1 wr : World} {u v : Value} {T : TypeId} (hB : Below (w1.alloc (.cells #[u, v] T)).heap.size (w1.alloc (.cells #[u, v] T)) wr) :
    wr.cell? ⟨w1.heap.size, 0, none⟩ = some u ∧ wr.cell? ⟨w1.heap.size, 1, none⟩ = some v := by
  have h : w1.heap.size < (w1.alloc (.cells #[u, v] T)).heap.size := by simp
  refine ⟨(hB.cell (p := ⟨w1.heap.size, 0, none⟩) h).trans ?_, (hB.cell (p := ⟨w1.heap.size, 1, none⟩) h).trans ?_⟩
  · rw [World.cell?_alloc_at _ _ _ _ rfl]; rfl
  · rw [World.cell?_alloc_at _ _ _ _ rfl]; rfl

theorem box_below {w w1 : World} (hb : Below w.heap.size w w1) {wr : World} {o : Obj} (hB : Below (w1.alloc o).heap.size (w1.alloc o) wr) : Below w.heap.size w wr :=
  (hb.alloc hb.size o).trans (hB.mono (by have := hb.size; simp; omega))

theorem below_second {w w1 w2 : World} {o : Obj} (hb : Below w.heap.size w w1) (hb2 : Below (w1.alloc o).heap.size (w1.alloc o) w2) (o2 : Obj) : Below w.heap.size w (w2.alloc o2) := by
  have h := box_below hb hb2
  exact h.alloc h.size o2

theorem max_pair (a b : Nat) : max (a : Int) (b : Int) = ((max a b : Nat) : Int) := by omega

/-- Both boxes, later. -/
theorem boxes_later {w1 w2 wr : World} {u v x y : Value} {T T2 : TypeId} (hb : Below (w1.alloc (.cells #[u, v] T)).heap.size (w1.alloc (.cells #[u, v] T)) w2)
    (hB : Below (w2.alloc (.cells #[x, y] T2)).heap.size (w2.alloc (.cells #[x, y] T2)) wr) :
    (wr.cell? ⟨w1.heap.size, 0, none⟩ = some u ∧ wr.cell? ⟨w1.heap.size, 1, none⟩ = some v) ∧ (wr.cell? ⟨w2.heap.size, 0, none⟩ = some x ∧ wr.cell? ⟨w2.heap.size, 1, none⟩ = some y) := by
  have hs := hb.size
  exact ⟨box_later ((hb.alloc hb.size _).trans (hB.mono (by simp at hs ⊢; omega))), box_later hB⟩

theorem ret_ints {a b a' b' : Int} (h : a = a') (h2 : b = b') : Ending.returned (.tuple #[.int .i64 a, .int .i64 b]) = .returned (.tuple #[.int .i64 a', .int .i64 b']) := by rw [h, h2]

theorem ret_int {a b : Int} (h : a = b) : Ending.returned (.int .i64 a) = .returned (.int .i64 b) := by rw [h]

/-- Somebody else's cells are there yet: what a loop over a builder of the call's own keeps. -/
theorem Reads.later {w wr : World} {B : Nat} {a : Option Addr} {n : Nat} {bs : List Bool} (h : Reads w a n bs) (hb : Below B w wr) (hB : w.heap.size ≤ B) : Reads wr a n bs := h.below hb hB

theorem own_cap {w : World} {base n c : Nat} {e : TypeId} {a : Option Addr} {xs : List Value} (h : w.ownsRow base e 1 (.slice a n c) n xs) : n ≤ c ∧ c ≤ maxLen := by
  rcases h.2 with ⟨hv, h0⟩ | ⟨g, cap, cur, hv, _, _, hn, hm, _⟩
  · injection hv with _ _ hc
    subst hc; exact ⟨by omega, Nat.zero_le _⟩
  · injection hv with _ _ hc
    subst hc; exact ⟨hn, hm⟩

def setT (s : ByteArray) : List Bool := sb (setTail s.data.toList)

def setR (s : ByteArray) : List Bool := sb (setRing s.data.toList)

/-- Is s a set text? -/
def okS (s : ByteArray) : Bool := setOk s.data.toList

theorem setT_le {s : ByteArray} (h : okS s = true) : (setT s).length ≤ 60 := by unfold setT; rw [sb_length]; exact tail_le h

theorem setR_le {s : ByteArray} (h : okS s = true) : (setR s).length ≤ 60 := by unfold setR; rw [sb_length]; exact ring_le h

theorem setR_pos {s : ByteArray} (h : okS s = true) : 0 < (setR s).length := by unfold setR; rw [sb_length]; exact ring_pos h

/-- The model's reading of a text. -/
structure IsRead (w : World) (s : ByteArray) (a1 : Option Addr) (n1 : Nat) (a2 : Option Addr) (n2 : Nat) : Prop where
  tail : Reads w a1 n1 (setT s)
  ring : Reads w a2 n2 (setR s)
  tailLe : n1 ≤ 60
  ringLe : n2 ≤ 60
  ringPos : 0 < n2

theorem IsRead.below {w w' : World} {s : ByteArray} {a1 a2 : Option Addr} {n1 n2 B : Nat} (h : IsRead w s a1 n1 a2 n2) (hb : Below B w w') (hB : w.heap.size ≤ B) : IsRead w' s a1 n1 a2 n2 :=
  ⟨h.tail.below hb hB, h.ring.below hb hB, h.tailLe, h.ringLe, h.ringPos⟩

theorem IsRead.alloc {w : World} {s : ByteArray} {a1 a2 : Option Addr} {n1 n2 : Nat} (h : IsRead w s a1 n1 a2 n2) (o : Obj) : IsRead (w.alloc o) s a1 n1 a2 n2 :=
  h.below ((Below.refl _ _).alloc (Nat.le_refl _) o) (Nat.le_refl _)

/-- The truths of a set text. -/
def fS (s : ByteArray) (n : Nat) : Bool := hasB (setT s) (setR s) n

theorem fS_eq (s : ByteArray) : fS s = hasB (setT s) (setR s) := rfl

end Go.Proofs.Ytojjfkabepkhdaa
