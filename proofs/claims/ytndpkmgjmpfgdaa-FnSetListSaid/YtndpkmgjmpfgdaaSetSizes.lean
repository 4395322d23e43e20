/-
  The walks of SetSizes, of the program, of the model, and of the law that holds them against each other.
-/
import Derived.Test.YtndpkmgjmpfgdaaLess
import Derived.Test.YtndpkmgjmpfgdaaRing
import Derived.Deep.WholeRow
namespace Go.Proofs.Ytndpkmgjmpfgdaa
open Go.RowKit

theorem own_cap {w : World} {base n c : Nat} {e : TypeId} {a : Option Addr} {xs : List Value} (h : w.ownsRow base e 1 (.slice a n c) n xs) : n ≤ c ∧ c ≤ maxLen := by
  rcases h.2 with ⟨hv, h0⟩ | ⟨g, cap, cur, hv, _, _, hn, hm, _⟩
  · injection hv with _ _ hc
    subst hc; exact ⟨by omega, Nat.zero_le _⟩
  · injection hv with _ _ hc
    subst hc; exact ⟨hn, hm⟩
theorem fS_eq (s : ByteArray) : fS s = hasB (setT s) (setR s) := rfl

theorem read_less (s : ByteArray) (w : World) (hs : s.size ≤ 1048576) (hok : okS s = true) :
    Calls Try.prog 52 #[.string s] w fun e w' =>
      ∃ a1 n1 c1 a2 n2 c2, e = .returned (.tuple #[.agg #[.slice a1 n1 c1, .slice a2 n2 c2], .bool true]) ∧ Below w.heap.size w w' ∧ LessIn w' (setT s) (setR s) a1 n1 c1 a2 n2 c2 := by
  have hok' : setOk s.data.toList = true := hok
  refine (read_yes s w hs hok').mono ?_
  rintro e w' ⟨a1, c1, a2, c2, rfl, hb, h1, h2⟩
  exact ⟨_, _, _, _, _, _, rfl, hb, reads_own h1 rfl, reads_own h2 rfl, (own_cap h1).1, (own_cap h2).1, (own_cap h1).2, (own_cap h2).2, tail_le hok', ring_le hok', ring_pos hok'⟩

/-- l1Less on a set text. -/
theorem less_on (s : ByteArray) (a1 : Option Addr) (n1 c1 : Nat) (a2 : Option Addr) (n2 c2 : Nat) (w : World) (h : LessIn w (setT s) (setR s) a1 n1 c1 a2 n2 c2) :
    Calls Try.prog 60 #[.agg #[.slice a1 n1 c1, .slice a2 n2 c2]] w (LessPost (fS s) w) := less_any _ (setT s) (setR s) a1 n1 c1 a2 n2 c2 w rfl h

/-- The sizes of the tidy tail and ring of a set text. -/
def SizesOf (s : ByteArray) (m q : Nat) : Prop := Tidy (fS s) m q ∧ m ≤ 60 ∧ q ≤ 60

set_option maxHeartbeats 400000 in
theorem specSizes_off (s : ByteArray) (w : World) (hs : s.size ≤ 1048576) (h : okS s = false) :
    Calls Try.prog 32 #[.string s] w fun e w' => e = .returned (.tuple #[.int .i64 0, .int .i64 0, .bool false]) ∧ Below w.heap.size w w' := by
  go_enter Try.func32, Try.ntmps32
  go_wp2_with fail
  refine (read_off s _ hs h).mono ?_
  rintro e w1 ⟨a1, n1, c1, a2, n2, c2, rfl, hb⟩
  go_wp2
  go_ret3
  exact ⟨rfl, hb.alloc hb.size _⟩

set_option maxHeartbeats 400000 in
theorem specSizes_on (s : ByteArray) (w : World) (hs : s.size ≤ 1048576) (h : okS s = true) :
    Calls Try.prog 32 #[.string s] w fun e w' => ∃ m q : Nat, e = .returned (.tuple #[.int .i64 m, .int .i64 q, .bool true]) ∧ SizesOf s m q ∧ Below w.heap.size w w' := by
  go_enter Try.func32, Try.ntmps32
  go_wp2_with fail
  refine (read_less s _ hs h).mono ?_
  rintro e w1 ⟨a1, n1, c1, a2, n2, c2, rfl, hb, hin⟩
  have HIn := Lib.hid (hin.below (B := w1.heap.size) ((Below.refl _ _).alloc (Nat.le_refl _) (.cells #[.slice a1 n1 c1, .slice a2 n2 c2] 53)) (Nat.le_refl _))
  clear hin
  go_wp2_with fail
  refine (less_on s a1 n1 c1 a2 n2 c2 _ HIn.out).mono ?_
  rintro e w2 ⟨b1, m, e1, b2, q, e2, rfl, hb2, hout⟩
  have HO : Hid (SizesOf s m q) := Lib.hid ⟨hout.tidy, hout.lies.le1, hout.lies.le2⟩
  have HB := Lib.hid (below_second hb hb2)
  clear hout hb hb2
  go_wp2
  go_quiet (fail)
  go_wp2
  go_ret3
  exact ⟨m, q, rfl, HO.out, below_drewN (HB.out _) _⟩

set_option maxHeartbeats 400000 in
theorem implSizes_off (s : ByteArray) (m : Int) (w : World) (hs : s.size ≤ 1048576) (hL : LibAt m w) (h : okS s = false) :
    Calls Try.prog 31 #[.string s] w fun e w' => e = .returned (.tuple #[.int .i64 0, .int .i64 0, .bool false]) ∧ Below w.heap.size w w' := by
  go_enter Try.func31, Try.ntmps31
  go_wp2_with fail
  refine (split_off s m _ hs hL h).mono ?_
  rintro e w1 ⟨rfl, hb⟩
  go_wp2
  go_ret3
  exact ⟨rfl, hb.alloc hb.size _⟩

set_option maxRecDepth 100000 in
set_option maxHeartbeats 1000000 in
theorem implSizes_on (s : ByteArray) (m q : Nat) (g : Int) (w : World) (hs : s.size ≤ 1048576) (hL : LibAt g w) (h : okS s = true) (hT : SizesOf s m q) :
    Calls Try.prog 31 #[.string s] w fun e w' => e = .returned (.tuple #[.int .i64 m, .int .i64 q, .bool true]) ∧ Below w.heap.size w w' := by
  have H := Lib.hid hT
  clear hT
  go_enter Try.func31, Try.ntmps31
  go_wp2_with fail
  refine (split_on s g _ hs hL h).mono ?_
  rintro e w1 ⟨T, R, rfl, hb, hsp⟩
  go_wp2_with fail
  refine (first_any s T R _ hsp).mono ?_
  rintro e w2 ⟨rfl, hb2⟩
  have HB := Lib.hid (box_below hb hb2)
  clear hb hb2
  go_wp2_with (first
    | (refine wpList_store_row rfl 57 _ _ rfl w2.heap.size (firstV (fS s)) rfl rfl 57 Try.zeroCells57 (heap_alloc_new w2 _) (by rw [firstV_size]; exact Try.infoFirst) (by rw [firstV_size]; exact zeroFirst_size) (firstV_one _) ?_; rw [World.setRow_alloc_new])
    | (refine wpList_load_row rfl 57 _ rfl w2.heap.size rfl 57 (firstV (fS s)) (0, 0) _ (heap_alloc_new w2 _) Try.underlying57 rfl (by rw [firstV_size]; exact Try.infoFirst) ?_))
  refine (ringSize_any (fS s) m q _ H.out.1 H.out.2.1 H.out.2.2).mono ?_
  rintro e w3 ⟨rfl, hb3⟩
  have HR : Hid (w3.heap[w2.heap.size]? = some (.cells (firstV (fS s)) 57 (0, 0))) := Lib.hid ((hb3.block w2.heap.size (by simp)).trans (heap_alloc_new w2 _))
  have HB3 := Lib.hid ((HB.out.alloc HB.out.size _).trans (hb3.mono (by have := HB.out.size; simp; omega)))
  clear hb3
  go_wp2_with (refine wpList_load_row rfl 57 _ rfl w2.heap.size rfl 57 (firstV (fS s)) (0, 0) _ HR.out Try.underlying57 rfl (by rw [firstV_size]; exact Try.infoFirst) ?_)
  refine (tailSize_any (fS s) m q _ H.out.1 H.out.2.1 H.out.2.2).mono ?_
  rintro e w4 ⟨rfl, hb4⟩
  go_wp2
  go_ret3
  exact ⟨rfl, HB3.out.trans (hb4.mono HB3.out.size)⟩

end Go.Proofs.Ytndpkmgjmpfgdaa
