/-
  The walk of SetSizes, of the program alone.
-/
import Derived.Test.YtiphooodijbhiaaRing
import Derived.Test.YtiphooodijbhiaaFirst
import Derived.Deep.WholeRow
namespace Go.Proofs.Ytiphooodijbhiaa
open Go.RowKit

/-- The sizes of the tidy tail and ring of a set text. -/
def SizesOf (s : ByteArray) (m q : Nat) : Prop := Tidy (fS s) m q ∧ m ≤ 60 ∧ q ≤ 60

theorem sizes_of {s : ByteArray} {m q : Nat} (h : okS s = true) (ht : Tidy (fS s) m q) : SizesOf s m q := by
  obtain ⟨a, b⟩ := tidy_le_any (t := setT s) (r := setR s) (setR_pos h) ht
  have h1 := setT_le h
  have h2 := setR_le h
  exact ⟨ht, by omega, by omega⟩

set_option maxHeartbeats 400000 in
theorem implSizes_off (s : ByteArray) (m : Int) (w : World) (hs : s.size ≤ 1048576) (hL : LibAt m w) (h : okS s = false) :
    Calls Try.prog 69 #[.string s] w fun e w' => e = .returned (.tuple #[.int .i64 0, .int .i64 0, .bool false]) ∧ Below w.heap.size w w' := by
  go_enter Try.func69, Try.ntmps69
  go_wp2_with fail
  refine (split_off s m _ hs hL h).mono ?_
  rintro e w1 ⟨rfl, hb⟩
  go_wp2
  go_ret3
  exact ⟨rfl, hb.alloc hb.size _⟩

set_option maxRecDepth 100000 in
set_option maxHeartbeats 1000000 in
theorem implSizes_on (s : ByteArray) (m q : Nat) (g : Int) (w : World) (hs : s.size ≤ 1048576) (hL : LibAt g w) (h : okS s = true) (hT : SizesOf s m q) :
    Calls Try.prog 69 #[.string s] w fun e w' => e = .returned (.tuple #[.int .i64 m, .int .i64 q, .bool true]) ∧ Below w.heap.size w w' := by
  have H := Lib.hid hT
  clear hT
  go_enter Try.func69, Try.ntmps69
  go_wp2_with fail
  refine (split_on s g _ hs hL h).mono ?_
  rintro e w1 ⟨T, R, rfl, hb, hsp⟩
  go_wp2_with fail
  refine (first_any s T R _ hsp).mono ?_
  rintro e w2 ⟨rfl, hb2⟩
  have HB := Lib.hid (box_below hb hb2)
  clear hb hb2
  go_wp2_with (first
    | (refine wpList_store_row rfl 82 _ _ rfl w2.heap.size (firstV (fS s)) rfl rfl 82 Try.zeroCells82 (heap_alloc_new w2 _) (by rw [firstV_size]; exact Try.infoFirst) (by rw [firstV_size]; exact zeroFirst_size) (firstV_one _) ?_; rw [World.setRow_alloc_new])
    | (refine wpList_load_row rfl 82 _ rfl w2.heap.size rfl 82 (firstV (fS s)) (0, 0) _ (heap_alloc_new w2 _) Try.underlying82 rfl (by rw [firstV_size]; exact Try.infoFirst) ?_))
  refine (ringSize_any (fS s) m q _ H.out.1 H.out.2.1 H.out.2.2).mono ?_
  rintro e w3 ⟨rfl, hb3⟩
  have HR : Hid (w3.heap[w2.heap.size]? = some (.cells (firstV (fS s)) 82 (0, 0))) := Lib.hid ((hb3.block w2.heap.size (by simp)).trans (heap_alloc_new w2 _))
  have HB3 := Lib.hid ((HB.out.alloc HB.out.size _).trans (hb3.mono (by have := HB.out.size; simp; omega)))
  clear hb3
  go_wp2_with (refine wpList_load_row rfl 82 _ rfl w2.heap.size rfl 82 (firstV (fS s)) (0, 0) _ HR.out Try.underlying82 rfl (by rw [firstV_size]; exact Try.infoFirst) ?_)
  refine (tailSize_any (fS s) m q _ H.out.1 H.out.2.1 H.out.2.2).mono ?_
  rintro e w4 ⟨rfl, hb4⟩
  go_wp2
  go_ret3
  exact ⟨rfl, HB3.out.trans (hb4.mono HB3.out.size)⟩

end Go.Proofs.Ytiphooodijbhiaa
