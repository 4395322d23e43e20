/-
  The walk of the program's restBy: the rest of a set by a number, as the parts of its tidy text.
-/
import Derived.Test.YtiphooodijbhiaaMakeDownI
import Derived.Test.YtiphooodijbhiaaRestMath
import Derived.Test.YtiphooodijbhiaaElse
namespace Go.Proofs.Ytiphooodijbhiaa
open Go.RowKit

theorem made_tidy {f : Nat → Bool} {m q : Nat} {T : ByteArray} {b : Bool} (h : Tidy f m q) (hm : m ≤ 60) (hq : q ≤ 60) (hM : Made f T b) : b = true ∧ T = ⟨(textOf (part f 0 m) (part f m q)).toArray⟩ := by
  rcases hM with ⟨rfl, m', q', ht, _, _, rfl⟩ | ⟨_, _, m', q', ht, hn⟩
  · obtain ⟨rfl, rfl⟩ := tidy_unique h ht
    exact ⟨rfl, rfl⟩
  · obtain ⟨rfl, rfl⟩ := tidy_unique h ht
    exact (hn ⟨hm, hq⟩).elim
theorem split_rest {f : Nat → Bool} {m q : Nat} (h : Tidy f m q) (hm : m ≤ 60) (hq : q ≤ 60) (k : Nat) :
    splitVal (textOf (part (downF f k) 0 (m - k)) (part (downF f k) (m - k) q)) = .agg #[.string (tailT f m k), .string (ringT f m q k)] ∧ setOk (textOf (part (downF f k) 0 (m - k)) (part (downF f k) (m - k) q)) = true := by
  have hT := textOf_isText (part (downF f k) 0 (m - k)) (part (downF f k) (m - k) q) (by rw [part_length]; omega) (by rw [part_length]; exact hq) (by rw [part_length]; exact h.pos)
  refine ⟨?_, text_ok hT⟩
  unfold splitVal
  rw [if_pos (text_ok hT), text_tail hT, text_ring hT]
  rfl
theorem down_made {s T : ByteArray} {m q k : Nat} {b : Bool} (ht : Tidy (fS s) m q) (hm : m ≤ 60) (hq : q ≤ 60) (hM : Made (downF (fS s) k) T b) :
    b = true ∧ T.size ≤ 1048576 ∧ splitVal T.data.toList = .agg #[.string (tailT (fS s) m k), .string (ringT (fS s) m q k)] ∧ setOk T.data.toList = true := by
  obtain ⟨rfl, rfl⟩ := made_tidy (down_tidy ht k) (by omega) hq hM
  refine ⟨rfl, ?_, split_rest ht hm hq k⟩
  rw [← size_eq]
  show (textOf (part (downF (fS s) k) 0 (m - k)) (part (downF (fS s) k) (m - k) q)).length ≤ _
  simp [textOf, signsOf_length, part_length]
  omega

theorem box_free {w1 wr : World} {xs : Array Value} {T : TypeId} (hB : Below (w1.alloc (.cells xs T)).heap.size (w1.alloc (.cells xs T)) wr) (i : Nat) : wr.frozen? ⟨w1.heap.size, i, none⟩ = false := by
  have h1 : wr.heap[w1.heap.size]? = some (.cells xs T (0, 0)) := (hB.block _ (by simp)).trans (heap_alloc_new w1 _)
  exact frozen_of_row wr _ _ _ _ h1

set_option maxHeartbeats 1000000 in
theorem restBy_on (s : ByteArray) (k m q : Nat) (m0 : Int) (w : World) (hs : s.size ≤ 1048576) (hL : LibAt m0 w) (ho : okS s = true) (ht : Tidy (fS s) m q) (hm : m ≤ 60) (hq : q ≤ 60) (hk : k ≤ 1000) :
    Calls Try.prog 129 #[.string s, .int .i64 k] w fun e w' =>
      e = .returned (.tuple #[.agg #[.string (tailT (fS s) m k), .string (ringT (fS s) m q k)], .bool true]) ∧ Below w.heap.size w w' := by
  have hd := implDown_on s k m0 (w.alloc (.cells #[.string ⟨#[]⟩, .string ⟨#[]⟩] 84)) hs (hL.alloc _) ho hk
  have HL := Lib.hid hL
  clear hL
  go_enter Try.func129, Try.ntmps129
  go_wp2_with fail
  refine hd.mono ?_
  rintro e w1 ⟨⟨T, b, rfl, hM⟩, hb⟩
  obtain ⟨rfl, hT, hv, hv2⟩ := down_made ht hm hq (hM.1 rfl)
  have hcall := split_any T m0 w1 hT (((HL.out.alloc _).below hb)).lt (((HL.out.alloc _).below hb)).cell
  rw [hv, hv2] at hcall
  have HB := Lib.hid (((Below.refl w.heap.size w).alloc (Nat.le_refl _) (.cells #[.string ⟨#[]⟩, .string ⟨#[]⟩] 84)).trans (hb.mono (by simp)))
  have HBX := Lib.hid hb
  clear hM hb hd hv hv2
  go_wp2_with fail
  refine hcall.mono ?_
  rintro e w2 ⟨rfl, hb2⟩
  have HB2 := Lib.hid (HB.out.trans (hb2.mono HB.out.size))
  obtain ⟨q0, q1⟩ := box_later (HBX.out.trans (hb2.mono HBX.out.size))
  have z0 := box_free (HBX.out.trans (hb2.mono HBX.out.size)) 0
  have z1 := box_free (HBX.out.trans (hb2.mono HBX.out.size)) 1
  clear hb2 hcall
  go_wp2
  refine bodyPost_ret (v := .tuple #[.agg #[.string (tailT (fS s) m k), .string (ringT (fS s) m q k)], .bool true]) (by simp [results, Try.results129, go_sem, q0, q1]) rfl ⟨rfl, ?_⟩
  exact below_two HB2.out _ _

set_option maxHeartbeats 1000000 in
theorem restBy_off (s : ByteArray) (k : Int) (m0 : Int) (w : World) (hs : s.size ≤ 1048576) (hL : LibAt m0 w) (h : (okS s && inR k 0 1000) = false) :
    Calls Try.prog 129 #[.string s, .int .i64 k] w fun e w' =>
      e = .returned (.tuple #[.agg #[.string ⟨#[]⟩, .string ⟨#[]⟩], .bool false]) ∧ Below w.heap.size w w' := by
  have hd := implDown s k m0 (w.alloc (.cells #[.string ⟨#[]⟩, .string ⟨#[]⟩] 84)) hs (hL.alloc _)
  rw [h] at hd
  have HL := Lib.hid hL
  clear hL h
  go_enter Try.func129, Try.ntmps129
  go_wp2_with fail
  refine hd.mono ?_
  rintro e w1 ⟨⟨T, b, rfl, hM⟩, hb⟩
  obtain ⟨rfl, rfl⟩ := hM.2 rfl
  have hcall := split_off ⟨#[]⟩ m0 w1 (by decide) ((HL.out.alloc _).below hb) (by kernel_rfl)
  have HB := Lib.hid (((Below.refl w.heap.size w).alloc (Nat.le_refl _) (.cells #[.string ⟨#[]⟩, .string ⟨#[]⟩] 84)).trans (hb.mono (by simp)))
  have HBX := Lib.hid hb
  clear hM hb hd
  go_wp2_with fail
  refine hcall.mono ?_
  rintro e w2 ⟨rfl, hb2⟩
  have HB2 := Lib.hid (HB.out.trans (hb2.mono HB.out.size))
  obtain ⟨q0, q1⟩ := box_later (HBX.out.trans (hb2.mono HBX.out.size))
  have z0 := box_free (HBX.out.trans (hb2.mono HBX.out.size)) 0
  have z1 := box_free (HBX.out.trans (hb2.mono HBX.out.size)) 1
  clear hb2 hcall
  go_wp2
  refine bodyPost_ret (v := .tuple #[.agg #[.string ⟨#[]⟩, .string ⟨#[]⟩], .bool false]) (by simp [results, Try.results129, go_sem, q0, q1]) rfl ⟨rfl, ?_⟩
  exact below_two HB2.out _ _
end Go.Proofs.Ytiphooodijbhiaa
