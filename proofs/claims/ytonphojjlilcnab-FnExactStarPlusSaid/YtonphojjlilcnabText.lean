/-
  The walk of impl.text: the tidy text of a set that is told by its first 180 numbers.
-/
import Derived.Test.YtonphojjlilcnabRing
import Derived.Test.YtonphojjlilcnabBuilder
import Derived.Deep.RegionWith
namespace Go.Proofs.Ytonphojjlilcnab
open Go.RowKit

theorem reads_part {w w' : World} (f : Nat → Bool) (a n : Nat) (han : a + n ≤ 180) (hb : Below (w.alloc (.cells (firstV f) 71)).heap.size (w.alloc (.cells (firstV f) 71)) w') :
    Reads w' (some ⟨w.heap.size, a, none⟩) n (part f a n) := by
  refine ⟨part_length f a n, .inr ⟨w.heap.size, a, rfl, by have := hb.size; simp at this; omega, fun i hi => ?_⟩⟩
  rw [part_getD f a n i hi]
  exact (hb.cell (p := ⟨w.heap.size, a + i, none⟩) (by simp)).trans (box180 w f (a + i) (by omega))

/-- T is the text of these truths. -/
def SignsIs (T : ByteArray) (bs : List Bool) : Prop := T.data.toList = signsOf bs

theorem signsText_on (a : Option Addr) (n c : Nat) (bs : List Bool) (w : World) (h : Reads w a n bs) (hn : n ≤ 60) :
    Calls Try.prog 60 #[.slice a n c] w fun e w' => ∃ T : ByteArray, e = .returned (.string T) ∧ SignsIs T bs ∧ T.size ≤ 60 ∧ Below w.heap.size w w' := by
  refine (signsText_any a n c bs w h (by omega)).mono ?_
  rintro e w' ⟨rfl, hb⟩
  refine ⟨_, rfl, by unfold SignsIs; simp, ?_, hb⟩
  show (signsOf bs).length ≤ 60
  rw [signsOf_length, h.len]; exact hn

theorem text_val {T R : ByteArray} {t r : List Bool} (hT : SignsIs T t) (hR : SignsIs R r) : T ++ ⟨#[40]⟩ ++ R ++ ⟨#[41]⟩ = (⟨(textOf t r).toArray⟩ : ByteArray) := by
  unfold SignsIs at hT hR
  apply ByteArray.ext
  apply Array.toList_inj.1
  simp only [ByteArray.data_append, Array.toList_append, hT, hR]
  unfold textOf
  simp

theorem ret_string {a b : ByteArray} (h : a = b) : Ending.returned (.string a) = .returned (.string b) := by rw [h]

set_option maxRecDepth 100000 in
set_option maxHeartbeats 1000000 in
theorem text_any (f : Nat → Bool) (m q : Nat) (w : World) (h : Tidy f m q) (hm : m ≤ 60) (hq : q ≤ 60) :
    Calls Try.prog 54 #[.agg (firstV f)] w fun e w' => e = .returned (.string ⟨(textOf (part f 0 m) (part f m q)).toArray⟩) ∧ Below w.heap.size w w' := by
  have H := Lib.hid h
  have hq0 := h.pos
  clear h
  go_enter Try.func54, Try.ntmps54
  go_wp2_with (refine wpList_load_row rfl 71 _ rfl w.heap.size rfl 71 (firstV f) (0, 0) _ (heap_alloc_new w _) Try.underlying71 rfl (by rw [firstV_size]; exact Try.infoFirst) ?_)
  refine (ringSize_any f m q _ H.out hm hq).mono ?_
  rintro e w1 ⟨rfl, hb1⟩
  have hrow : w1.heap[w.heap.size]? = some (.cells (firstV f) 71 (0, 0)) := (hb1.block w.heap.size (by simp)).trans (heap_alloc_new w _)
  have HR := Lib.hid hrow
  have HB1 := Lib.hid hb1
  clear hrow hb1
  go_wp2_with (refine wpList_load_row rfl 71 _ rfl w.heap.size rfl 71 (firstV f) (0, 0) _ HR.out Try.underlying71 rfl (by rw [firstV_size]; exact Try.infoFirst) ?_)
  refine (tailSize_any f m q _ H.out hm hq).mono ?_
  rintro e w2 ⟨rfl, hb2⟩
  have HB2 := Lib.hid (HB1.out.trans (hb2.mono HB1.out.size))
  clear hb2
  go_wp2
  have c1 : (m : Int) ≤ 180 := by omega
  have c2 : (0 : Int) ≤ (m : Int) := by omega
  have c3 : (m : Int) + (q : Int) ≤ 180 := by omega
  have c4 : (m : Int) ≤ (m : Int) + (q : Int) := by omega
  have e2 : ((m : Int) + (q : Int)).toNat = m + q := by omega
  have e1 : IntKind.i64.wrap ((m : Int) + (q : Int)) = (m : Int) + (q : Int) := by rw [IntWalk.i64_in _ (by omega)]
  have K1 : ∀ W', Below (w.alloc (.cells (firstV f) 71)).heap.size (w.alloc (.cells (firstV f) 71)) W' → _ := fun W' hb => signsText_on (some ⟨w.heap.size, 0, none⟩) m 180 (part f 0 m) W' (reads_part f 0 m (by omega) hb) hm
  have K2 : ∀ W', Below (w.alloc (.cells (firstV f) 71)).heap.size (w.alloc (.cells (firstV f) 71)) W' → _ := fun W' hb => signsText_on (some ⟨w.heap.size, m, none⟩) q (180 - m) (part f m q) W' (reads_part f m q (by omega) hb) hq
  have HK1 := Lib.hid K1
  have HK2 := Lib.hid K2
  have HBD := Lib.hid HB2.out.drew
  clear K1 K2
  go_region_with (first
    | (go_at_call 60; (with_reducible refine (HK1.out _ ?_).mono ?_); (first | exact HBD.out | exact HN4.out); rintro e w3 ⟨T, rfl, hT, hTs, hb3⟩; (first | have HN3 := Lib.hid (HBD.out.trans (hb3.mono HBD.out.size)) | have HN3 := Lib.hid (HN4.out.trans (hb3.mono HN4.out.size))))
    | (go_at_call 60; (with_reducible refine (HK2.out _ ?_).mono ?_); (first | exact HBD.out | exact HN3.out); rintro e w4 ⟨R, rfl, hR, hRs, hb4⟩; (first | have HN4 := Lib.hid (HBD.out.trans (hb4.mono HBD.out.size)) | have HN4 := Lib.hid (HN3.out.trans (hb4.mono HN3.out.size)))))
  all_goals
    go_wp2
    go_ret
    exact ⟨ret_string (text_val hT hR), ((Below.refl _ _).alloc (Nat.le_refl _) _).trans ((by first | exact HN4.out | exact HN3.out : Below (w.alloc (.cells (firstV f) 71)).heap.size (w.alloc (.cells (firstV f) 71)) _).mono (by simp))⟩

end Go.Proofs.Ytonphojjlilcnab
