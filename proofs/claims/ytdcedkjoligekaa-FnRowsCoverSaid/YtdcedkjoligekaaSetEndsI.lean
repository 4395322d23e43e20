/-
  A ring without a number: plain facts. A ring without a number, as strings.Contains tells it: a plain fact. The walk of SetEnds, of the program.
-/
import Derived.Test.YtdcedkjoligekaaSetDef
import Derived.Test.YtdcedkjoligekaaShelf
import Derived.Test.YtdcedkjoligekaaCoreI
namespace Go.Proofs.Ytdcedkjoligekaa
open Go.RowKit

/-- No truth in a ring. -/
def endsB (r : List Bool) : Bool := r.all (!·)

theorem ends_all (r : List Bool) (h : ∀ i, i < r.length → r.getD i false = false) : endsB r = true := by
  unfold endsB
  rw [List.all_eq_true]
  intro x hx
  obtain ⟨i, hi, rfl⟩ := List.getElem_of_mem hx
  have := h i hi
  rw [List.getD_eq_getElem?_getD, List.getElem?_eq_getElem hi, Option.getD_some] at this
  rw [this]; rfl

theorem ends_hit (r : List Bool) (i : Nat) (hi : i < r.length) (h : r.getD i false = true) : endsB r = false := by
  rw [List.getD_eq_getElem?_getD, List.getElem?_eq_getElem hi, Option.getD_some] at h
  rw [Bool.eq_false_iff]
  intro ha
  have := List.all_eq_true.1 ha (r[i]) (List.getElem_mem hi)
  rw [h] at this; cases this

theorem contains_ends (l : List UInt8) : decide (0 ≤ Lib.indexByte l 49) = !(endsB (sb l)) := by
  by_cases h : 0 ≤ Lib.indexByte l 49
  · obtain ⟨o, ho⟩ := Int.eq_ofNat_of_zero_le h
    have hs := (Lib.indexByte_some ho).1
    have hlt : o < l.length := by
      rcases Nat.lt_or_ge o l.length with k | k
      · exact k
      · rw [List.getElem?_eq_none k] at hs; cases hs
    rw [decide_eq_true h, ends_hit (sb l) o (by rw [sb_length]; exact hlt) ?_]; rfl
    rw [List.getD_eq_getElem?_getD]; unfold sb; rw [List.getElem?_map, hs]; rfl
  · have hm : Lib.indexByte l 49 = -1 := by have := Lib.indexByte_ge l 49; omega
    have hn := Lib.indexByte_none hm
    rw [decide_eq_false h, ends_all (sb l) ?_]; rfl
    intro i hi
    rw [sb_length] at hi
    have := hn i
    rw [List.getD_eq_getElem?_getD]; unfold sb; rw [List.getElem?_map]
    rw [List.getElem?_eq_getElem hi] at this ⊢
    simp only [Option.map_some, Option.getD_some]
    rw [beq_eq_false_iff_ne]
    intro e; exact this (by rw [e])

/-- What SetEnds answers. -/
def setEnds (s : ByteArray) : Bool := okS s && endsB (setR s)

set_option maxHeartbeats 400000 in
theorem implSetEnds (s : ByteArray) (m : Int) (w : World) (hs : s.size ≤ 1048576) (hL : LibAt m w) :
    Calls Try.prog 39 #[.string s] w fun e w' => e = .returned (.bool (setEnds s)) ∧ Below w.heap.size w w' := by
  cases h : okS s
  · have H : Hid (setEnds s = false) := Lib.hid (by unfold setEnds; rw [h]; rfl)
    go_enter Try.func39, Try.ntmps39
    go_wp2_with fail
    refine (split_off s m _ hs hL h).mono ?_
    rintro e w1 ⟨rfl, hb⟩
    go_wp2
    go_ret
    exact ⟨ret_bool H.out.symm, (hb.alloc hb.size _)⟩
  · go_enter Try.func39, Try.ntmps39
    go_wp2_with fail
    refine (split_on s m _ hs hL h).mono ?_
    rintro e w1 ⟨T, R, rfl, hb, hsp⟩
    have H : Hid (setEnds s = !(decide (0 ≤ Lib.indexByte R.data.toList 49))) := Lib.hid (by unfold setEnds; rw [h, ← hsp.ring, contains_ends]; simp)
    go_wp2_with fail
    refine (Try.strings_Contains_one R 49 _).mono ?_
    rintro e w2 ⟨rfl, hw⟩
    subst hw
    cases hx : decide (0 ≤ Lib.indexByte R.data.toList 49)
    all_goals
      have H2 : Hid (_ = _) := Lib.hid (H.out.trans (by rw [hx]))
      go_wp2
      go_ret
      exact ⟨ret_bool H2.out.symm, (hb.alloc hb.size _)⟩

end Go.Proofs.Ytdcedkjoligekaa
