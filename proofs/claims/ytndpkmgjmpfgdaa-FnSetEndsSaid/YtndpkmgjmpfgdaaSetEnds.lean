/-
  The walks of SetEnds, of the program, of the model, and of the law that holds them against each other.
-/
import Derived.Test.YtndpkmgjmpfgdaaCore
namespace Go.Proofs.Ytndpkmgjmpfgdaa
open Go.RowKit

/-- No truth in a ring. -/
def endsB (r : List Bool) : Bool := r.all (!·)
/-- What SetEnds answers. -/
def setEnds (s : ByteArray) : Bool := okS s && endsB (setR s)

theorem ends_all (r : List Bool) (h : ∀ i, i < r.length → r.getD i false = false) : endsB r = true := by
  unfold endsB
  rw [List.all_eq_true]
  intro x hx
  obtain ⟨i, hi, rfl⟩ := List.getElem_of_mem hx
  have := h i hi
  rw [List.getD_eq_getElem?_getD, List.getElem?_eq_getElem hi, Option.getD_some] at this
  rw [this]; rfl
theorem ends_hit (r : List Bool) (i : Nat) (hi : i < r.length) (h : r.getD i false = true) : endsB r = false := by
  rw [List.getD_eq_getElem?_getD, List.getElem?_eq_getElem hi, Option.getD_some] at h
  rw [Bool.eq_false_iff]
  intro ha
  have := List.all_eq_true.1 ha (r[i]) (List.getElem_mem hi)
  rw [h] at this; cases this
theorem contains_ends (l : List UInt8) : decide (0 ≤ Lib.indexByte l 49) = !(endsB (sb l)) := by
  by_cases h : 0 ≤ Lib.indexByte l 49
  · obtain ⟨o, ho⟩ := Int.eq_ofNat_of_zero_le h
    have hs := (Lib.indexByte_some ho).1
    have hlt : o < l.length := by
      rcases Nat.lt_or_ge o l.length with k | k
      · exact k
      · rw [List.getElem?_eq_none k] at hs; cases hs
    rw [decide_eq_true h, ends_hit (sb l) o (by rw [sb_length]; exact hlt) ?_]; rfl
    rw [List.getD_eq_getElem?_getD]; unfold sb; rw [List.getElem?_map, hs]; rfl
  · have hm : Lib.indexByte l 49 = -1 := by have := Lib.indexByte_ge l 49; omega
    have hn := Lib.indexByte_none hm
    rw [decide_eq_false h, ends_all (sb l) ?_]; rfl
    intro i hi
    rw [sb_length] at hi
    have := hn i
    rw [List.getD_eq_getElem?_getD]; unfold sb; rw [List.getElem?_map]
    rw [List.getElem?_eq_getElem hi] at this ⊢
    simp only [Option.map_some, Option.getD_some]
    rw [beq_eq_false_iff_ne]
    intro e; exact this (by rw [e])

set_option maxHeartbeats 400000 in
theorem l1Ends_any (a1 a2 : Option Addr) (n1 c1 n2 c2 : Nat) (r : List Bool) (w : World) (h2 : Reads w a2 n2 r) (hn2 : n2 ≤ 1048576) (hn0 : 0 < n2) :
    Calls Try.prog 69 #[.agg #[.slice a1 n1 c1, .slice a2 n2 c2]] w fun e w' => e = .returned (.bool (endsB r)) ∧ Below w.heap.size w w' := by
  rcases h2.cells with h | ⟨g, o, rfl, hg, hc⟩
  · omega
  · have hc' : ∀ ob i, i < n2 → (w.alloc ob).cell? ⟨g, o + i, none⟩ = some (.bool (r.getD i false)) := fun ob i hi => by rw [World.cell?_alloc_past _ _ _ hg]; exact hc i hi
    have HC := Lib.hid hc'
    have HL := Lib.hid h2.len
    clear hc hc' h2
    go_enter Try.func69, Try.ntmps69
    go_wp2
    go_loop [3] (fun i => ∃ k : Nat, k ≤ n2 ∧ i = .int .i64 k ∧ ∀ j, j < k → r.getD j false = false) (fun i => n2 - (intOf i).toNat)
    case atStart => exact ⟨0, Nat.zero_le _, rfl, fun j hj => absurd hj (Nat.not_lt_zero _)⟩
    case round =>
      obtain ⟨k, hk, rfl, hall⟩ := hrel
      have HA := Lib.hid hall
      clear hall
      by_cases hlt : k < n2
      · cases hb : r.getD k false
        · have hcell := HC.out (.cells #[.slice a1 n1 c1, .slice (some ⟨g, o, none⟩) n2 c2] 53) k hlt
          rw [hb] at hcell
          go_wp2
          go_round
          case rel => exact ⟨k + 1, by omega, by go_num, fun j hj => by
            by_cases e : j = k
            · rw [e]; exact hb
            · exact HA.out j (by omega)⟩
          case measure => simp [intOf]; omega
        · have H := Lib.hid (ends_hit r k (by rw [HL.out]; exact hlt) hb)
          have hcell := HC.out (.cells #[.slice a1 n1 c1, .slice (some ⟨g, o, none⟩) n2 c2] 53) k hlt
          rw [hb] at hcell
          go_wp2
          go_ret
          exact ⟨ret_bool H.out.symm, (Below.refl _ _).alloc (Nat.le_refl _) _⟩
      · have H := Lib.hid (ends_all r (fun i hi => HA.out i (by rw [HL.out] at hi; omega)))
        go_wp2
        go_ret
        exact ⟨ret_bool H.out.symm, (Below.refl _ _).alloc (Nat.le_refl _) _⟩

set_option maxHeartbeats 400000 in
theorem implSetEnds (s : ByteArray) (m : Int) (w : World) (hs : s.size ≤ 1048576) (hL : LibAt m w) :
    Calls Try.prog 46 #[.string s] w fun e w' => e = .returned (.bool (setEnds s)) ∧ Below w.heap.size w w' := by
  cases h : okS s
  · have H : Hid (setEnds s = false) := Lib.hid (by unfold setEnds; rw [h]; rfl)
    go_enter Try.func46, Try.ntmps46
    go_wp2_with fail
    refine (split_off s m _ hs hL h).mono ?_
    rintro e w1 ⟨rfl, hb⟩
    go_wp2
    go_ret
    exact ⟨ret_bool H.out.symm, (hb.alloc hb.size _)⟩
  · go_enter Try.func46, Try.ntmps46
    go_wp2_with fail
    refine (split_on s m _ hs hL h).mono ?_
    rintro e w1 ⟨T, R, rfl, hb, hsp⟩
    have H : Hid (setEnds s = !(decide (0 ≤ Lib.indexByte R.data.toList 49))) := Lib.hid (by unfold setEnds; rw [h, ← hsp.ring, contains_ends]; simp)
    go_wp2_with fail
    refine (Try.strings_Contains_one R 49 _).mono ?_
    rintro e w2 ⟨rfl, hw⟩
    subst hw
    cases hx : decide (0 ≤ Lib.indexByte R.data.toList 49)
    all_goals
      have H2 : Hid (_ = _) := Lib.hid (H.out.trans (by rw [hx]))
      go_wp2
      go_ret
      exact ⟨ret_bool H2.out.symm, (hb.alloc hb.size _)⟩

set_option maxHeartbeats 400000 in
theorem specSetEnds (s : ByteArray) (w : World) (hs : s.size ≤ 1048576) :
    Calls Try.prog 48 #[.string s] w fun e w' => e = .returned (.bool (setEnds s)) ∧ Below w.heap.size w w' := by
  cases h : okS s
  · have H : Hid (setEnds s = false) := Lib.hid (by unfold setEnds; rw [h]; rfl)
    go_enter Try.func48, Try.ntmps48
    go_wp2_with fail
    refine (read_off s _ hs h).mono ?_
    rintro e w1 ⟨a1, n1, c1, a2, n2, c2, rfl, hb⟩
    go_wp2
    go_ret
    exact ⟨ret_bool H.out.symm, (hb.alloc hb.size _)⟩
  · have H : Hid (setEnds s = endsB (setR s)) := Lib.hid (by unfold setEnds; rw [h]; rfl)
    go_enter Try.func48, Try.ntmps48
    go_wp2_with fail
    refine (read_on s _ hs h).mono ?_
    rintro e w1 ⟨a1, n1, c1, a2, n2, c2, rfl, hb, hr⟩
    go_wp2_with fail
    refine (l1Ends_any a1 a2 n1 c1 n2 c2 _ _ (hr.alloc _).ring (by have := hr.ringLe; omega) hr.ringPos).mono ?_
    rintro e w2 ⟨rfl, hb2⟩
    go_wp2
    go_ret
    exact ⟨ret_bool H.out.symm, (hb.alloc hb.size _).trans (hb2.mono (by have := hb.size; simp; omega))⟩

end Go.Proofs.Ytndpkmgjmpfgdaa
