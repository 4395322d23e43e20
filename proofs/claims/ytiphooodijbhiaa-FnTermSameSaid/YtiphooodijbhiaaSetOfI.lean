/-
  The set of just the numbers of a list: plain facts. The walk of SetOf, of the program.
-/
import Derived.Test.YtiphooodijbhiaaRing
import Derived.Test.YtiphooodijbhiaaInts
import Derived.Test.YtiphooodijbhiaaTidyText
import Derived.Test.YtiphooodijbhiaaText
namespace Go.Proofs.Ytiphooodijbhiaa
open Go.RowKit

/-- Is n among the numbers? -/
def marked (l : List Int) (n : Nat) : Bool := l.any (· == (n : Int))
def goodAll (l : List Int) : Bool := l.all fun z => decide (0 ≤ z ∧ z < 60)
def markT (l : List Int) : List Bool := (List.range 60).map (marked l)
/-- The set of just these numbers. -/
def fL (l : List Int) : Nat → Bool := hasB (markT l) [false]
theorem markT_length (l : List Int) : (markT l).length = 60 := by simp [markT]
theorem markT_getD (l : List Int) (i : Nat) (h : i < 60) : (markT l).getD i false = marked l i := by
  rw [List.getD_eq_getElem?_getD, List.getElem?_eq_getElem (by rw [markT_length]; exact h)]; simp [markT]
theorem fL_low (l : List Int) (i : Nat) (h : i < 60) : fL l i = marked l i := by
  unfold fL; rw [hasB_tail _ _ _ (by rw [markT_length]; exact h), markT_getD l i h]
theorem fL_high (l : List Int) (i : Nat) (h : 60 ≤ i) : fL l i = false := by
  unfold fL
  obtain ⟨j, rfl⟩ : ∃ j, i = (markT l).length + j := ⟨i - 60, by rw [markT_length]; omega⟩
  rw [hasB_ring, show j % [false].length = 0 from Nat.mod_one j]; rfl
theorem marked_snoc (l : List Int) (y n : Nat) : marked (l ++ [(y : Int)]) n = (marked l n || decide (y = n)) := by
  unfold marked
  rw [List.any_append]
  congr 1
  simp only [List.any_cons, List.any_nil, Bool.or_false]
  rw [Bool.eq_iff_iff, beq_iff_eq, decide_eq_true_eq]; omega
theorem made60 : (madeCells #[Value.bool false] 60).toList = (markT []).map Value.bool := by rw [toList_madeCells_one]; rfl
theorem bools_snoc (l : List Int) (y : Nat) : ((markT l).map Value.bool).set y (.bool true) = (markT (l ++ [(y : Int)])).map Value.bool := by
  apply List.ext_getElem?
  intro i
  rcases Nat.lt_or_ge i 60 with k | k
  · have e : ∀ l', ((markT l').map Value.bool)[i]? = some (.bool (marked l' i)) := fun l' => by
      rw [List.getElem?_map, List.getElem?_eq_getElem (by rw [markT_length]; exact k)]; simp [markT]
    by_cases h : y = i
    · subst h
      rw [List.getElem?_set_self (by rw [List.length_map, markT_length]; exact k), e, marked_snoc]; simp
    · rw [List.getElem?_set_ne h, e, e, marked_snoc, decide_eq_false h, Bool.or_false]
  · rw [List.getElem?_eq_none (by rw [List.length_set, List.length_map, markT_length]; exact k), List.getElem?_eq_none (by rw [List.length_map, markT_length]; exact k)]
theorem first_snoc (l : List Int) (y : Nat) (hy : y < 60) : (firstV (fL l)).setIfInBounds y (.bool true) = firstV (fL (l ++ [(y : Int)])) := by
  refine firstV_of _ _ (by rw [Array.size_setIfInBounds, firstV_size]) ?_
  intro i hi
  rw [Array.getElem?_setIfInBounds]
  by_cases e : y = i
  · subst e
    rw [if_pos rfl, if_pos (by rw [firstV_size]; omega), fL_low _ _ hy, marked_snoc]; simp
  · rw [if_neg e, firstV_at _ i hi]
    rcases Nat.lt_or_ge i 60 with k | k
    · rw [fL_low _ _ k, fL_low _ _ k, marked_snoc, decide_eq_false e, Bool.or_false]
    · rw [fL_high _ _ k, fL_high _ _ k]
theorem good_at {l : List Int} (h : goodAll l = true) (i : Nat) (hi : i < l.length) : 0 ≤ l.getD i 0 ∧ l.getD i 0 < 60 := by
  unfold goodAll at h
  have := List.all_eq_true.1 h (l[i]) (List.getElem_mem hi)
  rw [List.getD_eq_getElem?_getD, List.getElem?_eq_getElem hi, Option.getD_some]
  exact of_decide_eq_true this
theorem good_of {l : List Int} (h : ∀ i, i < l.length → 0 ≤ l.getD i 0 ∧ l.getD i 0 < 60) : goodAll l = true := by
  unfold goodAll
  rw [List.all_eq_true]
  intro x hx
  obtain ⟨i, hi, rfl⟩ := List.getElem_of_mem hx
  have := h i hi
  rw [List.getD_eq_getElem?_getD, List.getElem?_eq_getElem hi, Option.getD_some] at this
  exact decide_eq_true this
theorem takeI_snoc (l : List Int) (k : Nat) (h : k < l.length) : l.take (k + 1) = l.take k ++ [l.getD k 0] := by
  rw [List.take_succ_eq_append_getElem h, List.getD_eq_getElem?_getD, List.getElem?_eq_getElem h]; rfl

theorem fL_nil : fL [] = fun _ => false := by
  funext i
  rcases Nat.lt_or_ge i 60 with k | k
  · rw [fL_low _ _ k]; rfl
  · exact fL_high _ _ k

theorem zeroFirst_eq : Try.zeroCells82 = firstV (fL []) := by
  rw [fL_nil]
  have e : Try.zeroCells82 = firstV (fun _ => false) := by kernel_rfl
  exact e
theorem row_store {wr : World} {S y : Nat} {l : List Int} (h : Row180 wr S (firstV (fL l))) (hy : y < 60) : Row180 (wr.setCell ⟨S, y, none⟩ (.bool true)) S (firstV (fL (l ++ [(y : Int)]))) := by
  unfold Row180
  rw [heap_setCell_same wr S y _ _ _ h, first_snoc l y hy]

set_option maxRecDepth 100000 in
set_option maxHeartbeats 1000000 in
theorem implOf_on (a : Option Addr) (n c : Nat) (zs : List Int) (T : ByteArray) (w : World) (h : ReadsI w a n zs) (hn : n ≤ 1048576) (hg : goodAll zs = true) (hT : TidyText (fL zs) T) :
    Calls Try.prog 202 #[.slice a n c] w fun e w' => e = .returned (.tuple #[.string T, .bool true]) ∧ Below w.heap.size w w' := by
  obtain ⟨m, q, ht, hm, hq, rfl⟩ := hT
  have HT := Lib.hid ht
  have H := Lib.hid h
  have HG := Lib.hid hg
  clear h hg ht
  have HR0 : Hid (Row180 (w.alloc (.cells Try.zeroCells82 82)) w.heap.size (firstV (fL []))) := Lib.hid (by rw [← zeroFirst_eq]; exact heap_alloc_new w _)
  go_enter Try.func202, Try.ntmps202
  go_wp2
  go_loopw [9] (fun i wr => ∃ k : Nat, k ≤ n ∧ i = .int .i64 k ∧ Below w.heap.size w wr ∧ w.heap.size < wr.heap.size ∧ Row180 wr w.heap.size (firstV (fL (zs.take k)))) (fun i _ => n - (intOf i).toNat)
  case atStart => exact ⟨0, Nat.zero_le _, rfl, (Below.refl _ _).alloc (Nat.le_refl _) _, by simp, HR0.out⟩
  case round =>
    obtain ⟨k, hk, rfl, hB, hlt0, hrow⟩ := hrel
    by_cases hlt : k < n
    · rcases (H.out.below hB (Nat.le_refl _)).cells with h0 | ⟨g, o, rfl, hg, hc⟩
      · omega
      have qc := hc k hlt
      clear hc
      obtain ⟨h0, h1⟩ := good_at HG.out k (by rw [H.out.len]; exact hlt)
      obtain ⟨y, hy⟩ := Int.eq_ofNat_of_zero_le h0
      have hy60 : y < 60 := by omega
      have HZ := Lib.hid (takeI_snoc zs k (by rw [H.out.len]; exact hlt))
      rw [hy] at qc
      have HY := Lib.hid hy
      clear hy h0 h1
      have hc0 := cell_of_row wr _ y _ _ _ hrow
      rw [firstV_at _ _ (by omega)] at hc0
      have hf0 := frozen_of_row wr w.heap.size y _ _ hrow
      have HS := Lib.hid (row_store hrow hy60)
      have HB := Lib.hid (hB.setCell (p := ⟨w.heap.size, y, none⟩) (Nat.le_refl _) (.bool true))
      clear hrow hB
      have b1 : (y : Int) < 180 := by omega
      have b2 : (0 : Int) ≤ (y : Int) := by omega
      have b3 : (y : Int) < 60 := by omega
      go_wp2
      go_roundw
      case rel => exact ⟨k + 1, by omega, by go_num, HB.out, by simpa [World.setCell] using hlt0, by rw [HZ.out, HY.out]; exact HS.out⟩
      case measure => simp [intOf]; omega
    · obtain rfl : k = n := by omega
      have HTk : Hid (zs.take k = zs) := Lib.hid (List.take_of_length_le (by rw [H.out.len]; exact Nat.le_refl _))
      rw [HTk.out] at hrow
      have HR := Lib.hid hrow
      have HB := Lib.hid hB
      clear hrow hB
      go_wp2_with (refine wpList_load_row rfl 82 _ rfl w.heap.size rfl 82 (firstV (fL zs)) (0, 0) _ HR.out Try.underlying82 rfl (by rw [firstV_size]; exact Try.infoFirst) ?_)
      refine (text_any (fL zs) m q _ HT.out hm hq).mono ?_
      rintro e w3 ⟨rfl, hb3⟩
      have HB3 := Lib.hid (HB.out.trans (hb3.mono HB.out.size))
      clear hb3
      go_wp2
      go_ret2
      exact ⟨rfl, HB3.out⟩

set_option maxRecDepth 100000 in
set_option maxHeartbeats 1000000 in
theorem implOf_off (a : Option Addr) (n c : Nat) (zs : List Int) (w : World) (h : ReadsI w a n zs) (hn : n ≤ 1048576) (hg : goodAll zs = false) :
    Calls Try.prog 202 #[.slice a n c] w fun e w' => e = .returned (.tuple #[.string ⟨#[]⟩, .bool false]) ∧ Below w.heap.size w w' := by
  have H := Lib.hid h
  have HG := Lib.hid hg
  clear h hg
  have HR0 : Hid (Row180 (w.alloc (.cells Try.zeroCells82 82)) w.heap.size (firstV (fL []))) := Lib.hid (by rw [← zeroFirst_eq]; exact heap_alloc_new w _)
  go_enter Try.func202, Try.ntmps202
  go_wp2
  go_loopw [9] (fun i wr => ∃ k : Nat, k ≤ n ∧ i = .int .i64 k ∧ Below w.heap.size w wr ∧ w.heap.size < wr.heap.size ∧ (∀ i, i < k → 0 ≤ zs.getD i 0 ∧ zs.getD i 0 < 60) ∧ Row180 wr w.heap.size (firstV (fL (zs.take k)))) (fun i _ => n - (intOf i).toNat)
  case atStart => exact ⟨0, Nat.zero_le _, rfl, (Below.refl _ _).alloc (Nat.le_refl _) _, by simp, fun i hi => absurd hi (Nat.not_lt_zero _), HR0.out⟩
  case round =>
    obtain ⟨k, hk, rfl, hB, hlt0, hall, hrow⟩ := hrel
    have HA := Lib.hid hall
    clear hall
    by_cases hlt : k < n
    · rcases (H.out.below hB (Nat.le_refl _)).cells with h0 | ⟨g, o, rfl, hg, hc⟩
      · omega
      have qc := hc k hlt
      clear hc
      by_cases hgood : 0 ≤ zs.getD k 0 ∧ zs.getD k 0 < 60
      · have HGd := Lib.hid hgood
        obtain ⟨h0, h1⟩ := hgood
        obtain ⟨y, hy⟩ := Int.eq_ofNat_of_zero_le h0
        have hy60 : y < 60 := by omega
        have HZ := Lib.hid (takeI_snoc zs k (by rw [H.out.len]; exact hlt))
        rw [hy] at qc
        have HY := Lib.hid hy
        clear hy h0 h1
        have hc0 := cell_of_row wr _ y _ _ _ hrow
        rw [firstV_at _ _ (by omega)] at hc0
        have hf0 := frozen_of_row wr w.heap.size y _ _ hrow
        have HS := Lib.hid (row_store hrow hy60)
        have HB := Lib.hid (hB.setCell (p := ⟨w.heap.size, y, none⟩) (Nat.le_refl _) (.bool true))
        clear hrow hB
        have b1 : (y : Int) < 180 := by omega
        have b2 : (0 : Int) ≤ (y : Int) := by omega
        have b3 : (y : Int) < 60 := by omega
        go_wp2
        go_roundw
        case rel => exact ⟨k + 1, by omega, by go_num, HB.out, by simpa [World.setCell] using hlt0, fun i hi => by
            by_cases e : i = k
            · rw [e]; exact HGd.out
            · exact HA.out i (by omega), by rw [HZ.out, HY.out]; exact HS.out⟩
        case measure => simp [intOf]; omega
      · obtain ⟨y, hy⟩ : ∃ y, zs.getD k 0 = y := ⟨_, rfl⟩
        rw [hy] at qc hgood
        clear hy hrow
        by_cases h0 : y < 0
        · go_wp2
          go_ret2
          exact ⟨rfl, hB⟩
        · have h1 : (60 : Int) ≤ y := by omega
          have h2 : (0 : Int) ≤ y := by omega
          go_wp2
          go_ret2
          exact ⟨rfl, hB⟩
    · exfalso
      have := good_of (l := zs) (fun i hi => HA.out i (by rw [H.out.len] at hi; omega))
      rw [HG.out] at this
      cases this

end Go.Proofs.Ytiphooodijbhiaa
