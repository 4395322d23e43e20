/-
  The walk of SetOf, of the program.
-/
import Derived.Test.YtcljchngjaodgabSetOfMath
import Derived.Test.YtcljchngjaodgabTidyText
import Derived.Test.YtcljchngjaodgabText
namespace Go.Proofs.Ytcljchngjaodgab
open Go.RowKit

theorem zeroFirst_eq : Try.zeroCells63 = firstV (fL []) := by
  rw [fL_nil]
  have e : Try.zeroCells63 = firstV (fun _ => false) := by kernel_rfl
  exact e
theorem row_store {wr : World} {S y : Nat} {l : List Int} (h : Row180 wr S (firstV (fL l))) (hy : y < 60) : Row180 (wr.setCell ⟨S, y, none⟩ (.bool true)) S (firstV (fL (l ++ [(y : Int)]))) := by
  unfold Row180
  rw [heap_setCell_same wr S y _ _ _ h, first_snoc l y hy]

set_option maxRecDepth 100000 in
set_option maxHeartbeats 1000000 in
theorem implOf_on (a : Option Addr) (n c : Nat) (zs : List Int) (T : ByteArray) (w : World) (h : ReadsI w a n zs) (hn : n ≤ 1048576) (hg : goodAll zs = true) (hT : TidyText (fL zs) T) :
    Calls Try.prog 61 #[.slice a n c] w fun e w' => e = .returned (.tuple #[.string T, .bool true]) ∧ Below w.heap.size w w' := by
  obtain ⟨m, q, ht, hm, hq, rfl⟩ := hT
  have HT := Lib.hid ht
  have H := Lib.hid h
  have HG := Lib.hid hg
  clear h hg ht
  have HR0 : Hid (Row180 (w.alloc (.cells Try.zeroCells63 63)) w.heap.size (firstV (fL []))) := Lib.hid (by rw [← zeroFirst_eq]; exact heap_alloc_new w _)
  go_enter Try.func61, Try.ntmps61
  go_wp2
  go_loopw [9] (fun i wr => ∃ k : Nat, k ≤ n ∧ i = .int .i64 k ∧ Below w.heap.size w wr ∧ w.heap.size < wr.heap.size ∧ Row180 wr w.heap.size (firstV (fL (zs.take k)))) (fun i _ => n - (intOf i).toNat)
  case atStart => exact ⟨0, Nat.zero_le _, rfl, (Below.refl _ _).alloc (Nat.le_refl _) _, by simp, HR0.out⟩
  case round =>
    obtain ⟨k, hk, rfl, hB, hlt0, hrow⟩ := hrel
    by_cases hlt : k < n
    · rcases (H.out.below hB (Nat.le_refl _)).cells with h0 | ⟨g, o, rfl, hg, hc⟩
      · omega
      have qc := hc k hlt
      clear hc
      obtain ⟨h0, h1⟩ := good_at HG.out k (by rw [H.out.len]; exact hlt)
      obtain ⟨y, hy⟩ := Int.eq_ofNat_of_zero_le h0
      have hy60 : y < 60 := by omega
      have HZ := Lib.hid (takeI_snoc zs k (by rw [H.out.len]; exact hlt))
      rw [hy] at qc
      have HY := Lib.hid hy
      clear hy h0 h1
      have hc0 := cell_of_row wr _ y _ _ _ hrow
      rw [firstV_at _ _ (by omega)] at hc0
      have hf0 := frozen_of_row wr w.heap.size y _ _ hrow
      have HS := Lib.hid (row_store hrow hy60)
      have HB := Lib.hid (hB.setCell (p := ⟨w.heap.size, y, none⟩) (Nat.le_refl _) (.bool true))
      clear hrow hB
      have b1 : (y : Int) < 180 := by omega
      have b2 : (0 : Int) ≤ (y : Int) := by omega
      have b3 : (y : Int) < 60 := by omega
      go_wp2
      go_roundw
      case rel => exact ⟨k + 1, by omega, by go_num, HB.out, by simpa [World.setCell] using hlt0, by rw [HZ.out, HY.out]; exact HS.out⟩
      case measure => simp [intOf]; omega
    · obtain rfl : k = n := by omega
      have HTk : Hid (zs.take k = zs) := Lib.hid (List.take_of_length_le (by rw [H.out.len]; exact Nat.le_refl _))
      rw [HTk.out] at hrow
      have HR := Lib.hid hrow
      have HB := Lib.hid hB
      clear hrow hB
      go_wp2_with (refine wpList_load_row rfl 63 _ rfl w.heap.size rfl 63 (firstV (fL zs)) (0, 0) _ HR.out Try.underlying63 rfl (by rw [firstV_size]; exact Try.infoFirst) ?_)
      refine (text_any (fL zs) m q _ HT.out hm hq).mono ?_
      rintro e w3 ⟨rfl, hb3⟩
      have HB3 := Lib.hid (HB.out.trans (hb3.mono HB.out.size))
      clear hb3
      go_wp2
      go_ret2
      exact ⟨rfl, HB3.out⟩

set_option maxRecDepth 100000 in
set_option maxHeartbeats 1000000 in
theorem implOf_off (a : Option Addr) (n c : Nat) (zs : List Int) (w : World) (h : ReadsI w a n zs) (hn : n ≤ 1048576) (hg : goodAll zs = false) :
    Calls Try.prog 61 #[.slice a n c] w fun e w' => e = .returned (.tuple #[.string ⟨#[]⟩, .bool false]) ∧ Below w.heap.size w w' := by
  have H := Lib.hid h
  have HG := Lib.hid hg
  clear h hg
  have HR0 : Hid (Row180 (w.alloc (.cells Try.zeroCells63 63)) w.heap.size (firstV (fL []))) := Lib.hid (by rw [← zeroFirst_eq]; exact heap_alloc_new w _)
  go_enter Try.func61, Try.ntmps61
  go_wp2
  go_loopw [9] (fun i wr => ∃ k : Nat, k ≤ n ∧ i = .int .i64 k ∧ Below w.heap.size w wr ∧ w.heap.size < wr.heap.size ∧ (∀ i, i < k → 0 ≤ zs.getD i 0 ∧ zs.getD i 0 < 60) ∧ Row180 wr w.heap.size (firstV (fL (zs.take k)))) (fun i _ => n - (intOf i).toNat)
  case atStart => exact ⟨0, Nat.zero_le _, rfl, (Below.refl _ _).alloc (Nat.le_refl _) _, by simp, fun i hi => absurd hi (Nat.not_lt_zero _), HR0.out⟩
  case round =>
    obtain ⟨k, hk, rfl, hB, hlt0, hall, hrow⟩ := hrel
    have HA := Lib.hid hall
    clear hall
    by_cases hlt : k < n
    · rcases (H.out.below hB (Nat.le_refl _)).cells with h0 | ⟨g, o, rfl, hg, hc⟩
      · omega
      have qc := hc k hlt
      clear hc
      by_cases hgood : 0 ≤ zs.getD k 0 ∧ zs.getD k 0 < 60
      · have HGd := Lib.hid hgood
        obtain ⟨h0, h1⟩ := hgood
        obtain ⟨y, hy⟩ := Int.eq_ofNat_of_zero_le h0
        have hy60 : y < 60 := by omega
        have HZ := Lib.hid (takeI_snoc zs k (by rw [H.out.len]; exact hlt))
        rw [hy] at qc
        have HY := Lib.hid hy
        clear hy h0 h1
        have hc0 := cell_of_row wr _ y _ _ _ hrow
        rw [firstV_at _ _ (by omega)] at hc0
        have hf0 := frozen_of_row wr w.heap.size y _ _ hrow
        have HS := Lib.hid (row_store hrow hy60)
        have HB := Lib.hid (hB.setCell (p := ⟨w.heap.size, y, none⟩) (Nat.le_refl _) (.bool true))
        clear hrow hB
        have b1 : (y : Int) < 180 := by omega
        have b2 : (0 : Int) ≤ (y : Int) := by omega
        have b3 : (y : Int) < 60 := by omega
        go_wp2
        go_roundw
        case rel => exact ⟨k + 1, by omega, by go_num, HB.out, by simpa [World.setCell] using hlt0, fun i hi => by
            by_cases e : i = k
            · rw [e]; exact HGd.out
            · exact HA.out i (by omega), by rw [HZ.out, HY.out]; exact HS.out⟩
        case measure => simp [intOf]; omega
      · obtain ⟨y, hy⟩ : ∃ y, zs.getD k 0 = y := ⟨_, rfl⟩
        rw [hy] at qc hgood
        clear hy hrow
        by_cases h0 : y < 0
        · go_wp2
          go_ret2
          exact ⟨rfl, hB⟩
        · have h1 : (60 : Int) ≤ y := by omega
          have h2 : (0 : Int) ≤ y := by omega
          go_wp2
          go_ret2
          exact ⟨rfl, hB⟩
    · exfalso
      have := good_of (l := zs) (fun i hi => HA.out i (by rw [H.out.len] at hi; omega))
      rw [HG.out] at this
      cases this

end Go.Proofs.Ytcljchngjaodgab
