/-
  The walk of the exact law on StarParts: the lists agree, and what is written into one of them is met by no other.
-/
import Derived.Test.YtcacdgojibojgabStarPartsS
import Derived.Test.YtcacdgojibojgabStarPartsI
import Derived.Test.YtcacdgojibojgabLawInts
namespace Go.Proofs.Ytcacdgojibojgab
open Go.RowKit

theorem partsV_le (s : ByteArray) : (partsV s).length ≤ 2001 := by
  unfold partsV
  split
  · rw [List.length_map]; unfold parts; exact Nat.le_trans (List.length_filter_le _ _) (by simp)
  · exact Nat.zero_le _

set_option maxRecDepth 100000 in
set_option maxHeartbeats 1000000 in
theorem lawStarParts (s : ByteArray) (_ : s.size ≤ maxLen) (m : Int) (w : World) (hg : 0 < w.heap.size) (hm : w.cell? ⟨0, 0, none⟩ = some (.int .i64 m)) :
    Calls Try.prog 11 #[.string s] w fun e w' => e = .returned (.bool true) ∧ Below w.heap.size w w' := by
  by_cases hs : s.size ≤ 1048576
  · have hL : LibAt m w := ⟨hg, hm⟩
    clear hg hm
    have hle := partsV_le s
    have HLL := Lib.hid (fun W => implParts s m W)
    have HLS := Lib.hid (fun W => specParts s W)
    unfold PartsEnd at HLL HLS
    obtain ⟨L, hLd⟩ : ∃ L, L = partsV s := ⟨_, rfl⟩
    obtain ⟨b, hbd⟩ : ∃ b, b = partsOk s := ⟨_, rfl⟩
    rw [← hLd, ← hbd] at HLL HLS
    rw [← hLd] at hle
    clear hLd hbd
    go_enter Try.func11, Try.ntmps11
    go_wp2_with fail
    refine (HLS.out _ hs).mono ?_
    rintro e w1 ⟨a0, c0, rfl, hb1, hown1⟩
    have hL1 := hL.below hb1
    have R0 := readsI_own hown1
    clear hown1
    go_wp2_with fail
    refine (HLL.out _ hs hL1).mono ?_
    rintro e w2 ⟨a1, c1, rfl, hb2, hown2⟩
    have R0' := R0.below hb2 (Nat.le_refl _)
    have R1 := readsI_own hown2
    go_wp2_with fail
    refine (eqIntS_same a1 a0 L.length c1 c0 L _ R1 R0' (by omega)).mono ?_
    rintro e w3 ⟨rfl, nd, rfl⟩
    have hown3 := own_drewN hown2 nd
    have hb3 : Below w1.heap.size w1 (w2.drewN nd) := below_drewN hb2 nd
    clear hown2 R0' R1 hb2
    go_wp2_with fail
    refine (markIntS_any w1.heap.size a1 L.length c1 1 L _ hown3 (by omega) (by omega)).mono ?_
    rintro e w4 ⟨rfl, hb4', hown4⟩
    have hb4 := hb3.trans hb4'
    clear hb4' hown3 hb3
    have R1 := readsI_own hown4
    go_wp2_with fail
    refine (heldIntS_any a1 L.length c1 1 _ R1 (by omega) (by omega)).mono ?_
    rintro e w5 ⟨rfl, rfl⟩
    go_wp2_with fail
    refine (HLL.out _ hs (hL.below (hb1.trans (hb4.mono hb1.size)))).mono ?_
    rintro e w6 ⟨a2, c2, rfl, hb6, hown6⟩
    have R2 := readsI_own hown6
    have R0' := (R0.below hb4 (Nat.le_refl _)).below hb6 (Nat.le_refl _)
    have R1' := R1.below hb6 (Nat.le_refl _)
    go_wp2_with fail
    refine (eqIntS_same a2 a0 L.length c2 c0 L _ R2 R0' (by omega)).mono ?_
    rintro e w7 ⟨rfl, nd2, rfl⟩
    have R1'' := readsI_drewN R1' nd2
    go_wp2_with fail
    refine (heldIntS_any a1 L.length c1 1 _ R1'' (by omega) (by omega)).mono ?_
    rintro e w8 ⟨rfl, rfl⟩
    go_wp2
    go_ret
    exact ⟨rfl, below_drewN ((hb1.trans (hb4.mono hb1.size)).trans (hb6.mono (Nat.le_trans hb1.size hb4.size))) nd2⟩
  · have hd : (1048576 : Int) < (s.size : Int) := by omega
    go_enter Try.func11, Try.ntmps11
    go_wp2
    go_ret
    exact ⟨rfl, Below.refl _ _⟩
end Go.Proofs.Ytcacdgojibojgab
