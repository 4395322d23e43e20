/-
  The walk of the law FnSetList.
-/
import Derived.Test.YtndpkmgjmpfgdaaTidyOf
import Derived.Test.YtndpkmgjmpfgdaaDrawS1
import Derived.Test.YtndpkmgjmpfgdaaRowBytes
import Derived.Test.YtndpkmgjmpfgdaaSetList
import Derived.Test.YtndpkmgjmpfgdaaSetHas
namespace Go.Proofs.Ytndpkmgjmpfgdaa
open Go.RowKit

theorem listN_prefix (t r : List Bool) (j : Nat) : ∀ d, ∃ l, listN t r (j + d) = listN t r j ++ l
  | 0 => ⟨[], by simp⟩
  | d + 1 => by
    obtain ⟨l, hl⟩ := listN_prefix t r j d
    rw [← Nat.add_assoc, listN_succ]
    split
    · exact ⟨l ++ [((j + d : Nat) : Int)], by rw [hl, List.append_assoc]⟩
    · exact ⟨l, hl⟩
theorem inN_on {s : ByteArray} {n : Int} (h : inN s n = true) : ∃ k : Nat, inN s n = true ∧ n = k ∧ k ≤ 1000 ∧ okS s = true ∧ listV s n = listN (setT s) (setR s) k := by
  rcases inN_cases s n with ⟨e, _⟩ | h2
  · rw [h] at e; cases e
  · exact h2
theorem listN_at {t r : List Bool} {k x : Nat} (h : hasB t r k = true) (hk : k < x) : (listN t r x).getD (listN t r k).length 0 = (k : Int) ∧ (listN t r k).length < (listN t r x).length := by
  obtain ⟨l, hl⟩ := listN_prefix t r (k + 1) (x - (k + 1))
  rw [show k + 1 + (x - (k + 1)) = x from by omega, listN_hit h] at hl
  rw [hl]
  refine ⟨?_, by simp⟩
  rw [List.getD_eq_getElem?_getD, List.append_assoc, List.getElem?_append_right (Nat.le_refl _), Nat.sub_self]
  rfl

set_option maxHeartbeats 400000 in
theorem sameInts_same (a1 a2 : Option Addr) (n c1 c2 : Nat) (zs : List Int) (w : World) (h1 : ReadsI w a1 n zs) (h2 : ReadsI w a2 n zs) (hn : n ≤ 1048576) :
    Calls Try.prog 42 #[.slice a1 n c1, .slice a2 n c2] w fun e w' => e = .returned (.bool true) ∧ ∃ nd, w' = w.drewN nd := by
  have H1 := Lib.hid h1
  have H2 := Lib.hid h2
  clear h1 h2
  go_enter Try.func42, Try.ntmps42
  go_wp2
  go_loopw [5] (fun i wr => ∃ k : Nat, k ≤ n ∧ i = .int .i64 k ∧ ∃ nd, wr = w.drewN nd) (fun i _ => n - (intOf i).toNat)
  case atStart => exact ⟨0, Nat.zero_le _, rfl, 0, rfl⟩
  case round =>
    obtain ⟨k, hk, rfl, nd, rfl⟩ := hrel
    by_cases hlt : k < n
    · rcases H1.out.cells with h | ⟨g1, o1, rfl, hg1, hc1⟩
      · omega
      rcases H2.out.cells with h | ⟨g2, o2, rfl, hg2, hc2⟩
      · omega
      have q1 := hc1 k hlt
      have q2 := hc2 k hlt
      clear hc1 hc2
      have b1 : (k : Int) < (n : Int) := by omega
      have b2 : (0 : Int) ≤ (k : Int) := by omega
      go_wp2
      go_quiet (fail)
      go_wp2
      go_roundw
      case rel => exact ⟨k + 1, by omega, by go_num, _, rfl⟩
      case measure => simp [intOf]; omega
    · go_wp2
      go_ret
      exact ⟨rfl, nd, rfl⟩

set_option maxRecDepth 100000 in
set_option maxHeartbeats 4000000 in
theorem pSetList (a : Option Addr) (n c : Nat) (zs : List Int) (w : World) (hr : IsRow .u8 w a n c zs) (m : Int) (hg : 0 < w.heap.size) (hm : w.cell? ⟨0, 0, none⟩ = some (.int .i64 m)) :
    Calls Try.prog 11 #[.slice a n c] w fun e w' => e = .returned (.bool true) ∧ Below w.heap.size w w' := by
  by_cases hn : n ≤ 1048576
  · have hL : LibAt m w := ⟨hg, hm⟩
    clear hg hm
    have hB := Lib.hid hr.bytes
    have hC := Lib.hid hr.cap
    clear hr
    go_enter Try.func11, Try.ntmps11
    go_wp2_with fail
    refine (drawSetList a n c _ hB.out hn hC.out).mono ?_
    rintro e w1 ⟨s, x, rfl, hs, hx, hb1⟩
    have hL1 := hL.below hb1
    have hle := listV_le s x
    have HIC := Lib.hid (implCount s x m)
    have HSC := Lib.hid (specCount s x)
    have HLL := Lib.hid (implList s x m)
    have HLS := Lib.hid (specList s x)
    obtain ⟨L, hLd⟩ : ∃ L, L = listV s x := ⟨_, rfl⟩
    obtain ⟨b, hbd⟩ : ∃ b, b = inN s x := ⟨_, rfl⟩
    rw [← hLd, ← hbd] at HIC HSC HLL HLS
    rw [← hLd] at hle
    have HLd := Lib.hid hLd
    have HBd := Lib.hid hbd
    clear hLd hbd
    cases b
    · go_wp2_with fail
      refine (HLL.out _ (by omega) hL1).mono ?_
      rintro e w2 ⟨la2, lc2, rfl, hx2, hown2⟩
      have hb2 := below_step hb1 hx2
      have hL2 := hL1.below hx2
      clear hx2
      go_wp2_with fail
      refine (HLS.out _ (by omega)).mono ?_
      rintro e w3 ⟨la3, lc3, rfl, hx3, hown3⟩
      have hown3b := hx3
      have hb3 := below_step hb2 hx3
      have hL3 := hL2.below hx3
      clear hx3
      have R2 := (readsI_own hown2).below hown3b (Nat.le_refl _)
      have R3 := readsI_own hown3
      clear hown2 hown3 hown3b
      go_wp2_with fail
      refine (sameInts_same la2 la3 L.length lc2 lc3 L _ R2 R3 (by omega)).mono ?_
      rintro e w4 ⟨rfl, nd, rfl⟩
      go_wp2
      go_ret
      exact ⟨rfl, below_drewN hb3 nd⟩
    · go_wp2_with fail
      refine (HLL.out _ (by omega) hL1).mono ?_
      rintro e w2 ⟨la2, lc2, rfl, hx2, hown2⟩
      have hb2 := below_step hb1 hx2
      have hL2 := hL1.below hx2
      clear hx2
      go_wp2_with fail
      refine (HLS.out _ (by omega)).mono ?_
      rintro e w3 ⟨la3, lc3, rfl, hx3, hown3⟩
      have hown3b := hx3
      have hb3 := below_step hb2 hx3
      have hL3 := hL2.below hx3
      clear hx3
      have R2 := (readsI_own hown2).below hown3b (Nat.le_refl _)
      have R3 := readsI_own hown3
      clear hown2 hown3 hown3b
      obtain ⟨z, hz, rfl, hz1, hok, hl⟩ := inN_on HBd.out.symm
      have HLz := Lib.hid (HLd.out.trans hl)
      clear hl hz
      go_wp2_with fail
      refine (sameInts_same la2 la3 L.length lc2 lc3 L _ R2 R3 (by omega)).mono ?_
      rintro e w4 ⟨rfl, nd, rfl⟩
      have HB3 := Lib.hid (below_drewN hb3 nd)
      have HL3 := Lib.hid (hL3.below (below_drewN (Below.refl _ _) nd))
      have HR3 := Lib.hid (R2.below (below_drewN (Below.refl w3.heap.size w3) nd) (Nat.le_refl _))
      clear hb1 hb2 hb3 hL hL1 hL2 hL3 R2 R3
      go_wp2
      go_loopw [10, 11] (fun u i wr => ∃ k : Nat, i = .int .i64 k ∧ k ≤ z ∧ u = .int .i64 ((listN (setT s) (setR s) k).length : Nat) ∧ Below w.heap.size w wr ∧ LibAt m wr ∧ ReadsI wr la2 L.length L) (fun _ i _ => z - (intOf i).toNat)
      case atStart => exact ⟨0, rfl, Nat.zero_le _, rfl, HB3.out, HL3.out, HR3.out⟩
      case round =>
        obtain ⟨k, rfl, hk, rfl, hbz, hLz, hRz⟩ := hrel
        have HBz := Lib.hid hbz
        have HLz2 := Lib.hid hLz
        have HRz := Lib.hid hRz
        clear hbz hLz hRz
        have hle1 := listN_le (setT s) (setR s) k
        by_cases hlt : k < z
        · have hlt' : (k : Int) < (z : Int) := by omega
          have hk1 : setHas s (k : Int) = hasB (setT s) (setR s) k := by unfold setHas; rw [hok, Bool.true_and, hasI_nat]
          cases hv : hasB (setT s) (setR s) k
          · rw [hv] at hk1
            have HM := Lib.hid (listN_miss hv)
            obtain ⟨K, hK⟩ : ∃ K, K = (listN (setT s) (setR s) k).length := ⟨_, rfl⟩
            rw [← hK] at hle1 ⊢
            have HK := Lib.hid hK
            clear hK hv
            go_wp2_with fail
            refine (implSetHas s k m _ (by omega) (by omega) HLz2.out).mono ?_
            rintro e w5 ⟨rfl, hx5⟩
            have HB5 := Lib.hid (below_step HBz.out hx5)
            have HL5 := Lib.hid (HLz2.out.below hx5)
            have HR5 := Lib.hid (HRz.out.below hx5 (Nat.le_refl _))
            clear hx5
            go_wp2
            go_roundw
            case rel => exact ⟨k + 1, by go_num, by omega, by rw [HM.out, HK.out], HB5.out, HL5.out, HR5.out⟩
            case measure => simp [intOf]; omega
          · rw [hv] at hk1
            have HM := Lib.hid (listN_hit hv)
            obtain ⟨hat, hal⟩ := listN_at hv hlt
            rw [← HLz.out] at hat hal
            obtain ⟨K, hK⟩ : ∃ K, K = (listN (setT s) (setR s) k).length := ⟨_, rfl⟩
            rw [← hK] at hle1 hat hal ⊢
            have HK := Lib.hid hK
            clear hK hv
            go_wp2_with fail
            refine (implSetHas s k m _ (by omega) (by omega) HLz2.out).mono ?_
            rintro e w5 ⟨rfl, hx5⟩
            have HB5 := Lib.hid (below_step HBz.out hx5)
            have HL5 := Lib.hid (HLz2.out.below hx5)
            have HR5 := Lib.hid (HRz.out.below hx5 (Nat.le_refl _))
            clear hx5
            rcases HR5.out.cells with h0 | ⟨g, o, rfl, hg, hc⟩
            · omega
            have qc := hc K hal
            rw [hat] at qc
            clear hc hat
            have i1 : (K : Int) < (L.length : Int) := by omega
            have i2 : (0 : Int) ≤ (K : Int) := by omega
            go_wp2
            go_roundw
            case rel => exact ⟨k + 1, by go_num, by omega, by rw [HM.out, List.length_append, ← HK.out]; go_num, HB5.out, HL5.out, HR5.out⟩
            case measure => simp [intOf]; omega
        · obtain rfl : k = z := by omega
          have HE := Lib.hid (congrArg List.length HLz.out)
          rw [← HE.out]
          go_wp2
          go_ret
          exact ⟨rfl, HBz.out⟩
  · have hd : (1048576 : Int) < (n : Int) := by omega
    go_enter Try.func11, Try.ntmps11
    go_wp2
    go_ret
    exact ⟨rfl, Below.refl _ _⟩
end Go.Proofs.Ytndpkmgjmpfgdaa
