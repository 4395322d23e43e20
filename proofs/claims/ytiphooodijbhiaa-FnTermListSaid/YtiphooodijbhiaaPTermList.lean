/-
  The walk of the law FnTermList.
-/
import Derived.Test.YtiphooodijbhiaaPTermBase
import Derived.Test.YtiphooodijbhiaaDrawTermList
import Derived.Test.YtiphooodijbhiaaTermList
import Derived.Test.YtiphooodijbhiaaSameInts
set_option linter.unusedVariables false
set_option linter.unusedSimpArgs false
namespace Go.Proofs.Ytiphooodijbhiaa
open Go.RowKit

theorem sameB (a1 a2 : Option Addr) (n c1 c2 : Nat) (zs : List Int) (w : World) (h1 : ReadsI w a1 n zs) (h2 : ReadsI w a2 n zs) (hn : n ≤ 1048576) :
    Calls Try.prog 46 #[.slice a1 n c1, .slice a2 n c2] w fun e w' => e = .returned (.bool true) ∧ Below w.heap.size w w' := by
  refine (sameInts_same a1 a2 n c1 c2 zs w h1 h2 hn).mono ?_
  rintro e w' ⟨rfl, nd, rfl⟩
  exact ⟨rfl, below_drewN (Below.refl _ _) nd⟩
theorem tlist_on (s : ByteArray) (x : Int) : tlistB s x = true → ∃ (t : Tm) (z : Nat), termOf s.data.toList = some t ∧ x = z ∧ z ≤ 200 ∧ tlistV s x = listF (tmF t) z := fun h => by
  cases ht : termOf s.data.toList with
  | none => rw [(tlist_none ht).2] at h; cases h
  | some t =>
    rcases inR_cases x 0 200 with ⟨_, h1, h2⟩ | ⟨e, _⟩
    · obtain ⟨z, rfl⟩ := Int.eq_ofNat_of_zero_le h1
      exact ⟨t, z, rfl, rfl, by omega, (tlist_in ht (by omega)).1⟩
    · rw [(tlist_out ht e).2] at h; cases h
theorem listF_prefix (f : Nat → Bool) (j : Nat) : ∀ d, ∃ l, listF f (j + d) = listF f j ++ l
  | 0 => ⟨[], by simp⟩
  | d + 1 => by
    obtain ⟨l, hl⟩ := listF_prefix f j d
    rw [← Nat.add_assoc]
    cases hv : f (j + d)
    · exact ⟨l, by rw [listF_miss hv]; exact hl⟩
    · exact ⟨l ++ [((j + d : Nat) : Int)], by rw [listF_hit hv, hl, List.append_assoc]⟩
theorem listF_at {f : Nat → Bool} {k x : Nat} (h : f k = true) (hk : k < x) : (listF f x).getD (listF f k).length 0 = (k : Int) ∧ (listF f k).length < (listF f x).length := by
  obtain ⟨l, hl⟩ := listF_prefix f (k + 1) (x - (k + 1))
  rw [show k + 1 + (x - (k + 1)) = x from by omega, listF_hit h] at hl
  rw [hl]
  refine ⟨?_, by simp⟩
  rw [List.getD_eq_getElem?_getD, List.append_assoc, List.getElem?_append_right (Nat.le_refl _), Nat.sub_self]
  rfl

set_option maxRecDepth 100000 in
set_option maxHeartbeats 4000000 in
theorem pTermList (a : Option Addr) (n c : Nat) (zs : List Int) (w : World) (hr : IsRow .u8 w a n c zs) (m : Int) (hg : 0 < w.heap.size) (hm : w.cell? ⟨0, 0, none⟩ = some (.int .i64 m)) :
    Calls Try.prog 10 #[.slice a n c] w fun e w' => e = .returned (.bool true) ∧ Below w.heap.size w w' := by
  by_cases hn : n ≤ 1048576
  · have hL : LibAt m w := ⟨hg, hm⟩
    clear hg hm
    have hB := Lib.hid hr.bytes
    have hC := Lib.hid hr.cap
    clear hr
    go_enter Try.func10, Try.ntmps10
    go_wp2_with fail
    refine (drawTermList a n c _ hB.out hn hC.out).mono ?_
    rintro e w1 ⟨s, x, rfl, hs, hx, hb1⟩
    have HB1 := Lib.hid hb1
    have HL1 := Lib.hid (hL.below hb1)
    clear hb1
    have H1 := Lib.hid (fun W hL => implTermList s x m W hL)
    have H2 := Lib.hid (fun W => specTermList s x W)
    have hle := tlistV_le s x
    have hon := tlist_on s x
    obtain ⟨L, hLd⟩ : ∃ L, L = tlistV s x := ⟨_, rfl⟩
    obtain ⟨b, hbd⟩ : ∃ b, b = tlistB s x := ⟨_, rfl⟩
    rw [← hLd, ← hbd] at H1 H2 hon
    rw [← hLd] at hle
    have HOn := Lib.hid hon
    clear hLd hbd hon
    go_wp2_with fail
    refine (H1.out _ HL1.out).mono ?_
    rintro e w2 ⟨la2, lc2, rfl, hx2, ho2⟩
    have HB2 := Lib.hid (below_step HB1.out hx2)
    have HL2 := Lib.hid (HL1.out.below hx2)
    have R2 := Lib.hid (readsI_own ho2)
    clear hx2 ho2
    go_wp2_with fail
    refine (H2.out _).mono ?_
    rintro e w3 ⟨la3, lc3, rfl, hx3, ho3⟩
    have HB3 := Lib.hid (below_step HB2.out hx3)
    have HL3 := Lib.hid (HL2.out.below hx3)
    have R3 := Lib.hid (readsI_own ho3)
    have R2 := Lib.hid (R2.out.below hx3 (Nat.le_refl _))
    clear hx3 ho3
    cases b
    · go_wp2_with fail
      refine (sameB la2 la3 L.length lc2 lc3 L _ R2.out R3.out (by omega)).mono ?_
      rintro e w4 ⟨rfl, hx4⟩
      have HB4 := Lib.hid (below_step HB3.out hx4)
      have HL4 := Lib.hid (HL3.out.below hx4)
      clear hx4
      go_wp2
      go_ret
      exact ⟨ret_bool (by simp), HB4.out⟩
    · obtain ⟨t, z, ht, rfl, hz, hl⟩ := HOn.out rfl
      have HT := Lib.hid ht
      have HLz := Lib.hid hl
      clear ht hl
      go_wp2_with fail
      refine (sameB la2 la3 L.length lc2 lc3 L _ R2.out R3.out (by omega)).mono ?_
      rintro e w4 ⟨rfl, hx4⟩
      have HB4 := Lib.hid (below_step HB3.out hx4)
      have HL4 := Lib.hid (HL3.out.below hx4)
      have R2 := Lib.hid (R2.out.below hx4 (Nat.le_refl _))
      clear hx4
      go_wp2
      go_loopw [10, 11] (fun u i wr => ∃ k : Nat, i = .int .i64 k ∧ k ≤ z ∧ u = .int .i64 ((listF (tmF t) k).length : Nat) ∧ Below w.heap.size w wr ∧ LibAt m wr ∧ ReadsI wr la2 L.length L) (fun _ i _ => z - (intOf i).toNat)
      case atStart => exact ⟨0, rfl, Nat.zero_le _, rfl, HB4.out, HL4.out, R2.out⟩
      case round =>
        obtain ⟨k, rfl, hk, rfl, hbz, hLz, hRz⟩ := hrel
        have HBz := Lib.hid hbz
        have HLz2 := Lib.hid hLz
        have HRz := Lib.hid hRz
        clear hbz hLz hRz
        have hle1 := listF_le (tmF t) k
        by_cases hlt : k < z
        · have hlt' : (k : Int) < (z : Int) := by omega
          have hk1 : hasTV s (k : Int) = tmF t k := hasTV_in HT.out (by omega)
          have HC := Lib.hid (fun W hL => implTermHas s k m W hL)
          rw [hk1] at HC
          cases hv : tmF t k
          · rw [hv] at HC
            have HM := Lib.hid (listF_miss hv)
            obtain ⟨K, hK⟩ : ∃ K, K = (listF (tmF t) k).length := ⟨_, rfl⟩
            rw [← hK] at hle1 ⊢
            have HK := Lib.hid hK
            clear hK hv hk1
            go_wp2_with fail
            refine (HC.out _ HLz2.out).mono ?_
            rintro e w8 ⟨rfl, hx8⟩
            have HB8 := Lib.hid (below_step HBz.out hx8)
            have HL8 := Lib.hid (HLz2.out.below hx8)
            have HR8 := Lib.hid (HRz.out.below hx8 (Nat.le_refl _))
            clear hx8
            go_wp2
            go_roundw
            case rel => exact ⟨k + 1, by go_num, by omega, by rw [HM.out, HK.out], HB8.out, HL8.out, HR8.out⟩
            case measure => simp [intOf]; omega
          · rw [hv] at HC
            have HM := Lib.hid (listF_hit hv)
            obtain ⟨hat, hal⟩ := listF_at hv hlt
            rw [← HLz.out] at hat hal
            obtain ⟨K, hK⟩ : ∃ K, K = (listF (tmF t) k).length := ⟨_, rfl⟩
            rw [← hK] at hle1 hat hal ⊢
            have HK := Lib.hid hK
            clear hK hv hk1
            go_wp2_with fail
            refine (HC.out _ HLz2.out).mono ?_
            rintro e w8 ⟨rfl, hx8⟩
            have HB8 := Lib.hid (below_step HBz.out hx8)
            have HL8 := Lib.hid (HLz2.out.below hx8)
            have HR8 := Lib.hid (HRz.out.below hx8 (Nat.le_refl _))
            clear hx8
            rcases HR8.out.cells with h0 | ⟨g, o, rfl, hg, hc⟩
            · omega
            have qc := hc K hal
            rw [hat] at qc
            clear hc hat
            have i1 : (K : Int) < (L.length : Int) := by omega
            have i2 : (0 : Int) ≤ (K : Int) := by omega
            go_wp2
            go_roundw
            case rel => exact ⟨k + 1, by go_num, by omega, by rw [HM.out, List.length_append, ← HK.out]; go_num, HB8.out, HL8.out, HR8.out⟩
            case measure => simp [intOf]; omega
        · obtain rfl : k = z := by omega
          have HE := Lib.hid (congrArg List.length HLz.out)
          rw [← HE.out]
          go_wp2
          go_ret
          exact ⟨ret_bool (by simp), HBz.out⟩
  · have hd : (1048576 : Int) < (n : Int) := by omega
    go_enter Try.func10, Try.ntmps10
    go_wp2
    go_ret
    exact ⟨rfl, Below.refl _ _⟩

end Go.Proofs.Ytiphooodijbhiaa
