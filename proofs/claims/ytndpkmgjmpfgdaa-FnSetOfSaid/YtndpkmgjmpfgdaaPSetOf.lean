/-
  The walk of the law FnSetOf.
-/
import Derived.Test.YtndpkmgjmpfgdaaTidyOf
import Derived.Test.YtndpkmgjmpfgdaaDrawS1
import Derived.Test.YtndpkmgjmpfgdaaRowBytes
import Derived.Test.YtndpkmgjmpfgdaaDrawOf
import Derived.Test.YtndpkmgjmpfgdaaTidyAny
import Derived.Test.YtndpkmgjmpfgdaaSetOf
import Derived.Test.YtndpkmgjmpfgdaaSetEnds
import Derived.Test.YtndpkmgjmpfgdaaSetHas
namespace Go.Proofs.Ytndpkmgjmpfgdaa
open Go.RowKit

theorem ofIs_there (zs : List Int) : ∃ T b, OfIs zs T b := by
  cases h : goodAll zs
  · exact ⟨_, false, .inr ⟨rfl, h, rfl⟩⟩
  · obtain ⟨T, hT⟩ := tidyText_any (t := markT zs) (r := [false]) (by rw [markT_length]; exact Nat.le_refl _) (by decide) (by decide)
    exact ⟨T, true, .inl ⟨rfl, h, hT⟩⟩
theorem mem_listN {t r : List Bool} {n : Nat} {x : Int} : x ∈ listN t r n ↔ ∃ k : Nat, k < n ∧ hasB t r k = true ∧ x = (k : Int) := by
  unfold listN
  rw [List.mem_map]
  constructor
  · rintro ⟨k, hk, rfl⟩
    rw [List.mem_filter, List.mem_range] at hk
    exact ⟨k, hk.1, hk.2, rfl⟩
  · rintro ⟨k, h1, h2, rfl⟩
    exact ⟨k, List.mem_filter.2 ⟨List.mem_range.2 h1, h2⟩, rfl⟩
theorem listN_few (t r : List Bool) : ∀ (n : Nat) (zs : List Int), (∀ k : Nat, k < n → hasB t r k = true → (k : Int) ∈ zs) → (listN t r n).length ≤ zs.length
  | 0, zs, _ => by unfold listN; simp
  | n + 1, zs, h => by
    cases hv : hasB t r n
    · rw [listN_miss hv]; exact listN_few t r n zs (fun k hk => h k (by omega))
    · have hm := h n (by omega) hv
      have ih := listN_few t r n (zs.erase (n : Int)) (fun k hk h2 => (List.mem_erase_of_ne (by omega)).2 (h k (by omega) h2))
      rw [List.length_erase_of_mem hm] at ih
      have h0 : 0 < zs.length := List.length_pos_of_mem hm
      rw [listN_hit hv, List.length_append, List.length_singleton]
      omega
theorem marked_iff {zs : List Int} {k : Nat} : marked zs k = true ↔ (k : Int) ∈ zs := by
  unfold marked
  rw [List.any_eq_true]
  constructor
  · rintro ⟨x, hx, h⟩
    rw [beq_iff_eq] at h
    rw [← h]; exact hx
  · intro h; exact ⟨_, h, by simp⟩
theorem ofIs_same {zs : List Int} {T U : ByteArray} {b d : Bool} (h : OfIs zs T b) (k : OfIs zs U d) : T = U ∧ b = d := by
  rcases h with ⟨rfl, h1, h2⟩ | ⟨rfl, h1, rfl⟩
  · rcases k with ⟨rfl, k1, k2⟩ | ⟨rfl, k1, rfl⟩
    · exact ⟨tidyText_same h2 k2, rfl⟩
    · rw [h1] at k1; cases k1
  · rcases k with ⟨rfl, k1, k2⟩ | ⟨rfl, k1, rfl⟩
    · rw [h1] at k1; cases k1
    · exact ⟨rfl, rfl⟩
/-- What is known of the tidy text of a list. -/
structure OfAll (zs L : List Int) (T : ByteArray) : Prop where
  size : T.size ≤ 122
  list : listV T 100 = L
  isIn : inN T 100 = true
  again : OfIs L T true
  few : L.length ≤ zs.length
  has : ∀ i, i < zs.length → setHas T (zs.getD i 0) = true
  ends : setEnds T = true
theorem ofAll_of {zs : List Int} {T : ByteArray} (hg : goodAll zs = true) (hT : TidyText (fL zs) T) : OfAll zs (listV T 100) T := by
  have hd := hT.told
  have hf : ∀ k, hasB (setT T) (setR T) k = fL zs k := fun k => congrFun hd.set k
  have hin : inN T 100 = true := by unfold inN; rw [hd.ok]; rfl
  have hl : listV T 100 = listN (setT T) (setR T) 100 := by unfold listV; rw [if_pos hin]; rfl
  have hmem : ∀ x, x ∈ listV T 100 ↔ ∃ k : Nat, k < 60 ∧ (k : Int) ∈ zs ∧ x = (k : Int) := by
    intro x
    rw [hl, mem_listN]
    constructor
    · rintro ⟨k, _, h2, h3⟩
      rw [hf] at h2
      rcases Nat.lt_or_ge k 60 with h | h
      · rw [fL_low _ _ h] at h2; exact ⟨k, h, marked_iff.1 h2, h3⟩
      · rw [fL_high _ _ h] at h2; cases h2
    · rintro ⟨k, h1, h2, h3⟩
      refine ⟨k, by omega, ?_, h3⟩
      rw [hf, fL_low _ _ h1]; exact marked_iff.2 h2
  refine ⟨tidyText_size hT, rfl, hin, .inl ⟨rfl, ?_, ?_⟩, ?_, ?_, ?_⟩
  · unfold goodAll
    rw [List.all_eq_true]
    intro x hx
    obtain ⟨k, h1, _, rfl⟩ := (hmem x).1 hx
    exact decide_eq_true (by omega)
  · have e : fL (listV T 100) = fL zs := by
      funext k
      rcases Nat.lt_or_ge k 60 with h | h
      · rw [fL_low _ _ h, fL_low _ _ h, Bool.eq_iff_iff, marked_iff, marked_iff, hmem]
        constructor
        · rintro ⟨j, _, h2, h3⟩; rw [h3]; exact h2
        · intro h2; exact ⟨k, h, h2, rfl⟩
      · rw [fL_high _ _ h, fL_high _ _ h]
    rw [e]; exact hT
  · rw [hl]
    refine listN_few _ _ _ _ (fun k hk h2 => ?_)
    rw [hf] at h2
    rcases Nat.lt_or_ge k 60 with h | h
    · rw [fL_low _ _ h] at h2; exact marked_iff.1 h2
    · rw [fL_high _ _ h] at h2; cases h2
  · intro i hi
    obtain ⟨h1, h2⟩ := good_at hg i hi
    obtain ⟨k, hk⟩ := Int.eq_ofNat_of_zero_le h1
    have hmz : (k : Int) ∈ zs := by
      rw [← hk, List.getD_eq_getElem?_getD, List.getElem?_eq_getElem hi]; exact List.getElem_mem _
    rw [hk]
    unfold setHas
    rw [hd.ok, Bool.true_and, hasI_nat, hf, fL_low _ _ (by omega)]
    exact marked_iff.2 hmz
  · unfold setEnds
    rw [hd.ok, Bool.true_and]
    refine ends_all _ (fun i hi => ?_)
    have h := hf ((setT T).length + (i + 60 * (setR T).length))
    rw [hasB_ring, Nat.add_mul_mod_self_right, Nat.mod_eq_of_lt hi] at h
    rw [h]
    have := Nat.mul_le_mul_left 60 (setR_pos hd.ok)
    exact fL_high _ _ (by omega)

set_option maxRecDepth 100000 in
set_option maxHeartbeats 4000000 in
theorem pSetOf (a : Option Addr) (n c : Nat) (zs : List Int) (w : World) (hr : IsRow .u8 w a n c zs) (m : Int) (hg : 0 < w.heap.size) (hm : w.cell? ⟨0, 0, none⟩ = some (.int .i64 m)) :
    Calls Try.prog 12 #[.slice a n c] w fun e w' => e = .returned (.bool true) ∧ Below w.heap.size w w' := by
  by_cases hn : n ≤ 1048576
  · have hL : LibAt m w := ⟨hg, hm⟩
    clear hg hm
    have hB := Lib.hid hr.bytes
    have hC := Lib.hid hr.cap
    clear hr
    go_enter Try.func12, Try.ntmps12
    go_wp2_with fail
    refine (drawSetOf a n c _ hB.out hn hC.out).mono ?_
    rintro e w1 ⟨a', c', zs, rfl, hR1, hlen, hfew, hb1⟩
    have hL1 := hL.below hb1
    obtain ⟨T, b, hof⟩ := ofIs_there zs
    have HOF := Lib.hid hof
    cases b
    · clear hof hfew
      go_wp2_with fail
      refine (implOf_is a' _ c' zs T _ _ hR1 (by omega) HOF.out).mono ?_
      rintro e w2 ⟨rfl, hx2⟩
      have hb2 := below_step hb1 hx2
      have hL2 := hL1.below hx2
      have hR2 := hR1.below hx2 (Nat.le_refl _)
      clear hx2
      go_wp2_with fail
      refine (specOf_is a' _ c' zs _ hR2 (by omega)).mono ?_
      rintro e w3 ⟨U, b3, rfl, ho3, hx3⟩
      obtain ⟨rfl, rfl⟩ := ofIs_same HOF.out ho3
      have hb3 := below_step hb2 hx3
      clear hx3 ho3
      go_wp2
      go_ret
      exact ⟨ret_bool (by simp), hb3⟩
    · have hall : ∃ L, OfAll zs L T := by
        rcases hof with ⟨_, h2, h3⟩ | ⟨h1, _⟩
        · exact ⟨_, ofAll_of h2 h3⟩
        · cases h1
      obtain ⟨L, hall⟩ := hall
      have HAL := Lib.hid hall
      have HTL := Lib.hid (implList T 100 m)
      have hTs := hall.size
      have hfl := hall.few
      have hend := hall.ends
      rw [hall.list, hall.isIn] at HTL
      clear hof hfew hall
      go_wp2_with fail
      refine (implOf_is a' _ c' zs T _ _ hR1 (by omega) HOF.out).mono ?_
      rintro e w2 ⟨rfl, hx2⟩
      have hb2 := below_step hb1 hx2
      have hL2 := hL1.below hx2
      have hR2 := hR1.below hx2 (Nat.le_refl _)
      clear hx2
      go_wp2_with fail
      refine (specOf_is a' _ c' zs _ hR2 (by omega)).mono ?_
      rintro e w3 ⟨U, b3, rfl, ho3, hx3⟩
      obtain ⟨rfl, rfl⟩ := ofIs_same HOF.out ho3
      have hb3 := below_step hb2 hx3
      have hL3 := hL2.below hx3
      have hR3 := hR2.below hx3 (Nat.le_refl _)
      clear hx3 ho3
      go_wp2_with fail
      refine (HTL.out _ (by omega) hL3).mono ?_
      rintro e w4 ⟨la, lc, rfl, hx4, hown4⟩
      have HB4 := Lib.hid (below_step hb3 hx4)
      have HL4 := Lib.hid (hL3.below hx4)
      have HR4 := Lib.hid (hR3.below hx4 (Nat.le_refl _))
      have HO4 := Lib.hid (readsI_own hown4)
      clear hb1 hb2 hb3 hL hL1 hL2 hL3 hR1 hR2 hR3 hx4 hown4
      go_wp2
      go_loopw [11] (fun i wr => ∃ k : Nat, i = .int .i64 k ∧ k ≤ zs.length ∧ Below w.heap.size w wr ∧ LibAt m wr ∧ ReadsI wr a' zs.length zs ∧ ReadsI wr la L.length L) (fun i _ => zs.length - (intOf i).toNat)
      case atStart => exact ⟨0, rfl, Nat.zero_le _, HB4.out, HL4.out, HR4.out, HO4.out⟩
      case round =>
        obtain ⟨k, rfl, hk, hbz, hLz, hRz, hOz⟩ := hrel
        have HBz := Lib.hid hbz
        have HLz := Lib.hid hLz
        have HRz := Lib.hid hRz
        have HOz := Lib.hid hOz
        clear hbz hLz hRz hOz
        by_cases hlt : k < zs.length
        · rcases HRz.out.cells with h0 | ⟨g, o, rfl, hg, hc⟩
          · omega
          have qc := hc k hlt
          have hhas := HAL.out.has k hlt
          obtain ⟨z, hzd⟩ : ∃ z, z = zs.getD k 0 := ⟨_, rfl⟩
          have hz60 : z ≤ 1000 := by
            rcases HOF.out with ⟨_, hgd, _⟩ | ⟨h1, _⟩
            · have := good_at hgd k hlt; omega
            · cases h1
          rw [← hzd] at qc hhas
          clear hc hzd
          have i1 : (k : Int) < (zs.length : Int) := by omega
          go_wp2_with fail
          refine (implSetHas T z m _ (by omega) (by omega) HLz.out).mono ?_
          rintro e w5 ⟨rfl, hx5⟩
          have HB5 := Lib.hid (below_step HBz.out hx5)
          have HL5 := Lib.hid (HLz.out.below hx5)
          have HR5 := Lib.hid (HRz.out.below hx5 (Nat.le_refl _))
          have HO5 := Lib.hid (HOz.out.below hx5 (Nat.le_refl _))
          clear hx5
          go_wp2
          go_roundw
          case rel => exact ⟨k + 1, by go_num, by omega, HB5.out, HL5.out, HR5.out, HO5.out⟩
          case measure => simp [intOf]; omega
        · obtain rfl : k = zs.length := by omega
          have hfl' : (L.length : Int) ≤ (zs.length : Int) := by omega
          go_wp2_with fail
          refine (implOf_is la _ lc L T true _ HOz.out (by omega) HAL.out.again).mono ?_
          rintro e w5 ⟨rfl, hx5⟩
          have HB5 := Lib.hid (below_step HBz.out hx5)
          have HL5 := Lib.hid (HLz.out.below hx5)
          clear hx5
          go_wp2_with fail
          refine (implSetEnds T m _ (by omega) HL5.out).mono ?_
          rintro e w6 ⟨rfl, hx6⟩
          have HB6 := Lib.hid (below_step HB5.out hx6)
          clear hx6
          go_wp2
          go_ret
          exact ⟨rfl, HB6.out⟩
  · have hd : (1048576 : Int) < (n : Int) := by omega
    go_enter Try.func12, Try.ntmps12
    go_wp2
    go_ret
    exact ⟨rfl, Below.refl _ _⟩
end Go.Proofs.Ytndpkmgjmpfgdaa
