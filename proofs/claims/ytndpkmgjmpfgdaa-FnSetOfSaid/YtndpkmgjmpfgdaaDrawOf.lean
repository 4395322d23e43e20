/-
  The walk of the drawing of a list of numbers, for SetOf.
-/
import Derived.Test.YtndpkmgjmpfgdaaDrawSet
import Derived.Test.YtndpkmgjmpfgdaaInts
import Derived.Test.YtndpkmgjmpfgdaaSetList
namespace Go.Proofs.Ytndpkmgjmpfgdaa
open Go.RowKit

theorem ints_grown {B : Nat} {W wr w1 : World} {u v' : Value} {zs : List Int} {z : Int} {n : Nat} {o : Obj}
    (hown : wr.ownsRow B 3 1 u n (ints zs)) (hnx : Below B W wr) (hBs : B ≤ wr.heap.size)
    (hown' : w1.ownsRow B 3 1 v' (n + 1) (ints zs ++ [.int .i64 z])) (hgrow : (wr.alloc o).grownBy w1 u.ownBlock) :
    w1.ownsRow B 3 1 v' (n + 1) (ints (zs ++ [z])) ∧ Below B W w1 := by
  refine ⟨by rw [ints_snoc]; exact hown', ?_⟩
  exact (hnx.alloc hBs o).grown hgrow (by simp; omega) (fun j hj => (hown.lt j hj).1)
theorem ints_start0 (w : World) : (w.alloc (.cells #[] 3)).ownsRow w.heap.size 3 1 (.slice (some ⟨w.heap.size, 0, none⟩) 0 0) 0 (ints []) := by
  have h := World.ownsRow_made (base := w.heap.size) (e := 3) (size := 1) w #[] 0 (by simp) (by decide) rfl
  exact h
/-- Numbers as they are drawn. -/
def Few (zs : List Int) : Prop := ∀ z ∈ zs, -1 ≤ z ∧ z ≤ 60
theorem few_snoc {zs : List Int} {z : Int} (h : Few zs) (hz : -1 ≤ z ∧ z ≤ 60) : Few (zs ++ [z]) := by
  intro x hx
  rcases List.mem_append.1 hx with k | k
  · exact h x k
  · rw [List.mem_singleton.1 k]; exact hz

set_option maxRecDepth 100000 in
set_option maxHeartbeats 4000000 in
theorem drawSetOf (a : Option Addr) (n c : Nat) (w : World) (h : Bytes w a n) (hn : n ≤ 1048576) (hc : n ≤ c) :
    Calls Try.prog 43 #[.slice a n c] w fun e w' => ∃ a' c' zs, e = .returned (.slice a' zs.length c') ∧ ReadsI w' a' zs.length zs ∧ zs.length ≤ 7 ∧ Few zs ∧ Below w.heap.size w w' := by
  obtain ⟨i0, hi, hz0, hz1, hz2⟩ := info_parts Try.infoInt
  go_enter Try.func43, Try.ntmps43
  go_wp2_with fail
  refine (open_rd a n c _ h hn hc).mono ?_
  rintro e w1 ⟨n', rfl, hrd, hap⟩
  have hR1 := hrd.lt
  have HO1 := Lib.hid (ints_start0 w1)
  have hrd1 := hrd.below ((Below.refl w1.heap.size w1).alloc (Nat.le_refl _) (.cells #[] 3)) hR1
  have HA1 := Lib.hid (hap.trans (Apart.of_below (Nat.le_of_lt hR1) ((Below.refl w1.heap.size w1).alloc (Nat.le_refl _) (.cells #[] 3))))
  clear hrd hap
  go_wp2_with fail
  refine (pick_rd hrd1 7 (by omega) (by omega) (by omega)).mono ?_
  rintro e w2 ⟨v, rfl, hv, hrd2, hap2, hsz2⟩
  have HO2 := Lib.hid (own_apart HO1.out hap2 hR1)
  have HA2 := Lib.hid (HA1.out.trans hap2)
  have HR2 := Lib.hid hrd2
  have hS : w1.heap.size ≤ w2.heap.size := by rw [hsz2]; simp
  clear hrd1 hap2 hrd2 hsz2
  go_wp2
  go_loopw [4, 5] (fun u i wr => ∃ (k : Nat) (zs : List Int), i = .int .i64 k ∧ k + zs.length ≤ 6 ∧ Few zs ∧ (∃ p, p + 4 * k ≤ 40 ∧ Rd w.heap.size a n' c p wr) ∧ Apart w.heap.size w wr ∧ w1.heap.size ≤ wr.heap.size ∧ wr.ownsRow w1.heap.size 3 1 u zs.length (ints zs) ∧ ∃ g cap, u = .slice (some ⟨g, 0, none⟩) zs.length cap)
    (fun _ i _ => (intOf i).toNat)
  case atStart => exact ⟨v, [], rfl, by simp; omega, fun z hz => (by cases hz), ⟨_, by omega, HR2.out⟩, HA2.out, hS, HO2.out, _, _, rfl⟩
  case round =>
    obtain ⟨k, zs, rfl, hkl, hfew, ⟨p, hp, hrd⟩, hap, hS3, hown, g, cap, rfl⟩ := hrel
    have HF := Lib.hid hfew
    have HA := Lib.hid hap
    clear hfew hap
    by_cases h0 : k = 0
    · subst h0
      go_wp2_with fail
      refine (pick_rd hrd 16 (by omega) (by omega) (by omega)).mono ?_
      rintro e w3 ⟨y, rfl, hy, hrd3, hap3, hsz3⟩
      have HA3 := Lib.hid (HA.out.trans hap3)
      have hown3 := own_apart hown hap3 hR1
      have hR3 := hrd3.lt
      clear hown hrd hap3
      by_cases hy0 : y = 0
      · subst hy0
        have HSZ := Lib.hid hsz3
        clear hsz3
        go_wp2_with fail
        refine (pick_rd (hrd3.below ((Below.refl _ _).alloc (Nat.le_refl _) _) hR3) 2 (by omega) (by omega) (by omega)).mono ?_
        rintro e w4 ⟨x, rfl, hx, hrd4, hap4, hsz4⟩
        have hx2 : (x : Int) < 2 := by omega
        have hcell := table_cell hap4 hR3 x
        obtain ⟨z, hz, hz1'⟩ : ∃ z : Int, w4.cell? ⟨w3.heap.size, x, none⟩ = some (.int .i64 z) ∧ (-1 ≤ z ∧ z ≤ 60) := by
          have : x = 0 ∨ x = 1 := by omega
          rcases this with rfl | rfl
          · exact ⟨-1, hcell, by omega⟩
          · exact ⟨60, hcell, by omega⟩
        clear hcell
        have HA4 := Lib.hid (HA3.out.trans ((Apart.of_below (Nat.le_of_lt hR3) ((Below.refl _ _).alloc (Nat.le_refl _) _)).trans hap4))
        have hown4 := own_apart (hown3.alloc _) hap4 hR1
        have hsz4' : w3.heap.size ≤ w4.heap.size := by have := hap4.below.size; simp at this; omega
        clear hap4 hrd4 hsz4 hown3 hrd3
        go_wp2_with
          (at_builtin; refine wpList_append_own _ rfl _ _ 38 rfl w1.heap.size 3 i0 (.int .i64 0) 1 8 Try.underlying38 hi hz0 hz1 hz2 rfl (by decide) _ _ _ rfl (hown4.alloc _) ⟨w4.heap.size, 0, none⟩ 1 1 [.int .i64 z] rfl rfl ?c1 ?c2 ?c3 ?c4 ?c5 ?_)
        case c1 =>
          intro j u hj
          match j, hj with
          | 0, hj => simp at hj; subst hj; simp [Addr.add]
        case c2 => intro u hu; simp at hu; subst hu; rfl
        case c3 => unfold maxLen; omega
        case c4 => omega
        case c5 => have := HSZ.out; simp; omega
        intro v' w5 hown5 hgrow _
        have HB5 := Lib.hid (ints_grown hown4 (Below.refl w1.heap.size w4) (by have := HSZ.out; omega) hown5 hgrow)
        clear hown5 hgrow hown4
        obtain ⟨g', cap', hf⟩ := own_some HB5.out.1 (by omega)
        subst hf
        have HL5 := Lib.hid (HA4.out.below.trans (HB5.out.2.mono (Nat.le_of_lt hR1)))
        have HRd := Lib.hid (readsI_own (zs := zs ++ [z]) HB5.out.1)
        go_wp2
        go_ret
        refine ⟨_, _, zs ++ [z], by rw [List.length_append]; rfl, by rw [List.length_append]; exact HRd.out, by simp; omega, few_snoc HF.out hz1', HL5.out⟩
      · have hb : ((y : Int) == 0) = false := by rw [beq_eq_false_iff_ne]; omega
        have HRd := Lib.hid (readsI_own hown3)
        go_wp2
        go_ret
        exact ⟨_, _, zs, rfl, HRd.out, by omega, HF.out, HA3.out.below⟩
    · have hk1 : (0 : Int) < (k : Int) := by omega
      have hkp : p + 4 ≤ 40 := by omega
      have HP := Lib.hid hp
      clear hp
      go_wp2_with fail
      refine (pick_rd hrd 12 (by omega) (by omega) (by omega)).mono ?_
      rintro e w3 ⟨y1, rfl, hy1, hrd3, hap3, hsz3⟩
      have hown3 := own_apart hown hap3 hR1
      clear hown
      have HA3 := Lib.hid (HA.out.trans hap3)
      clear hap3
      have HS3 := Lib.hid hsz3
      clear hsz3
      go_wp2_with fail
      refine (pick_rd hrd3 60 (by omega) (by omega) (by omega)).mono ?_
      rintro e w4 ⟨y2, rfl, hy2, hrd4, hap4, hsz4⟩
      have hown4 := own_apart hown3 hap4 hR1
      clear hown3
      have HA4 := Lib.hid (HA3.out.trans hap4)
      clear hap4
      have HS4 := Lib.hid (hsz4.trans HS3.out)
      clear hsz4
      have hR4 := hrd4.lt
      go_wp2_with fail
      refine (pick_rd (hrd4.below ((Below.refl _ _).alloc (Nat.le_refl _) _) hR4) 3 (by omega) (by omega) (by omega)).mono ?_
      rintro e w5 ⟨x, rfl, hx, hrd5, hap5, hsz5⟩
      have hx3 : (x : Int) < 3 := by omega
      have hcell := table_cell hap5 hR4 x
      obtain ⟨z, hz, hz1'⟩ : ∃ z : Int, w5.cell? ⟨w4.heap.size, x, none⟩ = some (.int .i64 z) ∧ (-1 ≤ z ∧ z ≤ 60) := by
        have : x = 0 ∨ x = 1 ∨ x = 2 := by omega
        rcases this with rfl | rfl | rfl
        · exact ⟨y1, hcell, by omega⟩
        · exact ⟨y2, hcell, by omega⟩
        · exact ⟨59, hcell, by omega⟩
      clear hcell
      have HA5 := Lib.hid (HA4.out.trans ((Apart.of_below (Nat.le_of_lt hR4) ((Below.refl _ _).alloc (Nat.le_refl _) _)).trans hap5))
      have hown5 := own_apart (hown4.alloc _) hap5 hR1
      have hsz5' : w4.heap.size ≤ w5.heap.size := by have := hap5.below.size; simp at this; omega
      have HR5 := Lib.hid hrd5
      clear hap5 hrd5 hsz5 hown4 hrd4 hrd3 hrd
      go_wp2_with
        (at_builtin; refine wpList_append_own _ rfl _ _ 38 rfl w1.heap.size 3 i0 (.int .i64 0) 1 8 Try.underlying38 hi hz0 hz1 hz2 rfl (by decide) _ _ _ rfl (hown5.alloc _) ⟨w5.heap.size, 0, none⟩ 1 1 [.int .i64 z] rfl rfl ?d1 ?d2 ?d3 ?d4 ?d5 ?_)
      case d1 =>
        intro j u hj
        match j, hj with
        | 0, hj => simp at hj; subst hj; simp [Addr.add]
      case d2 => intro u hu; simp at hu; subst hu; rfl
      case d3 => unfold maxLen; omega
      case d4 => omega
      case d5 => have := HS4.out; simp; omega
      intro v' w6 hown6 hgrow _
      have HB6 := Lib.hid (ints_grown hown5 (Below.refl w1.heap.size w5) (by have := HS4.out; omega) hown6 hgrow)
      clear hown6 hgrow hown5
      obtain ⟨g', cap', hf⟩ := own_some HB6.out.1 (by omega)
      subst hf
      have hsz6 := HB6.out.2.size
      go_wp2
      go_roundw
      case rel =>
        refine ⟨k - 1, zs ++ [z], by go_num, by simp; omega, few_snoc HF.out hz1', ⟨p + 3, by have := HP.out; omega, HR5.out.below HB6.out.2 hR1⟩, ⟨HA5.out.below.trans (HB6.out.2.mono (Nat.le_of_lt hR1)), fun i hi hr => ?_⟩, by have := HS4.out; omega, by simpa using HB6.out.1, g', cap', by rw [List.length_append]; rfl⟩
        exact (HB6.out.2.block i (by omega)).trans (HA5.out.block i hi hr)
      case measure => simp [intOf]; omega
end Go.Proofs.Ytndpkmgjmpfgdaa
