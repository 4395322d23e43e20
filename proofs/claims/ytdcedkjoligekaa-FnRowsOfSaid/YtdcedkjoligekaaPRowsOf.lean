/-
  The walk of the law on RowsOf: the rows of a set tell it.
-/
import Derived.Test.YtdcedkjoligekaaDrawSet
import Derived.Test.YtdcedkjoligekaaRowsOfS
import Derived.Test.YtdcedkjoligekaaRowsOfI
import Derived.Test.YtdcedkjoligekaaRowsOfTold
import Derived.Test.YtdcedkjoligekaaLawRows
import Derived.Test.YtdcedkjoligekaaRowsSetI
import Derived.Test.YtdcedkjoligekaaRowsHas
import Derived.Test.YtdcedkjoligekaaSetTidyI
import Derived.Test.YtdcedkjoligekaaRowBytes
namespace Go.Proofs.Ytdcedkjoligekaa
open Go.RowKit
set_option linter.unusedVariables false

set_option maxRecDepth 100000 in
set_option maxHeartbeats 1000000 in
theorem drawRowsOf (a : Option Addr) (n c : Nat) (w : World) (h : Bytes w a n) (hn : n ≤ 1048576) (hc : n ≤ c) :
    Calls Try.prog 23 #[.slice a n c] w fun e w' => ∃ s : ByteArray, e = .returned (.string s) ∧ s.size ≤ 12 ∧ Below w.heap.size w w' := by
  go_enter Try.func23, Try.ntmps23
  go_wp2_with fail
  refine (open_rd a n c _ h hn hc).mono ?_
  rintro e w1 ⟨n', rfl, hrd, hap⟩
  go_wp2_with fail
  refine (set_rd hrd (by omega)).mono ?_
  rintro e w2 ⟨s, p2, rfl, hs, hp2, hrd2, hap2⟩
  go_wp2
  go_ret
  exact ⟨s, rfl, hs, (hap.trans hap2).below⟩

set_option maxHeartbeats 400000 in
theorem sameInts_rows (a1 a2 : Option Addr) (n c1 c2 : Nat) (zs : List Int) (w : World) (h1 : ReadsI w a1 n zs) (h2 : ReadsI w a2 n zs) (hn : n ≤ 1048576) :
    Calls Try.prog 34 #[.slice a1 n c1, .slice a2 n c2] w fun e w' => e = .returned (.bool true) ∧ ∃ nd, w' = w.drewN nd := by
  have H1 := Lib.hid h1
  have H2 := Lib.hid h2
  clear h1 h2
  go_enter Try.func34, Try.ntmps34
  go_wp2
  go_loopw [5] (fun i wr => ∃ k : Nat, k ≤ n ∧ i = .int .i64 k ∧ ∃ nd, wr = w.drewN nd) (fun i _ => n - (intOf i).toNat)
  case atStart => exact ⟨0, Nat.zero_le _, rfl, 0, rfl⟩
  case round =>
    obtain ⟨k, hk, rfl, nd, rfl⟩ := hrel
    by_cases hlt : k < n
    · rcases H1.out.cells with h | ⟨g1, o1, rfl, hg1, hc1⟩
      · omega
      rcases H2.out.cells with h | ⟨g2, o2, rfl, hg2, hc2⟩
      · omega
      have q1 := hc1 k hlt
      have q2 := hc2 k hlt
      clear hc1 hc2
      have b1 : (k : Int) < (n : Int) := by omega
      have b2 : (0 : Int) ≤ (k : Int) := by omega
      go_wp2
      go_quiet (fail)
      go_wp2
      go_roundw
      case rel => exact ⟨k + 1, by omega, by go_num, _, rfl⟩
      case measure => simp [intOf]; omega
    · go_wp2
      go_ret
      exact ⟨rfl, nd, rfl⟩

set_option maxRecDepth 100000 in
set_option maxHeartbeats 1000000 in
theorem sameRows_same (a1 a2 : Option Addr) (n c1 c2 : Nat) (rs : List (List Int)) (w : World) (h1 : ReadsR w a1 n rs) (h2 : ReadsR w a2 n rs) (hn : n ≤ 1048576) (hs : Short rs) :
    Calls Try.prog 26 #[.slice a1 n c1, .slice a2 n c2] w fun e w' => e = .returned (.bool true) ∧ Below w.heap.size w w' := by
  have H1 := Lib.hid h1
  have H2 := Lib.hid h2
  have HS := Lib.hid hs
  clear h1 h2 hs
  go_enter Try.func26, Try.ntmps26
  go_wp2
  go_loopw [5] (fun i wr => ∃ k : Nat, k ≤ n ∧ i = .int .i64 k ∧ Below w.heap.size w wr) (fun i _ => n - (intOf i).toNat)
  case atStart => exact ⟨0, Nat.zero_le _, rfl, Below.refl _ _⟩
  case round =>
    obtain ⟨k, hk, rfl, hB⟩ := hrel
    have HB := Lib.hid hB
    by_cases hlt : k < n
    · obtain ⟨g1, o1, rfl, hg1, b1, d1, q1, r1⟩ := (H1.out.below hB (Nat.le_refl _)).row hlt
      obtain ⟨g2, o2, rfl, hg2, b2, d2, q2, r2⟩ := (H2.out.below hB (Nat.le_refl _)).row hlt
      have hd := HS.out k (by rw [H1.out.len]; exact hlt)
      obtain ⟨d, hde⟩ : ∃ d, d = (rs.getD k []).length := ⟨_, rfl⟩
      obtain ⟨zs, hz⟩ : ∃ zs, zs = rs.getD k [] := ⟨_, rfl⟩
      rw [← hde] at q1 q2 r1 r2 hd
      rw [← hz] at r1 r2
      have R1 := Lib.hid r1
      have R2 := Lib.hid r2
      clear r1 r2 hde hz hB
      have HQ := Lib.hid (fun m => sameInts_rows b1 b2 d d1 d2 zs (wr.drewN m) (readsI_drewN R1.out _) (readsI_drewN R2.out _) hd)
      have f1 : (k : Int) < (n : Int) := by omega
      have f2 : (0 : Int) ≤ (k : Int) := by omega
      go_wp2
      go_quiet ((go_at_call 34; exact Calls.quiet_of (HQ.out _)))
      go_wp2
      go_roundw
      case rel => exact ⟨k + 1, by omega, by go_num, below_drewN HB.out _⟩
      case measure => simp [intOf]; omega
    · go_wp2
      go_ret
      exact ⟨rfl, HB.out⟩

theorem has_manyOf {rs : List (List Int)} {k : Nat} (hg : goodRows rs = true) (hk : k ≤ 10000) : hasOk rs k = true ∧ hasMany rs k = cnt (theRows rs) k := by
  have h : hasOk rs k = true := by
    unfold hasOk
    rw [hg, Bool.true_and]
    exact decide_eq_true (by omega)
  exact ⟨h, by unfold hasMany; rw [h, if_pos rfl]; rfl⟩

set_option maxRecDepth 100000 in
set_option maxHeartbeats 4000000 in
theorem pRowsOf (a : Option Addr) (n c : Nat) (zs : List Int) (w : World) (hr : IsRow .u8 w a n c zs) (m : Int) (hg : 0 < w.heap.size) (hm : w.cell? ⟨0, 0, none⟩ = some (.int .i64 m)) :
    Calls Try.prog 5 #[.slice a n c] w fun e w' => e = .returned (.bool true) ∧ Below w.heap.size w w' := by
  by_cases hn : n ≤ 1048576
  · have hL : LibAt m w := ⟨hg, hm⟩
    have HD := Lib.hid (drawRowsOf a n c w hr.bytes hn hr.cap)
    clear hg hm hr
    go_enter Try.func5, Try.ntmps5
    go_wp2_with fail
    refine HD.out.mono ?_
    rintro e w1 ⟨s, rfl, hs, hb1⟩
    have hs2 : s.size ≤ 1048576 := by omega
    have B1 := Lib.hid hb1
    have L1 := Lib.hid (hL.below hb1)
    clear hb1 hL
    cases hok : okS s
    · have HOK := Lib.hid hok
      clear hok
      go_wp2_with fail
      refine (implRowsOf_off s m _ hs2 L1.out HOK.out).mono ?_
      rintro e w2 ⟨a1, n1, c1, rfl, hb2, ho2⟩
      obtain ⟨rfl, r2⟩ := ho2.reads
      have B2 := Lib.hid (B1.out.trans (hb2.mono B1.out.size))
      have R2 := Lib.hid r2
      clear hb2 r2 ho2
      go_wp2_with fail
      refine (specRowsOf_off s _ hs2 HOK.out).mono ?_
      rintro e w3 ⟨a2, n2, c2, rfl, hb3, ho3⟩
      obtain ⟨rfl, r3⟩ := ho3.reads
      have B3 := Lib.hid (B2.out.trans (hb3.mono B2.out.size))
      have R3 := Lib.hid (R2.out.below hb3 (Nat.le_refl _))
      have R4 := Lib.hid r3
      clear hb3 r3 ho3
      go_wp2_with fail
      refine (sameRows_same a1 a2 _ c1 c2 [] _ R3.out R4.out (by simp) (fun i hi => absurd hi (Nat.not_lt_zero _))).mono ?_
      rintro e w4 ⟨rfl, hb4⟩
      have B4 := Lib.hid (B3.out.trans (hb4.mono B3.out.size))
      clear hb4
      go_wp2
      go_ret
      exact ⟨rfl, B4.out⟩
    · obtain ⟨T, q, ht, hT, hq⟩ := tidy_there hok
      have HOK := Lib.hid hok
      have HT := Lib.hid ht
      obtain ⟨U, hU⟩ : ∃ U : ByteArray, U = ⟨(textOf (part (fS s) 0 T) (part (fS s) T q)).toArray⟩ := ⟨_, rfl⟩
      have HTT : Hid (TidyText (fS s) U) := Lib.hid ⟨T, q, ht, hT, hq, hU⟩
      obtain ⟨hl20, hl2⟩ := ofRows_small (fS s) T q
      obtain ⟨rs, hrs⟩ : ∃ rs, rs = ofRows (fS s) T q := ⟨_, rfl⟩
      have HI := Lib.hid (fun w hl => implRowsOf_on s T q m w hs2 hl hok ht hT hq)
      have HJ := Lib.hid (fun w => specRowsOf_on s T q w hs2 hok ht hT hq)
      rw [← hrs] at HI HJ hl20 hl2
      have HSH : Hid (Short rs) := Lib.hid (fun i hi => Nat.le_trans (hl2 i hi) (by decide))
      have HRS := Lib.hid hrs
      obtain ⟨b, hb⟩ : ∃ b, b = okOf (fS s) T q := ⟨_, rfl⟩
      rw [← hb] at HI HJ
      have HBB := Lib.hid hb
      clear hok ht hU hl2 hrs hb
      go_wp2_with fail
      refine (HI.out _ L1.out).mono ?_
      rintro e w2 ⟨a1, n1, c1, rfl, hb2, ho2⟩
      obtain ⟨rfl, r2⟩ := ho2.reads
      have B2 := Lib.hid (B1.out.trans (hb2.mono B1.out.size))
      have L2 := Lib.hid (L1.out.below hb2)
      have R2 := Lib.hid r2
      clear hb2 r2 ho2
      go_wp2_with fail
      refine (HJ.out _).mono ?_
      rintro e w3 ⟨a2, n2, c2, rfl, hb3, ho3⟩
      obtain ⟨rfl, r3⟩ := ho3.reads
      have B3 := Lib.hid (B2.out.trans (hb3.mono B2.out.size))
      have L3 := Lib.hid (L2.out.below hb3)
      have R3 := Lib.hid (R2.out.below hb3 (Nat.le_refl _))
      have R3' := Lib.hid r3
      clear hb3 r3 ho3
      go_wp2_with fail
      refine (sameRows_same a1 a2 _ c1 c2 rs _ R3.out R3'.out (by omega) HSH.out).mono ?_
      rintro e w4 ⟨rfl, hb4⟩
      have B4 := Lib.hid (B3.out.trans (hb4.mono B3.out.size))
      have L4 := Lib.hid (L3.out.below hb4)
      have R4 := Lib.hid (R3.out.below hb4 (Nat.le_refl _))
      clear hb4
      cases b
      · go_wp2
        go_ret
        exact ⟨rfl, B4.out⟩
      · have hrn : rs = rowsN (fS s) T q (T + q) := by rw [HRS.out]; exact ofRows_on HBB.out.symm
        have HGD : Hid (goodRows rs = true) := Lib.hid (by rw [HRS.out]; exact ofRows_good _ _ _)
        have HF : Hid ((fun n => decide (0 < cnt (theRows rs) n)) = fS s) := Lib.hid (by rw [hrn]; exact rowsOf_told HT.out)
        have HC : Hid (∀ n, cnt (theRows rs) n ≤ 1) := Lib.hid (fun n => by rw [hrn, rowsOf_count HT.out]; split <;> omega)
        have hcall := fun w h hl => implRowsSet a1 rs.length c1 rs m w h (by omega) HSH.out hl
        rw [HF.out, HGD.out] at hcall
        have HCALL := Lib.hid hcall
        clear hrn hcall
        go_wp2_with fail
        refine (HCALL.out _ R4.out L4.out).mono ?_
        rintro e w5 ⟨⟨V, b5, rfl, hm5⟩, hb5⟩
        obtain ⟨rfl, rfl⟩ : V = U ∧ b5 = true := made_unique (hm5.1 rfl) (.inl ⟨rfl, HTT.out⟩)
        have B5 := Lib.hid (B4.out.trans (hb5.mono B4.out.size))
        have L5 := Lib.hid (L4.out.below hb5)
        have R5 := Lib.hid (R4.out.below hb5 (Nat.le_refl _))
        clear hb5 hm5
        go_wp2_with fail
        refine (implTidy_on s V m _ hs2 L5.out HOK.out HTT.out).mono ?_
        rintro e w6 ⟨rfl, hb6⟩
        have B6 := Lib.hid (B5.out.trans (hb6.mono B5.out.size))
        have R6 := Lib.hid (R5.out.below hb6 (Nat.le_refl _))
        clear hb6
        go_wp2
        go_loopw [13] (fun i wr => ∃ k : Nat, k ≤ 101 ∧ i = .int .i64 k ∧ Below w6.heap.size w6 wr) (fun i _ => 101 - (intOf i).toNat)
        case atStart => exact ⟨0, by omega, rfl, Below.refl _ _⟩
        case round =>
          obtain ⟨k, hk, rfl, hB⟩ := hrel
          have HB := Lib.hid hB
          by_cases hlt : k ≤ 100
          · obtain ⟨ho, hmany⟩ := has_manyOf (rs := rs) (k := k) HGD.out (by omega)
            have hkk := implRowsHas a1 rs.length c1 rs k wr (R6.out.below hB (Nat.le_refl _)) (by omega) HSH.out
            obtain ⟨x, hx⟩ : ∃ x, x = cnt (theRows rs) k := ⟨_, rfl⟩
            rw [ho, hmany, ← hx] at hkk
            have hx1 : x ≤ 1 := by rw [hx]; exact HC.out k
            have HKK := Lib.hid hkk
            have f2 : (x : Int) ≤ 1 := by omega
            have f3 : decide ((1 : Int) < (x : Int)) = false := decide_eq_false (by omega)
            clear hB ho hmany hx hkk
            go_wp2_with fail
            refine HKK.out.mono ?_
            rintro e w7 ⟨rfl, hb7⟩
            have HB7 := Lib.hid (HB.out.trans (hb7.mono HB.out.size))
            clear hb7
            go_wp2
            go_roundw
            case rel => exact ⟨k + 1, by omega, by go_num, HB7.out⟩
            case measure => simp [intOf]; omega
          · obtain rfl : k = 101 := by omega
            go_wp2
            go_ret
            exact ⟨ret_bool (by simp), B6.out.trans (HB.out.mono B6.out.size)⟩
  · have hd : (1048576 : Int) < (n : Int) := by omega
    clear hr
    go_enter Try.func5, Try.ntmps5
    go_wp2
    go_ret
    exact ⟨rfl, Below.refl _ _⟩
end Go.Proofs.Ytdcedkjoligekaa
