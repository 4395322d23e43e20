/-
  The walk of the model's RowsSet, where the common multiple of the steps is small.
-/
import Derived.Test.YtdcedkjoligekaaManyS
import Derived.Test.YtdcedkjoligekaaMarks
import Derived.Test.YtdcedkjoligekaaRowsSetI
namespace Go.Proofs.Ytdcedkjoligekaa
open Go.RowKit
set_option linter.unusedVariables false
set_option linter.unusedSimpArgs false

/-- The set that rows tell. -/
def rowsF (rs : List (List Int)) (n : Nat) : Bool := decide (0 < cnt (theRows rs) n)

set_option maxRecDepth 100000 in
set_option maxHeartbeats 2000000 in
theorem specRowsSet (a : Option Addr) (n c : Nat) (rs : List (List Int)) (w : World) (h : ReadsR w a n rs) (hn : n ≤ 1048576) (hs : Short rs) (hsm : goodRows rs = true → lcmAll (theRows rs) ≤ 60) :
    Calls Try.prog 21 #[.slice a n c] w fun e w' => MakeEnd (goodRows rs) (rowsF rs) e ∧ Below w.heap.size w w' := by
  have HC := Lib.hid (l3Rows_is a n c rs w h hn hs)
  cases hg : goodRows rs
  · have HG := Lib.hid hg
    clear hg h hsm
    go_enter Try.func21, Try.ntmps21
    go_wp2_with fail
    refine HC.out.mono ?_
    rintro e w1 ⟨rfl, rfl⟩
    rw [HG.out]
    go_wp2
    go_ret2
    exact ⟨makeEnd_off rfl, Below.refl _ _⟩
  · have hM := hsm hg
    obtain ⟨i0, hi, hz0, hz1, hz2⟩ := info_parts Try.infoBool
    obtain ⟨K, hK⟩ : ∃ K, K = lcmAll (theRows rs) := ⟨_, rfl⟩
    have hK0 : 0 < K := by rw [hK]; exact lcmAll_pos _
    have hmult := l3Multiple_is a n c rs w h hg hn
    rw [show multS (theRows rs) = K from by unfold multS; rw [if_pos (by omega), hK]] at hmult
    have HMU := Lib.hid hmult
    have hper : ∀ n, 60 ≤ n → rowsF rs (n + K) = rowsF rs n := fun n hn => by rw [hK]; exact rows_per (goodRows_fits hg).2 n hn
    rw [← hK] at hM
    have HP := Lib.hid hper
    have HMA := Lib.hid (fun w x h hx => l3Many_is a n c rs x w h hg hx)
    have HCN := Lib.hid (fun x => cnt_le (theRows rs) x)
    have HF20 := Lib.hid (goodRows_fits hg).1
    have H := Lib.hid h
    have HG := Lib.hid hg
    have f0 : (K : Int) ≠ 0 := by omega
    have f00 : ¬ K = 0 := by omega
    have f01 : ((K : Int) == 0) = false := by rw [beq_eq_false_iff_ne]; omega
    have f02 : decide ((60000 : Int) < (K : Int)) = false := decide_eq_false (by omega)
    have f03 : (K : Int) ≤ 60000 := by omega
    clear hmult h hg hK hper hsm
    go_enter Try.func21, Try.ntmps21
    go_wp2_with fail
    refine HC.out.mono ?_
    rintro e w1 ⟨rfl, rfl⟩
    rw [HG.out]
    go_wp2_with fail
    refine HMU.out.mono ?_
    rintro e w2 ⟨rfl, hb2⟩
    have HB2 := Lib.hid hb2
    have hs2 := hb2.size
    have HST := Lib.hid (marks_start (rowsF rs) w w2 w.heap.size w.heap.size hs2 hs2 hb2)
    clear hb2
    go_wp2
    go_loopw [5, 6] (fun v i wr => ∃ k : Nat, k ≤ 60 + K ∧ i = .int .i64 k ∧ Marks (rowsF rs) w.heap.size w.heap.size w wr v k) (fun _ i _ => 60 + K - (intOf i).toNat)
    case atStart => exact ⟨0, Nat.zero_le _, rfl, HST.out⟩
    case round =>
      obtain ⟨k, hk, rfl, hmk⟩ := hrel
      have hsz := hmk.below.size
      have HMK := Lib.hid hmk
      by_cases hlt : k < 60 + K
      · have f1 : (k : Int) < 60 + (K : Int) := by omega
        obtain ⟨d, hd⟩ : ∃ d, d = cnt (theRows rs) k := ⟨_, rfl⟩
        have HMC := Lib.hid (HMA.out wr k (H.out.below hmk.below (Nat.le_refl _)) (by omega))
        rw [← hd] at HMC
        have hd20 : d ≤ 20 := by rw [hd]; exact Nat.le_trans (HCN.out k) HF20.out
        have HFK : Hid (rowsF rs k = decide (0 < d)) := Lib.hid (by unfold rowsF; rw [hd])
        clear hmk hd
        go_wp2_with fail
        refine HMC.out.mono ?_
        rintro e w3 ⟨rfl, hb3⟩
        have HM3 := Lib.hid (HMK.out.step hsz hb3)
        have hsz3 : w.heap.size ≤ w3.heap.size := HM3.out.below.size
        have hown3 := HM3.out.own
        clear hb3
        by_cases h0 : 0 < d
        · have f2 : (0 : Int) < (d : Int) := by omega
          have hfk : Hid (rowsF rs k = true) := Lib.hid (by rw [HFK.out]; exact decide_eq_true h0)
          go_wp2_with
            (at_builtin; refine wpList_append_own _ rfl _ _ 71 rfl w.heap.size 4 i0 (.bool false) 1 1 Try.underlying71 hi hz0 hz1 hz2 rfl (by decide) _ _ _ rfl (hown3.alloc _) ⟨w3.heap.size, 0, none⟩ 1 1 [.bool true] rfl rfl ?c1 ?c2 ?c3 ?c4 ?c5 ?_)
          case c1 =>
            intro j u hj
            match j, hj with
            | 0, hj => simp at hj; subst hj; simp [Addr.add, h0]
          case c2 => intro u hu; simp at hu; subst hu; rfl
          case c3 => unfold maxLen; omega
          case c4 => omega
          case c5 => simp; omega
          intro v' w5 hown5 hgrow _
          have HM5 := Lib.hid (HM3.out.grow hfk.out (Nat.le_refl _) hsz3 hown5 hgrow)
          clear hown5 hgrow hown3
          go_wp2
          go_roundw
          case rel => exact ⟨k + 1, by omega, by go_num, HM5.out⟩
          case measure => simp [intOf]; omega
        · have f2 : (d : Int) ≤ 0 := by omega
          have hfk : Hid (rowsF rs k = false) := Lib.hid (by rw [HFK.out]; exact decide_eq_false h0)
          go_wp2_with
            (at_builtin; refine wpList_append_own _ rfl _ _ 71 rfl w.heap.size 4 i0 (.bool false) 1 1 Try.underlying71 hi hz0 hz1 hz2 rfl (by decide) _ _ _ rfl (hown3.alloc _) ⟨w3.heap.size, 0, none⟩ 1 1 [.bool false] rfl rfl ?c1 ?c2 ?c3 ?c4 ?c5 ?_)
          case c1 =>
            intro j u hj
            match j, hj with
            | 0, hj => simp at hj; subst hj; simp [Addr.add, h0]
          case c2 => intro u hu; simp at hu; subst hu; rfl
          case c3 => unfold maxLen; omega
          case c4 => omega
          case c5 => simp; omega
          intro v' w5 hown5 hgrow _
          have HM5 := Lib.hid (HM3.out.grow hfk.out (Nat.le_refl _) hsz3 hown5 hgrow)
          clear hown5 hgrow hown3
          go_wp2
          go_roundw
          case rel => exact ⟨k + 1, by omega, by go_num, HM5.out⟩
          case measure => simp [intOf]; omega
      · obtain rfl : k = 60 + K := by omega
        obtain ⟨a', c', hv⟩ := own_form hmk.own
        subst hv
        have HB := Lib.hid hmk.below
        have HFI := Lib.hid (fill_any (rowsF rs) 60 K c' w.heap.size a' wr hmk.own hK0 (by decide) (by omega) HP.out)
        clear hmk
        go_wp2_with fail
        refine HFI.out.mono ?_
        rintro e w6 ⟨⟨T, b, rfl, hmade⟩, hb6⟩
        have HME := Lib.hid (makeEnd_on hmade)
        have HB6 := Lib.hid (HB.out.trans (hb6.mono HB.out.size))
        clear hb6 hmade
        go_wp2
        go_ret2
        exact ⟨HME.out, HB6.out⟩
end Go.Proofs.Ytdcedkjoligekaa
