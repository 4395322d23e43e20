/-
  The walk of the model's RowsShare.
-/
import Derived.Test.YtdcedkjoligekaaRowsS
import Derived.OwnWalk
namespace Go.Proofs.Ytdcedkjoligekaa
open Go.RowKit
set_option linter.unusedVariables false

/-- What RowsShare hands back. -/
def ShareOut (rs : List (List Int)) (e : Ending) : Prop := e = .returned (.tuple #[.int .i64 (shareX rs : Nat), .int .i64 (shareY rs : Nat), .bool (shareB rs)])
theorem share_off {rs : List (List Int)} (h : shareB rs = false) : ShareOut rs (.returned (.tuple #[.int .i64 0, .int .i64 0, .bool false])) := by
  unfold ShareOut shareX shareY; rw [h]; rfl

set_option maxRecDepth 100000 in
set_option maxHeartbeats 2000000 in
theorem specShare (a : Option Addr) (n c : Nat) (rs : List (List Int)) (w : World) (h : ReadsR w a n rs) (hn : n ≤ 1048576) (hs : Short rs) :
    Calls Try.prog 45 #[.slice a n c] w fun e w' => ShareOut rs e ∧ Below w.heap.size w w' := by
  cases hg : goodRows rs
  · have HO := Lib.hid (share_off (rs := rs) (by unfold shareB; rw [hg]; rfl))
    have HC := Lib.hid (l3Rows_is a n c rs w h hn hs)
    have HG := Lib.hid hg
    clear hg h
    go_enter Try.func45, Try.ntmps45
    go_wp2_with fail
    refine HC.out.mono ?_
    rintro e w3 ⟨rfl, rfl⟩
    rw [HG.out]
    go_wp2
    go_ret3
    exact ⟨HO.out, Below.refl _ _⟩
  · obtain ⟨l, hl⟩ : ∃ l, l = theRows rs := ⟨_, rfl⟩
    have hlen : l.length = n := by rw [hl]; unfold theRows; rw [List.length_map]; exact h.len
    have hn20 : n ≤ 20 := by have := (goodRows_fits hg).1; rw [← hl] at this; omega
    have HC := Lib.hid (l3Rows_is a n c rs w h hn hs)
    by_cases hM : lcmAll l ≤ 1000000
    · obtain ⟨M, hMd⟩ : ∃ M, M = lcmAll l := ⟨_, rfl⟩
      have hM0 : 0 < M := by rw [hMd]; exact lcmAll_pos l
      have hM1 : M ≤ 1000000 := by omega
      have HM : Hid (∀ w, ReadsR w a n rs → Calls Try.prog 61 #[.slice a n c] w fun e w' => e = .returned (.int .i64 M) ∧ Below w.heap.size w w') := Lib.hid (fun w h => by
        have := l3Multiple_is a n c rs w h hg hn
        rw [← hl, show multS l = M from by unfold multS; rw [if_pos hM, hMd]] at this
        exact this)
      have HMD := Lib.hid hMd
      have HSB : Hid (shareB rs = true) := Lib.hid (by unfold shareB; rw [hg, ← hl]; simp [hM])
      have H := Lib.hid h
      have HG := Lib.hid hg
      have HL := Lib.hid hl
      have f0 : (M : Int) ≠ 0 := by omega
      have f00 : ¬ M = 0 := by omega
      clear hg h hl hMd hM
      go_enter Try.func45, Try.ntmps45
      go_wp2_with fail
      refine HC.out.mono ?_
      rintro e w3 ⟨rfl, rfl⟩
      rw [HG.out]
      go_wp2_with fail
      refine (HM.out _ H.out).mono ?_
      rintro e w4 ⟨rfl, hb4⟩
      have HB4 := Lib.hid hb4
      have H4 := Lib.hid (H.out.below hb4 (Nat.le_refl _))
      clear hb4
      go_wp2_with fail
      refine (HM.out _ H4.out).mono ?_
      rintro e w5 ⟨rfl, hb5⟩
      have HB5 := Lib.hid (HB4.out.trans (hb5.mono HB4.out.size))
      clear hb5
      go_wp2
      go_loopw [6, 7] (fun t i wr => ∃ k T : Nat, k ≤ n ∧ i = .int .i64 k ∧ t = .int .i64 T ∧ T = sumOver M (l.take k) ∧ Below w.heap.size w wr) (fun _ i _ => n - (intOf i).toNat)
      case atStart => exact ⟨0, 0, Nat.zero_le _, rfl, rfl, rfl, HB5.out⟩
      case round =>
        obtain ⟨k, T, hk, rfl, rfl, hT, hB⟩ := hrel
        have hTle : T ≤ 20 * 1000000 := by
          rw [hT]
          refine Nat.le_trans (sumOver_le _ _) (Nat.mul_le_mul ?_ hM1)
          rw [List.length_take]; omega
        have HT := Lib.hid hT
        have HB := Lib.hid hB
        clear hT
        by_cases hlt : k < n
        · obtain ⟨g, o, g', o', c', b, s, rfl, hg1, hg2, q0, q1, q2, hrow, hb59, hs60⟩ := (H.out.below hB (Nat.le_refl _)).rw HG.out hlt
          rw [← HL.out] at hrow
          have HT2 := Lib.hid (sumOver_take M l k (by omega))
          have f1 : (k : Int) < (n : Int) := by omega
          have f2 : (0 : Int) ≤ (k : Int) := by omega
          clear hB
          by_cases h0 : 0 < s
          · have f3 : (0 : Int) < (s : Int) := by omega
            have f4 : (s : Int) ≠ 0 := by omega
            have d1 : 0 ≤ (M : Int) / (s : Int) := Int.ediv_nonneg (by omega) (by omega)
            have d2 : (M : Int) / (s : Int) ≤ 1000000 := by have := Int.ediv_le_self (b := (s : Int)) (show (0 : Int) ≤ (M : Int) from by omega); omega
            have HE : Hid ((T : Int) + (M : Int) / (s : Int) = ((sumOver M (l.take (k + 1)) : Nat) : Int)) := Lib.hid (by rw [HT2.out, hrow, if_pos h0, ← HT.out]; simp)
            clear hrow
            go_wp2
            go_roundw
            case rel => exact ⟨k + 1, _, by omega, by go_num, by rw [HE.out], rfl, HB.out⟩
            case measure => simp [intOf]; omega
          · have f3 : (s : Int) ≤ 0 := by omega
            have HE : Hid (T = sumOver M (l.take (k + 1))) := Lib.hid (by rw [HT2.out, hrow, if_neg h0, ← HT.out]; rfl)
            clear hrow
            go_wp2
            go_roundw
            case rel => exact ⟨k + 1, T, by omega, by go_num, rfl, HE.out, HB.out⟩
            case measure => simp [intOf]; omega
        · obtain rfl : k = n := by omega
          have e : l.take k = l := List.take_of_length_le (by omega)
          obtain ⟨d, hd⟩ : ∃ d, d = Nat.gcd M T := ⟨_, rfl⟩
          have hd0 : 0 < d := by rw [hd]; exact Nat.gcd_pos_of_pos_left _ hM0
          have HD := Lib.hid (fun w => divS_is M T w (by omega) (by omega))
          rw [← hd] at HD
          have HX : Hid ((T : Int) / (d : Int) = ((shareX rs : Nat) : Int)) := Lib.hid (by
            unfold shareX shareG; rw [HSB.out, if_pos rfl, ← HL.out, ← HMD.out, hd, HT.out, e, Nat.gcd_comm]; simp)
          have HY : Hid ((M : Int) / (d : Int) = ((shareY rs : Nat) : Int)) := Lib.hid (by
            unfold shareY shareG; rw [HSB.out, if_pos rfl, ← HL.out, ← HMD.out, hd, HT.out, e, Nat.gcd_comm]; simp)
          have f4 : (d : Int) ≠ 0 := by omega
          have f5 : ¬ d = 0 := by omega
          have d1 : 0 ≤ (T : Int) / (d : Int) := Int.ediv_nonneg (by omega) (by omega)
          have d2 : (T : Int) / (d : Int) ≤ 20000000 := by have := Int.ediv_le_self (b := (d : Int)) (show (0 : Int) ≤ (T : Int) from by omega); omega
          have d3 : 0 ≤ (M : Int) / (d : Int) := Int.ediv_nonneg (by omega) (by omega)
          have d4 : (M : Int) / (d : Int) ≤ 1000000 := by have := Int.ediv_le_self (b := (d : Int)) (show (0 : Int) ≤ (M : Int) from by omega); omega
          clear hd hB
          go_wp2_with fail
          refine (HD.out _).mono ?_
          rintro e w6 ⟨rfl, rfl⟩
          go_wp2
          go_quiet (fail)
          go_wp2
          go_ret3
          exact ⟨by unfold ShareOut; rw [← HX.out, ← HY.out, HSB.out]; rfl, below_drewN HB.out _⟩
    · have HO := Lib.hid (share_off (rs := rs) (by unfold shareB; rw [hg, ← hl]; simp; omega))
      have HM : Hid (Calls Try.prog 61 #[.slice a n c] w fun e w' => e = .returned (.int .i64 0) ∧ Below w.heap.size w w') := Lib.hid (by
        have := l3Multiple_is a n c rs w h hg hn
        rw [← hl, show multS l = 0 from by unfold multS; rw [if_neg hM]] at this
        exact this)
      have HG := Lib.hid hg
      clear hg h hl hM
      go_enter Try.func45, Try.ntmps45
      go_wp2_with fail
      refine HC.out.mono ?_
      rintro e w3 ⟨rfl, rfl⟩
      rw [HG.out]
      go_wp2_with fail
      refine HM.out.mono ?_
      rintro e w4 ⟨rfl, hb4⟩
      have HB4 := Lib.hid hb4
      clear hb4
      go_wp2
      go_ret3
      exact ⟨HO.out, HB4.out⟩
end Go.Proofs.Ytdcedkjoligekaa
