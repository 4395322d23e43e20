/-
  The walk of the law FnSumTimes.
-/
import Derived.Test.YtcacdgojibojgadPSumBase
import Derived.Test.YtcacdgojibojgadSpecSum
import Derived.Test.YtcacdgojibojgadSumTimesI
import Derived.Test.YtcacdgojibojgadSameI
import Derived.Test.YtcacdgojibojgadSetOne
set_option linter.unusedVariables false
set_option linter.unusedSimpArgs false
namespace Go.Proofs.Ytcacdgojibojgad
open Go.RowKit

theorem times_true {s : ByteArray} {x : Int} {T : ByteArray} (h : TimesIs s x T true) : smallS s = true ∧ ∃ k : Nat, x = k ∧ k ≤ 6 ∧ ChainIs s k T := by
  cases e : (smallS s && inR x 0 6)
  · exact absurd (h.2 e).1 (by decide)
  · obtain ⟨e1, e2⟩ := and_both e
    rcases h.1 e with ⟨_, hc⟩ | ⟨h2, _⟩
    · rcases inR_cases x 0 6 with ⟨_, k1, k2⟩ | ⟨h3, _⟩
      · obtain ⟨k, rfl⟩ := Int.eq_ofNat_of_zero_le (show 0 ≤ x by omega)
        exact ⟨e1, k, rfl, by omega, hc⟩
      · rw [e2] at h3; cases h3
    · cases h2
theorem times_back {s : ByteArray} {k : Nat} {T U V : ByteArray} (h : TimesIs s k T true) (hU : TimesIs s ((k : Int) - 1) U true) (hV : MakeIs (smallS U && smallS s) (sumG false (fS U) (fS s)) V true) : V = T := by
  obtain ⟨_, j, hj, _, h1⟩ := times_true h
  obtain ⟨_, i, hi, _, h2⟩ := times_true hU
  obtain rfl : j = i + 1 := by omega
  obtain ⟨W, h3, h4⟩ := h1
  obtain rfl := chain_unique h3 h2
  exact (makeIs_unique hV h4).1
theorem chain_zero {s T : ByteArray} {k : Nat} (h : ChainIs s k T) (hk : k = 0) : T = ⟨#[49, 40, 48, 41]⟩ := by subst hk; exact h
theorem chain_one {s T : ByteArray} {k : Nat} (h : ChainIs s k T) (hk : k = 1) (hs : smallS s = true) : okS T = true ∧ fS T = fS s := by
  subst hk
  obtain ⟨U, h1, h2⟩ := h
  have hU : U = ⟨#[49, 40, 48, 41]⟩ := h1
  have ht := (makeIs_told h2).2.told
  refine ⟨ht.ok, ?_⟩
  rw [ht.set, hU, show fS ⟨#[49, 40, 48, 41]⟩ = zeroOnly from tidyText_zeroOnly.told.set]
  funext n
  apply bool_iff
  rw [sumG_iff]
  constructor
  · rintro ⟨x, y, e, h3, h4, _⟩
    unfold zeroOnly at h3
    rw [decide_eq_true_iff] at h3
    rw [show n = y from by omega]; exact h4
  · intro h3
    exact ⟨0, n, by omega, rfl, h3, by simp⟩

set_option maxRecDepth 100000 in
set_option maxHeartbeats 4000000 in
theorem pSumTimes (a : Option Addr) (n c : Nat) (zs : List Int) (w : World) (hr : IsRow .u8 w a n c zs) (m : Int) (hg : 0 < w.heap.size) (hm : w.cell? ⟨0, 0, none⟩ = some (.int .i64 m)) :
    Calls Try.prog 4 #[.slice a n c] w fun e w' => e = .returned (.bool true) ∧ Below w.heap.size w w' := by
  by_cases hn : n ≤ 1048576
  · have hL : LibAt m w := ⟨hg, hm⟩
    clear hg hm
    have hB := Lib.hid hr.bytes
    have hC := Lib.hid hr.cap
    clear hr
    go_enter Try.func4, Try.ntmps4
    go_wp2_with fail
    refine (drawSumTimes a n c _ hB.out hn hC.out).mono ?_
    rintro e w1 ⟨s, x, rfl, hs, hx, hb1⟩
    have HB1 := Lib.hid hb1
    have HL1 := Lib.hid (hL.below hb1)
    clear hb1
    go_wp2_with fail
    refine (implTimes s x m _ (by omega) HL1.out).mono ?_
    rintro e w2 ⟨⟨T, b, rfl, hm2⟩, hx2⟩
    have HB2 := Lib.hid (below_step HB1.out hx2)
    have HL2 := Lib.hid (HL1.out.below hx2)
    have HM := Lib.hid hm2
    clear hx2 hm2
    go_wp2_with fail
    refine (specTimes s x _ (by omega)).mono ?_
    rintro e w3 ⟨⟨U, c, rfl, hm3⟩, hx3⟩
    have HB3 := Lib.hid (below_step HB2.out hx3)
    have HL3 := Lib.hid (HL2.out.below hx3)
    obtain ⟨rfl, rfl⟩ := times_unique HM.out hm3
    clear hx3 hm3
    cases b
    · go_wp2
      go_ret
      exact ⟨ret_bool (by simp), HB3.out⟩
    · obtain ⟨hok, k, rfl, hk6, hch⟩ := times_true HM.out
      have HO1 := Lib.hid (small_ok hok)
      have HCH := Lib.hid hch
      have HTs := chain_size hch
      clear hch
      go_wp2_with fail
      refine (implTimes s ((k : Int) - 1) m _ (by omega) HL3.out).mono ?_
      rintro e w4 ⟨⟨V, p, rfl, hm4⟩, hx4⟩
      have HB4 := Lib.hid (below_step HB3.out hx4)
      have HL4 := Lib.hid (HL3.out.below hx4)
      have HU := Lib.hid hm4
      have HUs := times_size hm4
      clear hx4 hm4
      go_wp2_with fail
      refine (implSum V s m _ HUs (by omega) HL4.out).mono ?_
      rintro e w5 ⟨⟨X, q, rfl, hm5⟩, hx5⟩
      have HB5 := Lib.hid (below_step HB4.out hx5)
      have HL5 := Lib.hid (HL4.out.below hx5)
      have HV : Hid (p = true → q = true → X = T) := Lib.hid (fun h1 h2 => by subst h1; subst h2; exact times_back HM.out HU.out hm5)
      clear hx5 hm5
      have HR := Lib.hid (one_read w5)
      have HB5 := Lib.hid (HB5.out.alloc HB5.out.size (.cells #[.int .i64 0] 3))
      have HL5 := Lib.hid (HL5.out.below ((Below.refl _ _).alloc (Nat.le_refl _) (.cells #[.int .i64 0] 3)))
      go_wp2_with fail
      refine (implOf_on (some ⟨w5.heap.size, 0, none⟩) 1 1 [0] ⟨#[49, 40, 48, 41]⟩ _ HR.out (by decide) (by decide) tidy_one).mono ?_
      rintro e w6 ⟨rfl, hx6⟩
      have HB6 := Lib.hid (below_step HB5.out hx6)
      have HL6 := Lib.hid (HL5.out.below hx6)
      clear hx6
      by_cases h0 : k = 0
      · have hk0 : (k : Int) = 0 := by omega
        have hT0 := chain_zero HCH.out h0
        subst hT0
        clear h0
        cases p
        · go_wp2
          go_ret
          exact ⟨ret_bool (by simp), HB6.out⟩
        · cases q
          · go_wp2
            go_ret
            exact ⟨ret_bool (by simp), HB6.out⟩
          · obtain rfl := HV.out rfl rfl
            go_wp2
            go_ret
            exact ⟨ret_bool (by simp), HB6.out⟩
      · have hk0 : ¬ (k : Int) = 0 := by omega
        by_cases h1 : k = 1
        · have hk1 : (k : Int) = 1 := by omega
          obtain ⟨hTo, hTf⟩ := chain_one HCH.out h1 hok
          have hcall := implSame_on T s m w6 HTs (by omega) HL6.out hTo HO1.out
          rw [same_agree hTo HO1.out (b := true) (by simp [hTf])] at hcall
          clear h0 h1 hTo hTf
          cases p
          · go_wp2_with fail
            refine hcall.mono ?_
            rintro e w7 ⟨rfl, hx7⟩
            go_wp2
            go_ret
            exact ⟨ret_bool (by simp), below_step HB6.out hx7⟩
          · cases q
            · go_wp2_with fail
              refine hcall.mono ?_
              rintro e w7 ⟨rfl, hx7⟩
              go_wp2
              go_ret
              exact ⟨ret_bool (by simp), below_step HB6.out hx7⟩
            · obtain rfl := HV.out rfl rfl
              go_wp2_with fail
              refine hcall.mono ?_
              rintro e w7 ⟨rfl, hx7⟩
              go_wp2
              go_ret
              exact ⟨ret_bool (by simp), below_step HB6.out hx7⟩
        · have hk1 : ¬ (k : Int) = 1 := by omega
          clear h0 h1
          cases p
          · go_wp2
            go_ret
            exact ⟨ret_bool (by simp), HB6.out⟩
          · cases q
            · go_wp2
              go_ret
              exact ⟨ret_bool (by simp), HB6.out⟩
            · obtain rfl := HV.out rfl rfl
              go_wp2
              go_ret
              exact ⟨ret_bool (by simp), HB6.out⟩
  · have hd : (1048576 : Int) < (n : Int) := by omega
    go_enter Try.func4, Try.ntmps4
    go_wp2
    go_ret
    exact ⟨rfl, Below.refl _ _⟩
end Go.Proofs.Ytcacdgojibojgad
