/-
  The walk of the program's RowsShare.
-/
import Derived.Test.YtdcedkjoligekaaRowGoing
import Derived.Test.YtdcedkjoligekaaShareMath
import Derived.OwnWalk
namespace Go.Proofs.Ytdcedkjoligekaa
open Go.RowKit
set_option linter.unusedVariables false

theorem lcmAll_going (l : List Rw) : lcmAll (going l) = lcmAll l := by
  have : ∀ (l : List Rw) m, (going l).foldl (fun m r => if 0 < r.s then Nat.lcm m r.s else m) m = l.foldl (fun m r => if 0 < r.s then Nat.lcm m r.s else m) m := by
    intro l
    induction l with
    | nil => intro m; rfl
    | cons r l ih =>
      intro m
      by_cases h0 : 0 < r.s
      · have e : going (r :: l) = r.early :: going l := by unfold going; rw [List.filter_cons_of_pos (by simpa using h0)]; rfl
        rw [e, List.foldl_cons, List.foldl_cons, ih]; rfl
      · have e : going (r :: l) = going l := by unfold going; rw [List.filter_cons_of_neg (by simpa using h0)]
        rw [e, List.foldl_cons, if_neg h0, ih]
  exact this l 1
theorem sumOver_going (M : Nat) (l : List Rw) : sumOver M (going l) = sumOver M l := by
  induction l with
  | nil => rfl
  | cons r l ih =>
    have e2 : ∀ q (l : List Rw), sumOver M (q :: l) = (if 0 < q.s then M / q.s else 0) + sumOver M l := fun q l => by unfold sumOver; rfl
    by_cases h0 : 0 < r.s
    · have e : going (r :: l) = r.early :: going l := by unfold going; rw [List.filter_cons_of_pos (by simpa using h0)]; rfl
      rw [e, e2, e2, ih]; rfl
    · have e : going (r :: l) = going l := by unfold going; rw [List.filter_cons_of_neg (by simpa using h0)]
      rw [e, e2, if_neg h0, Nat.zero_add, ih]
theorem going_pos {l : List Rw} {i : Nat} (h : i < (going l).length) : 0 < ((going l).getD i default).s := by
  obtain ⟨r, _, h0, e⟩ := going_mem (mem_getD h)
  rw [e]; exact h0
theorem going_fits {l : List Rw} (hf : ∀ r ∈ l, r.Fits) : ∀ q ∈ going l, q.Fits ∧ q.Early := by
  intro q hq
  obtain ⟨r, hr, h0, rfl⟩ := going_mem hq
  exact ⟨⟨Nat.le_trans (Nat.mod_le _ _) (hf r hr).1, (hf r hr).2⟩, early_ok h0⟩

def ShareOutI (rs : List (List Int)) (e : Ending) : Prop := e = .returned (.tuple #[.int .i64 (shareX rs : Nat), .int .i64 (shareY rs : Nat), .bool (shareB rs)])
theorem share_offI {rs : List (List Int)} (h : shareB rs = false) : ShareOutI rs (.returned (.tuple #[.int .i64 0, .int .i64 0, .bool false])) := by
  unfold ShareOutI shareX shareY; rw [h]; rfl

/-- One row more: the least common multiple and the sum. -/
theorem share_step {g : List Rw} {k s : Nat} (hk : k < g.length) (hs : (g.getD k default).s = s) (h0 : 0 < s) (hall : ∀ r ∈ g, 0 < r.s) :
    lcmAll (g.take (k + 1)) = Nat.lcm (lcmAll (g.take k)) s ∧
    sumOver (Nat.lcm (lcmAll (g.take k)) s) (g.take (k + 1)) = sumOver (lcmAll (g.take k)) (g.take k) * (Nat.lcm (lcmAll (g.take k)) s / lcmAll (g.take k)) + Nat.lcm (lcmAll (g.take k)) s / s := by
  constructor
  · rw [lcmAll_take g k hk, hs, if_pos h0]
  · rw [sumOver_take _ g k hk, hs, if_pos h0, ← sumOver_scale (M := Nat.lcm (lcmAll (g.take k)) s) (L := lcmAll (g.take k)) (fun r hr h => step_dvd hr h) (lcmAll_pos _) (Nat.dvd_lcm_left _ _)]

set_option maxRecDepth 100000 in
set_option maxHeartbeats 2000000 in
theorem implShare (a : Option Addr) (n c : Nat) (rs : List (List Int)) (w : World) (h : ReadsR w a n rs) (hn : n ≤ 1048576) (hs : Short rs) :
    Calls Try.prog 43 #[.slice a n c] w fun e w' => ShareOutI rs e ∧ Below w.heap.size w w' := by
  have HC := Lib.hid (readRows_is a n c rs w h hn hs)
  have hlen := h.len
  clear h
  go_enter Try.func43, Try.ntmps43
  go_wp2_with fail
  refine HC.out.mono ?_
  rintro e w1 ⟨hb1, a1, c1, n1, rfl, hgood⟩
  have HB1 := Lib.hid hb1
  clear hb1
  cases hg : goodRows rs
  · have HO := Lib.hid (share_offI (rs := rs) (by unfold shareB; rw [hg]; rfl))
    clear hg hgood
    go_wp2
    go_ret3
    exact ⟨HO.out, HB1.out⟩
  · obtain ⟨e1, hown⟩ := hgood hg
    obtain rfl : n1 = n := by omega
    obtain ⟨l, hl⟩ : ∃ l, l = theRows rs := ⟨_, rfl⟩
    obtain ⟨hf1, hf2⟩ := goodRows_fits hg
    rw [← hl] at hown hf1 hf2
    have hll : l.length = n1 := by rw [hl]; unfold theRows; rw [List.length_map]; exact hlen
    have R1 := Lib.hid (readsL_own hown)
    obtain ⟨g, hgd⟩ : ∃ g, g = going l := ⟨_, rfl⟩
    have hgl : g.length ≤ 20 := by rw [hgd]; exact Nat.le_trans (going_le _) hf1
    have hgf := going_fits hf2
    rw [← hgd] at hgf
    have hgp : ∀ r ∈ g, 0 < r.s := fun r hr => Nat.lt_of_le_of_lt (Nat.zero_le _) (hgf r hr).2
    have HF := Lib.hid hgf
    have HP := Lib.hid hgp
    have HL := Lib.hid hl
    have HM : Hid (lcmAll g = lcmAll (theRows rs)) := Lib.hid (by rw [hgd, lcmAll_going, hl])
    have HS : Hid (∀ M, sumOver M g = sumOver M (theRows rs)) := Lib.hid (fun M => by rw [hgd, sumOver_going, hl])
    have HSB : Hid (shareB rs = decide (lcmAll (theRows rs) ≤ 1000000)) := Lib.hid (by unfold shareB; rw [hg, Bool.true_and])
    have HGO := Lib.hid (fun w hr => goingOf_is a1 n1 c1 l w hr (by omega) hf2)
    rw [← hgd] at HGO
    clear hown hf2 hgf hgp hl hgd hg hgood e1 hlen hll
    go_wp2_with fail
    refine (HGO.out _ R1.out).mono ?_
    rintro e w2 ⟨hb2, a2, c2, rfl, hown2⟩
    have HB2 := Lib.hid (HB1.out.trans (hb2.mono HB1.out.size))
    have R2 := Lib.hid (readsL_own hown2)
    clear hb2 hown2
    go_wp2
    go_loopw [7, 8, 23] (fun u v i wr => ∃ k U V : Nat, k ≤ g.length ∧ i = .int .i64 k ∧ u = .int .i64 U ∧ v = .int .i64 V ∧ V = lcmAll (g.take k) ∧ U = sumOver V (g.take k) ∧ 0 < V ∧ V ≤ 1000000 ∧ U ≤ 20000000 ∧ Below w.heap.size w wr ∧ ReadsL wr a2 g.length g)
      (fun _ _ i _ => g.length - (intOf i).toNat)
    case atStart => exact ⟨0, 0, 1, Nat.zero_le _, rfl, rfl, rfl, rfl, rfl, by decide, by decide, by decide, HB2.out, R2.out⟩
    case round =>
      obtain ⟨k, U, V, hk, rfl, rfl, rfl, hV, hU, hV0, hV1, hU1, hB, hR⟩ := hrel
      have HB := Lib.hid hB
      have HV := Lib.hid hV
      have HU := Lib.hid hU
      have HR := Lib.hid hR
      clear hV hU hB
      by_cases hlt : k < g.length
      · obtain ⟨g1, o1, b, s, rfl, hg1, hbs, q0, q1⟩ := hR.row hlt
        have hfit := (HF.out _ (mem_getD hlt)).1
        have h0 := HP.out _ (mem_getD hlt)
        rw [hbs] at hfit h0
        have hb59 : b ≤ 59 := hfit.1
        have hs60 : s ≤ 60 := hfit.2
        have h0 : 0 < s := h0
        obtain ⟨hst1, hst2⟩ := share_step (g := g) (k := k) (s := s) hlt (by rw [hbs]) h0 HP.out
        rw [← HV.out] at hst1 hst2
        rw [← HU.out] at hst2
        obtain ⟨M, hM⟩ : ∃ M, M = Nat.lcm V s := ⟨_, rfl⟩
        rw [← hM] at hst1 hst2
        have hM0 : 0 < M := by rw [hM]; exact lcm_pos hV0 h0
        have hMb : M ≤ 60000000 := by
          have h1 : M ≤ V * s := by rw [hM]; unfold Nat.lcm; exact Nat.div_le_self _ _
          have h2 : V * s ≤ 1000000 * 60 := Nat.mul_le_mul hV1 hs60
          omega
        have HC2 := Lib.hid (fun w => multiple_is V s w hV1 (by omega) h0)
        rw [← hM] at HC2
        have HT1 := Lib.hid hst1
        have HT2 := Lib.hid hst2
        have f1 : (k : Int) < (g.length : Int) := by omega
        have f2 : (0 : Int) ≤ (k : Int) := by omega
        clear hM hst1 hst2 hbs hR hfit
        go_wp2_with fail
        refine (HC2.out _).mono ?_
        rintro e w3 ⟨rfl, hb3⟩
        obtain ⟨k0, k1⟩ := box3 hb3
        have HB3 := Lib.hid ((HB.out.alloc HB.out.size (.cells #[.int .i64 b, .int .i64 s] 79)).trans (hb3.mono (HB.out.alloc HB.out.size (.cells #[.int .i64 b, .int .i64 s] 79)).size))
        have HR3 := Lib.hid ((HR.out.below ((Below.refl _ _).alloc (Nat.le_refl _) (.cells #[.int .i64 b, .int .i64 s] 79)) (Nat.le_refl _)).below hb3 (Nat.le_refl _))
        clear hb3 q0 q1
        by_cases hbig : M ≤ 1000000
        · have f3 : (M : Int) ≤ 1000000 := by omega
          have f4 : (V : Int) ≠ 0 := by omega
          have f5 : (s : Int) ≠ 0 := by omega
          have f6 : ¬ V = 0 := by omega
          have f7 : ¬ s = 0 := by omega
          have d1 : 0 ≤ (M : Int) / (V : Int) := Int.ediv_nonneg (by omega) (by omega)
          have d2 : (M : Int) / (V : Int) ≤ 1000000 := by have := Int.ediv_le_self (b := (V : Int)) (show (0 : Int) ≤ (M : Int) from by omega); omega
          have d3 : 0 ≤ (M : Int) / (s : Int) := Int.ediv_nonneg (by omega) (by omega)
          have d4 : (M : Int) / (s : Int) ≤ 1000000 := by have := Int.ediv_le_self (b := (s : Int)) (show (0 : Int) ≤ (M : Int) from by omega); omega
          have hUle : sumOver M (g.take (k + 1)) ≤ 20 * 1000000 := Nat.le_trans (sumOver_le _ _) (Nat.mul_le_mul (by rw [List.length_take]; omega) hbig)
          have HE : Hid ((U : Int) * ((M : Int) / (V : Int)) + (M : Int) / (s : Int) = ((sumOver M (g.take (k + 1)) : Nat) : Int)) := Lib.hid (by rw [HT2.out]; simp)
          have d5 : 0 ≤ (U : Int) * ((M : Int) / (V : Int)) := Int.mul_nonneg (by omega) d1
          have d6 : (U : Int) * ((M : Int) / (V : Int)) ≤ 20000000 := by have := HE.out; omega
          go_wp2
          go_quiet (fail)
          go_wp2
          go_roundw
          case rel => exact ⟨k + 1, _, M, by omega, by go_num, by rw [HE.out], rfl, HT1.out.symm, rfl, hM0, hbig, hUle, below_drewN HB3.out _, HR3.out.below (below_drewN (Below.refl _ _) _) (Nat.le_refl _)⟩
          case measure => simp [intOf]; omega
        · have f3 : (1000000 : Int) < (M : Int) := by omega
          have HO := Lib.hid (share_offI (rs := rs) (by
            rw [HSB.out, ← HM.out]
            apply decide_eq_false
            have := lcmAll_take_le g (k + 1)
            rw [HT1.out] at this
            omega))
          go_wp2
          go_ret3
          exact ⟨HO.out, HB3.out⟩
      · obtain rfl : k = g.length := by omega
        have e : g.take g.length = g := List.take_length
        have hVe : V = lcmAll (theRows rs) := by rw [HV.out, e, HM.out]
        have hUe : U = sumOver (lcmAll (theRows rs)) (theRows rs) := by rw [HU.out, e, HS.out, hVe]
        have HSB2 : Hid (shareB rs = true) := Lib.hid (by rw [HSB.out]; exact decide_eq_true (by rw [← hVe]; exact hV1))
        obtain ⟨d, hd⟩ : ∃ d, d = Nat.gcd U V := ⟨_, rfl⟩
        have hd0 : 0 < d := by rw [hd]; exact Nat.gcd_pos_of_pos_right _ hV0
        have HD := Lib.hid (fun w => divisor_is U V w (by omega) (by omega))
        rw [← hd] at HD
        have HX : Hid ((U : Int) / (d : Int) = ((shareX rs : Nat) : Int)) := Lib.hid (by
          unfold shareX shareG; rw [HSB2.out, if_pos rfl, ← hUe, ← hVe, hd]; simp)
        have HY : Hid ((V : Int) / (d : Int) = ((shareY rs : Nat) : Int)) := Lib.hid (by
          unfold shareY shareG; rw [HSB2.out, if_pos rfl, ← hUe, ← hVe, hd]; simp)
        have f4 : (d : Int) ≠ 0 := by omega
        have f5 : ¬ d = 0 := by omega
        have d1 : 0 ≤ (U : Int) / (d : Int) := Int.ediv_nonneg (by omega) (by omega)
        have d2 : (U : Int) / (d : Int) ≤ 20000000 := by have := Int.ediv_le_self (b := (d : Int)) (show (0 : Int) ≤ (U : Int) from by omega); omega
        have d3 : 0 ≤ (V : Int) / (d : Int) := Int.ediv_nonneg (by omega) (by omega)
        have d4 : (V : Int) / (d : Int) ≤ 1000000 := by have := Int.ediv_le_self (b := (d : Int)) (show (0 : Int) ≤ (V : Int) from by omega); omega
        clear hVe hUe hd hR
        go_wp2_with fail
        refine (HD.out _).mono ?_
        rintro e w6 ⟨rfl, hb6⟩
        have HB6 := Lib.hid (HB.out.trans (hb6.mono HB.out.size))
        clear hb6
        go_wp2
        go_quiet (fail)
        go_wp2
        go_ret3
        exact ⟨by unfold ShareOutI; rw [← HX.out, ← HY.out, HSB2.out]; rfl, below_drewN HB6.out _⟩
end Go.Proofs.Ytdcedkjoligekaa
