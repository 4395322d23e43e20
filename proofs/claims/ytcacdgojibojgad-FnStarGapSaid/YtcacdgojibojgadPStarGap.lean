/-
  The walk of the law FnStarGap.
-/
import Derived.Test.YtcacdgojibojgadPSumBase
import Derived.Test.YtcacdgojibojgadSpecGap
import Derived.Test.YtcacdgojibojgadStarGapI
set_option linter.unusedVariables false
set_option linter.unusedSimpArgs false
namespace Go.Proofs.Ytcacdgojibojgad
open Go.RowKit

theorem starHas_nat {s : ByteArray} {k : Nat} (h : smallS s = true) (hk : k ≤ 2000) : starHasV s k = starB (fS s) k := by
  unfold starHasV inR
  rw [h, decide_eq_true (by omega), decide_eq_true (by omega)]; rfl
theorem gap_true {s : ByteArray} {v : Int} (h : GapOut s v true) : smallS s = true ∧ ∃ g : Nat, v = g ∧ GapIs (fS s) g := by
  rcases h with ⟨_, h1, h2⟩ | ⟨h, _⟩
  · exact ⟨h1, h2⟩
  · cases h
theorem gap_small {f : Nat → Bool} {g : Nat} (hs : Small f) (h : GapIs f g) : g < 1792 := by
  rcases Nat.lt_or_ge g 1792 with k | k
  · exact k
  · exact absurd ⟨g, h⟩ (star_gaps hs k h.2.1)

set_option maxRecDepth 100000 in
set_option maxHeartbeats 4000000 in
theorem pStarGap (a : Option Addr) (n c : Nat) (zs : List Int) (w : World) (hr : IsRow .u8 w a n c zs) (m : Int) (hg : 0 < w.heap.size) (hm : w.cell? ⟨0, 0, none⟩ = some (.int .i64 m)) :
    Calls Try.prog 8 #[.slice a n c] w fun e w' => e = .returned (.bool true) ∧ Below w.heap.size w w' := by
  by_cases hn : n ≤ 1048576
  · have hL : LibAt m w := ⟨hg, hm⟩
    clear hg hm
    have hB := Lib.hid hr.bytes
    have hC := Lib.hid hr.cap
    clear hr
    go_enter Try.func8, Try.ntmps8
    go_wp2_with fail
    refine (drawStarGap a n c _ hB.out hn hC.out).mono ?_
    rintro e w1 ⟨s, rfl, hs, hb1⟩
    have HB1 := Lib.hid hb1
    have HL1 := Lib.hid (hL.below hb1)
    clear hb1
    go_wp2_with fail
    refine (implGap s m _ (by omega) HL1.out).mono ?_
    rintro e w2 ⟨⟨T, b, rfl, hm2⟩, hx2⟩
    have HB2 := Lib.hid (below_step HB1.out hx2)
    have HL2 := Lib.hid (HL1.out.below hx2)
    have HM := Lib.hid hm2
    clear hx2 hm2
    go_wp2_with fail
    refine (specGap s _ (by omega)).mono ?_
    rintro e w3 ⟨⟨U, c, rfl, hm3⟩, hx3⟩
    have HB3 := Lib.hid (below_step HB2.out hx3)
    have HL3 := Lib.hid (HL2.out.below hx3)
    obtain ⟨rfl, rfl⟩ := gapOut_unique HM.out hm3
    clear hx3 hm3
    cases b
    · go_wp2
      go_ret
      exact ⟨ret_bool (by simp), HB3.out⟩
    · obtain ⟨hsm, g, rfl, hg⟩ := gap_true HM.out
      have hg2 := gap_small (smallS_iff.1 hsm).2 hg
      have hg1 := hg.1
      have HG := Lib.hid hg
      have HSm := Lib.hid hsm
      clear HM hg hsm
      go_wp2
      go_loopw [9] (fun i wr => ∃ z : Nat, i = .int .i64 z ∧ g < z ∧ z ≤ g + 41 ∧ Below w.heap.size w wr ∧ LibAt m wr) (fun i _ => g + 42 - (intOf i).toNat)
      case atStart => exact ⟨g + 1, by go_num, by omega, by omega, HB3.out, HL3.out⟩
      case round =>
        obtain ⟨z, rfl, hz0, hz, hbz, hLz⟩ := hrel
        have HB0 := Lib.hid hbz
        have HL0 := Lib.hid hLz
        clear hbz hLz
        by_cases hlt : z ≤ g + 40
        · have hltI : (z : Int) ≤ (g : Int) + 40 := by omega
          have hcall := implHas s z m
          rw [starHas_nat HSm.out (by omega), HG.out.2.2 z hz0] at hcall
          go_wp2_with fail
          refine (hcall _ (by omega) HL0.out).mono ?_
          rintro e w6 ⟨rfl, hx6⟩
          have HB6 := Lib.hid (below_step HB0.out hx6)
          have HL6 := Lib.hid (HL0.out.below hx6)
          clear hx6 hcall
          go_wp2
          go_roundw
          case rel => exact ⟨z + 1, by go_num, by omega, by omega, HB6.out, HL6.out⟩
          case measure => simp [intOf]; omega
        · obtain rfl : z = g + 41 := by omega
          have hcall := implHas s g m
          rw [starHas_nat HSm.out (by omega), HG.out.2.1] at hcall
          have hgI : (1 : Int) ≤ (g : Int) := by omega
          go_wp2_with fail
          refine (hcall _ (by omega) HL0.out).mono ?_
          rintro e w6 ⟨rfl, hx6⟩
          have HB6 := Lib.hid (below_step HB0.out hx6)
          clear hx6 hcall
          go_wp2
          go_ret
          exact ⟨ret_bool (by simp), HB6.out⟩
  · have hd : (1048576 : Int) < (n : Int) := by omega
    go_enter Try.func8, Try.ntmps8
    go_wp2
    go_ret
    exact ⟨rfl, Below.refl _ _⟩
end Go.Proofs.Ytcacdgojibojgad
