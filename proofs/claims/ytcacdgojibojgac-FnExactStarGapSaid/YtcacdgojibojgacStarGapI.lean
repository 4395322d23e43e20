/-
  The walk of StarGap, of the program.
-/
import Derived.Test.YtcacdgojibojgacStarHasI
import Derived.Test.YtcacdgojibojgacGapMath
set_option linter.unusedVariables false
set_option linter.unusedSimpArgs false
namespace Go.Proofs.Ytcacdgojibojgac
open Go.RowKit

set_option maxRecDepth 100000 in
set_option maxHeartbeats 1000000 in
theorem implGap_on (s : ByteArray) (m : Int) (w : World) (hs : s.size ≤ 1048576) (hL : LibAt m w) (h1 : smallS s = true) :
    Calls Try.prog 46 #[.string s] w fun e w' => GapEnd s e ∧ Below w.heap.size w w' := by
  have HS := Lib.hid (smallS_iff.1 h1).2
  have H1 := Lib.hid h1
  go_enter Try.func46, Try.ntmps46
  go_wp2_with fail
  refine (smallSet_any s m _ hs hL).mono ?_
  rintro e w1 ⟨⟨T, R, rfl, hsp⟩, hb⟩
  have HB1 := Lib.hid (hb.alloc hb.size (.cells #[.string T, .string R] 84))
  have HSP := Lib.hid (hsp h1)
  clear hsp hb
  rw [h1]
  clear h1
  go_wp2_with fail
  refine (starOf_any (fS s) T R _ HSP.out.parts).mono ?_
  rintro e w3 ⟨G, a, c, rfl, hrow, hown, hG, hb3⟩
  have HR := Lib.hid (fun n (hn : n < 2001) => show w3.cell? ⟨G, 2001 + n, none⟩ = some (.bool (starB (fS s) n)) from by
    have := hrow.cell (i := 2001 + n) (by omega)
    rw [starRow_has (fS s) n hn] at this; exact this)
  have HB3 := Lib.hid (HB1.out.trans (hb3.mono HB1.out.size))
  clear hrow hown hG hb3
  go_wp2
  go_loop [8] (fun v => ∃ n : Nat, n ≤ 2000 ∧ v = .int .i64 n ∧ Full (fS s) n 2001) (fun v => (intOf v).toNat)
  case atStart => exact ⟨2000, Nat.le_refl _, rfl, fun k h1 h2 => by omega⟩
  case round =>
    obtain ⟨n, hn, rfl, hfull⟩ := hrel
    have HF := Lib.hid hfull
    clear hfull
    by_cases h0 : n = 0
    · subst h0
      go_wp2_with fail
      refine (between_out 0 1 1792 _ (by decide)).mono ?_
      rintro e w4 ⟨rfl, rfl⟩
      go_wp2
      go_ret2
      exact ⟨gap_none (HF.out.none HS.out (by decide)), HB3.out⟩
    · obtain ⟨k, rfl⟩ : ∃ k, n = k + 1 := ⟨n - 1, by omega⟩
      have c1 := HR.out (k + 1) (by omega)
      have hpos : (0 : Int) < (k : Int) + 1 := by omega
      cases hv : starB (fS s) (k + 1)
      · rw [hv] at c1
        have HV := Lib.hid hv
        clear hv h0
        cases hin : inR ((k + 1 : Nat) : Int) 1 1792
        · have HI := Lib.hid hin
          have hk : 1792 ≤ k + 1 := by
            rcases inR_cases ((k + 1 : Nat) : Int) 1 1792 with ⟨h2, _⟩ | ⟨_, h2⟩
            · rw [hin] at h2; cases h2
            · omega
          clear hin
          go_wp2_with fail
          refine (between_out ((k + 1 : Nat) : Int) 1 1792 _ HI.out).mono ?_
          rintro e w4 ⟨rfl, rfl⟩
          go_wp2
          go_ret2
          exact ⟨gap_none (star_gaps HS.out hk HV.out), HB3.out⟩
        · have HI := Lib.hid hin
          have hk : k + 1 ≤ 1792 := by
            rcases inR_cases ((k + 1 : Nat) : Int) 1 1792 with ⟨_, h2⟩ | ⟨h2, _⟩
            · omega
            · rw [hin] at h2; cases h2
          clear hin
          go_wp2_with fail
          refine (between_in ((k + 1 : Nat) : Int) 1 1792 _ HI.out).mono ?_
          rintro e w4 ⟨rfl, rfl⟩
          go_wp2
          go_ret2
          exact ⟨gap_some H1.out (HF.out.gap HS.out (by omega) (by omega) (by omega) HV.out), HB3.out⟩
      · rw [hv] at c1
        have HN := Lib.hid (HF.out.step hv)
        clear hv h0
        go_wp2
        go_round
        case rel => exact ⟨k, by omega, by go_num, HN.out⟩
        case measure => simp [intOf]

set_option maxHeartbeats 400000 in
theorem implGap_off (s : ByteArray) (m : Int) (w : World) (hs : s.size ≤ 1048576) (hL : LibAt m w) (h1 : smallS s = false) :
    Calls Try.prog 46 #[.string s] w fun e w' => GapEnd s e ∧ Below w.heap.size w w' := by
  have H1 := Lib.hid h1
  go_enter Try.func46, Try.ntmps46
  go_wp2_with fail
  refine (smallSet_any s m _ hs hL).mono ?_
  rintro e w1 ⟨⟨T, R, rfl, hsp⟩, hb⟩
  have HB1 := Lib.hid (hb.alloc hb.size (.cells #[.string T, .string R] 84))
  clear hsp hb
  rw [h1]
  clear h1
  go_wp2
  go_ret2
  exact ⟨gap_off H1.out, HB1.out⟩

theorem implGap (s : ByteArray) (m : Int) (w : World) (hs : s.size ≤ 1048576) (hL : LibAt m w) :
    Calls Try.prog 46 #[.string s] w fun e w' => GapEnd s e ∧ Below w.heap.size w w' := by
  cases h : smallS s
  · exact implGap_off s m w hs hL h
  · exact implGap_on s m w hs hL h

end Go.Proofs.Ytcacdgojibojgac
