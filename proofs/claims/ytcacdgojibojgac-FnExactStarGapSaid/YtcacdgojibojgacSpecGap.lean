/-
  What the model's StarGap answers.
-/
import Derived.Test.YtcacdgojibojgacLeastS
import Derived.Test.YtcacdgojibojgacGapMath
set_option linter.unusedVariables false
set_option linter.unusedSimpArgs false
namespace Go.Proofs.Ytcacdgojibojgac
open Go.RowKit

set_option maxRecDepth 100000 in
set_option maxHeartbeats 1000000 in
theorem specGap_on (s : ByteArray) (w : World) (hs : s.size ≤ 1048576) (h1 : smallS s = true) :
    Calls Try.prog 45 #[.string s] w fun e w' => GapEnd s e ∧ Below w.heap.size w w' := by
  have HS := Lib.hid (smallS_iff.1 h1).2
  have H1 := Lib.hid h1
  go_enter Try.func45, Try.ntmps45
  go_wp2_with fail
  refine (l4Small_any s _ hs).mono ?_
  rintro e w1 ⟨a1, n1, c1, a2, n2, c2, rfl, hb, hA⟩
  have HB1 := Lib.hid (hb.alloc hb.size (.cells #[.slice a1 n1 c1, .slice a2 n2 c2] 74))
  have HA := Lib.hid ((hA h1).alloc (.cells #[.slice a1 n1 c1, .slice a2 n2 c2] 74))
  clear hb hA
  rw [h1]
  clear h1
  go_wp2_with fail
  refine (l4Least_any (fS s) a1 n1 c1 a2 n2 c2 _ HA.out).mono ?_
  rintro e w2 ⟨k, rfl, hb2, hk⟩
  obtain ⟨q0, q1⟩ := box_later hb2
  have HA2 := Lib.hid (HA.out.below hb2 (Nat.le_refl _))
  have HB2 := Lib.hid (HB1.out.trans (hb2.mono HB1.out.size))
  clear hb2
  rcases hk with ⟨hk0, hno⟩ | hk
  · have HNo : Hid (¬ ∃ g, GapIs (fS s) g) := Lib.hid (star_gaps HS.out (n := 1792) (Nat.le_refl _) (by rw [star_none hno]; rfl))
    have hki : (k : Int) = 0 := by omega
    clear hk0 hno
    go_wp2
    go_ret2
    exact ⟨gap_none HNo.out, HB2.out⟩
  · have h0 := hk.pos
    have hki : ¬ (k : Int) = 0 := by omega
    clear hk
    go_wp2_with fail
    refine (l4Star_any (fS s) a1 n1 c1 a2 n2 c2 2440 _ HA2.out (by decide)).mono ?_
    rintro e w3 ⟨G, rfl, hG, hrow, hb3⟩
    have HR := Lib.hid (fun n (hn : n < 2440) => hrow.cell (i := n) hn)
    have HB3 := Lib.hid (HB2.out.trans (hb3.mono HB2.out.size))
    clear hrow hG hb3 q0 q1
    go_wp2
    go_loop [7] (fun v => ∃ n : Nat, 2400 ≤ n ∧ n ≤ 2440 ∧ v = .int .i64 n ∧ ∀ j, 2400 ≤ j → j < n → starB (fS s) j = true) (fun v => 2440 - (intOf v).toNat)
    case atStart => exact ⟨2400, by decide, by decide, rfl, fun j h1 h2 => by omega⟩
    case round =>
      obtain ⟨n, hn1, hn2, rfl, hall⟩ := hrel
      have HAll := Lib.hid hall
      clear hall
      by_cases hlt : n < 2440
      · have cc := HR.out n hlt
        cases hv : starB (fS s) n
        · rw [hv] at cc
          have HV := Lib.hid hv
          clear hv
          go_wp2
          go_ret2
          exact ⟨gap_none (star_gaps HS.out (by omega) HV.out), HB3.out⟩
        · rw [hv] at cc
          have HV := Lib.hid hv
          clear hv
          go_wp2
          go_round
          case rel => exact ⟨n + 1, by omega, by omega, by go_num, fun j k1 k2 => by
            by_cases e : j = n
            · rw [e]; exact HV.out
            · exact HAll.out j k1 (by omega)⟩
          case measure => simp [intOf]; omega
      · obtain rfl : n = 2440 := by omega
        have HF0 : Hid (Full (fS s) 2399 2440) := Lib.hid (fun j k1 k2 => HAll.out j (by omega) k2)
        clear HAll
        go_wp2
        go_loop [8] (fun v => ∃ n : Nat, n ≤ 2399 ∧ v = .int .i64 n ∧ Full (fS s) n 2440) (fun v => (intOf v).toNat)
        case atStart => exact ⟨2399, Nat.le_refl _, rfl, HF0.out⟩
        case round =>
          obtain ⟨n, hn, rfl, hfull⟩ := hrel
          have HF := Lib.hid hfull
          clear hfull
          by_cases h00 : n = 0
          · subst h00
            go_wp2
            go_ret2
            exact ⟨gap_none (HF.out.none HS.out (by decide)), HB3.out⟩
          · obtain ⟨k2, rfl⟩ : ∃ k2, n = k2 + 1 := ⟨n - 1, by omega⟩
            have cc := HR.out (k2 + 1) (by omega)
            have hpos : (0 : Int) < (k2 : Int) + 1 := by omega
            cases hv : starB (fS s) (k2 + 1)
            · rw [hv] at cc
              have HV := Lib.hid hv
              clear hv h00
              go_wp2
              go_ret2
              exact ⟨gap_some H1.out (HF.out.gap HS.out (by omega) (by omega) (by omega) HV.out), HB3.out⟩
            · rw [hv] at cc
              have HN := Lib.hid (HF.out.step hv)
              clear hv h00
              go_wp2
              go_round
              case rel => exact ⟨k2, by omega, by go_num, HN.out⟩
              case measure => simp [intOf]

set_option maxHeartbeats 400000 in
theorem specGap (s : ByteArray) (w : World) (hs : s.size ≤ 1048576) :
    Calls Try.prog 45 #[.string s] w fun e w' => GapEnd s e ∧ Below w.heap.size w w' := by
  cases h1 : smallS s
  · have H1 := Lib.hid h1
    go_enter Try.func45, Try.ntmps45
    go_wp2_with fail
    refine (l4Small_any s _ hs).mono ?_
    rintro e w1 ⟨a1, n1, c1, a2, n2, c2, rfl, hb, hA⟩
    have HB1 := Lib.hid (hb.alloc hb.size (.cells #[.slice a1 n1 c1, .slice a2 n2 c2] 74))
    clear hb hA
    rw [h1]
    clear h1
    go_wp2
    go_ret2
    exact ⟨gap_off H1.out, HB1.out⟩
  · exact specGap_on s w hs h1

end Go.Proofs.Ytcacdgojibojgac
