/-
  The walk of SolveHas, of the model.
-/
import Derived.Test.YtiphooodijbhiabSpecLow
set_option linter.unusedVariables false
set_option linter.unusedSimpArgs false
namespace Go.Proofs.Ytiphooodijbhiab
open Go.RowKit

set_option maxRecDepth 100000 in
set_option maxHeartbeats 2000000 in
theorem specSolveHas (s t : ByteArray) (n : Int) (w : World) (hs : s.size ≤ 1048576) (ht : t.size ≤ 1048576) :
    Calls Try.prog 32 #[.string s, .string t, .int .i64 n] w fun e w' => e = .returned (.bool (hasW s t n)) ∧ Below w.heap.size w w' := by
  go_enter Try.func32, Try.ntmps32
  go_wp2_with fail
  refine (l4Small_any s _ hs).mono ?_
  rintro e w1 ⟨a1, n1, c1, a2, n2, c2, rfl, hb1, hA⟩
  have hA2 := fun h => (hA h).alloc (.cells #[.slice a1 n1 c1, .slice a2 n2 c2] 77)
  go_wp2_with fail
  refine (l4Small_any t _ ht).mono ?_
  rintro e w2 ⟨b1, m1, d1, b2, m2, d2, rfl, hb2, hB⟩
  have hb3 := below_step (hb1.alloc hb1.size (.cells #[.slice a1 n1 c1, .slice a2 n2 c2] 77)) hb2
  have HB2 := Lib.hid (hb3.alloc hb3.size (.cells #[.slice b1 m1 d1, .slice b2 m2 d2] 77))
  have hA3 := fun h => ((hA2 h).below hb2 (Nat.le_refl _)).alloc (.cells #[.slice b1 m1 d1, .slice b2 m2 d2] 77)
  have hB3 := fun h => (hB h).alloc (.cells #[.slice b1 m1 d1, .slice b2 m2 d2] 77)
  obtain ⟨q0, q1⟩ := box_later (hb2.alloc hb2.size (.cells #[.slice b1 m1 d1, .slice b2 m2 d2] 77))
  clear hb1 hb2 hb3 hA hA2 hB
  cases hp : smallS s
  · have HO : Hid (hasW s t n = false) := Lib.hid (by unfold hasW; rw [hp]; rfl)
    clear hp hA3 hB3
    go_wp2
    go_ret
    exact ⟨ret_bool HO.out.symm, HB2.out⟩
  · have HA := Lib.hid (hA3 hp)
    cases hq : smallS t
    · have HO : Hid (hasW s t n = false) := Lib.hid (by unfold hasW; rw [hp, hq]; rfl)
      clear hp hq hA3 hB3
      go_wp2
      go_ret
      exact ⟨ret_bool HO.out.symm, HB2.out⟩
    · have HB := Lib.hid (hB3 hq)
      rcases inR_cases n 0 500 with ⟨hi, h0, h5⟩ | ⟨hi, ho⟩
      · obtain ⟨k, rfl⟩ := Int.eq_ofNat_of_zero_le h0
        have HO : Hid (hasW s t k = lowF (fS s) (fS t) k) := Lib.hid (by unfold hasW; rw [hp, hq, hi]; rfl)
        have hIn := fun W => l6In_yes (k : Int) 0 500 W h0 h5
        have hL := fun W hA hB => l8Least_any (fS s) (fS t) a1 n1 c1 a2 n2 c2 b1 m1 d1 b2 m2 d2 (k + 1) W hA hB (by omega)
        have hk5 : k ≤ 500 := by omega
        have HIn := Lib.hid hIn
        have HL := Lib.hid hL
        clear hp hq hA3 hB3 hi hIn hL
        go_wp2_with fail
        refine (HIn.out _).mono ?_
        rintro e w3 ⟨rfl, rfl⟩
        go_wp2_with fail
        refine (HL.out _ HA.out HB.out).mono ?_
        rintro e w4 ⟨G, rfl, hG, hrow, hb4⟩
        have c1 := hrow.cell (i := k) (by omega)
        have HB4 := Lib.hid (below_step HB2.out hb4)
        clear hrow hb4
        go_wp2
        go_ret
        exact ⟨ret_bool HO.out.symm, HB4.out⟩
      · have HO : Hid (hasW s t n = false) := Lib.hid (by unfold hasW; rw [hi, Bool.and_false]; rfl)
        have HIn := Lib.hid (fun W => l6In_no n 0 500 W ho (by decide))
        clear hp hq hA3 hB3 hi
        go_wp2_with fail
        refine (HIn.out _).mono ?_
        rintro e w3 ⟨rfl, rfl⟩
        go_wp2
        go_ret
        exact ⟨ret_bool HO.out.symm, HB2.out⟩

end Go.Proofs.Ytiphooodijbhiab
