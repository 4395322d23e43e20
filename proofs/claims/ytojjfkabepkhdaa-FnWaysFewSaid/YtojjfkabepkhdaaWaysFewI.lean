/-
  The walk of WaysFew, of the program.
-/
import Derived.Test.YtojjfkabepkhdaaWayFewI
set_option linter.unusedVariables false
set_option linter.unusedSimpArgs false
namespace Go.Proofs.Ytojjfkabepkhdaa
open Go.RowKit

set_option maxRecDepth 100000 in
set_option maxHeartbeats 1000000 in
theorem implWaysFew (s : ByteArray) (n m : Int) (w : World) (hs : s.size ≤ 1048576) (hL : LibAt m w) :
    Calls Try.prog 27 #[.string s, .int .i64 n] w fun e w' => TellsFew s n e ∧ Below w.heap.size w w' := by
  cases h : okW s n 200
  · have HO := Lib.hid (tellsFew_off (s := s) (n := n) (by unfold fewOk; rw [h]; rfl))
    unfold okW at h
    go_enter Try.func27, Try.ntmps27
    go_wp2_with fail
    refine (waySet_any s n 200 m _ hs hL).mono ?_
    rintro e w1 ⟨⟨T, R, rfl, hsp⟩, hb⟩
    have HB1 := Lib.hid (hb.alloc hb.size (.cells #[.string T, .string R] 41))
    rw [h]
    clear hsp hb h
    go_wp2
    go_ret2
    exact ⟨HO.out, HB1.out⟩
  · obtain ⟨h1, k, rfl, hk⟩ := okW_nat h
    have HOF := Lib.hid (fun (e : fewF (fS s) k = -1) => tellsFew_off (s := s) (n := (k : Int)) (by unfold fewOk; rw [h, show ((k : Int)).toNat = k from rfl, e]; rfl))
    have HON := Lib.hid (fun (e : fewF (fS s) k ≠ -1) => tellsFew_on (s := s) (n := k) (v := fewF (fS s) k) (by unfold fewOk; rw [h, show ((k : Int)).toNat = k from rfl, decide_eq_false e]; rfl) rfl)
    unfold okW at h
    go_enter Try.func27, Try.ntmps27
    go_wp2_with fail
    refine (waySet_any s k 200 m _ hs hL).mono ?_
    rintro e w1 ⟨⟨T, R, rfl, hsp⟩, hb⟩
    have HB1 := Lib.hid (hb.alloc hb.size (.cells #[.string T, .string R] 41))
    have HSP := Lib.hid (hsp h1)
    rw [h]
    clear hsp hb h h1
    go_wp2_with fail
    refine (fewest_any (fS s) T R k _ HSP.out.parts (by omega)).mono ?_
    rintro e w2 ⟨a, c, rfl, hr, hb2⟩
    obtain ⟨b, o, rfl, hbl, c0⟩ := hr.at (i := k) (Nat.lt_succ_self _)
    have HB2 := Lib.hid (HB1.out.trans (hb2.mono HB1.out.size))
    clear hr hb2
    obtain ⟨v, hv⟩ : ∃ v, v = fewF (fS s) k := ⟨_, rfl⟩
    rw [← hv] at c0 HOF HON
    clear hv
    by_cases hvm : v = -1
    · have HV := Lib.hid (HOF.out hvm)
      subst hvm
      go_wp2
      go_ret2
      exact ⟨HV.out, HB2.out⟩
    · have HV := Lib.hid (HON.out hvm)
      have hvb : (v == -1) = false := by simpa using hvm
      go_wp2
      go_ret2
      exact ⟨HV.out, HB2.out⟩

end Go.Proofs.Ytojjfkabepkhdaa
