/-
  The walk of WaysMany, of the program.
-/
import Derived.Test.YtojjfkabepkhdaaWayTabI
import Derived.Test.YtojjfkabepkhdaaWayVal
set_option linter.unusedVariables false
set_option linter.unusedSimpArgs false
namespace Go.Proofs.Ytojjfkabepkhdaa
open Go.RowKit

set_option maxRecDepth 100000 in
set_option maxHeartbeats 1000000 in
theorem implWaysMany (s : ByteArray) (n m : Int) (w : World) (hs : s.size ≤ 1048576) (hL : LibAt m w) :
    Calls Try.prog 16 #[.string s, .int .i64 n] w fun e w' => TellsW s n 40 manyI e ∧ Below w.heap.size w w' := by
  cases h : okW s n 40
  · have HO := Lib.hid (tellsW_off (F := manyI) h)
    unfold okW at h
    go_enter Try.func16, Try.ntmps16
    go_wp2_with fail
    refine (waySet_any s n 40 m _ hs hL).mono ?_
    rintro e w1 ⟨⟨T, R, rfl, hsp⟩, hb⟩
    have HB1 := Lib.hid (hb.alloc hb.size (.cells #[.string T, .string R] 41))
    rw [h]
    clear hsp hb h
    go_wp2
    go_ret2
    exact ⟨HO.out, HB1.out⟩
  · obtain ⟨h1, k, rfl, hk⟩ := okW_nat h
    have HO := Lib.hid (fun v hv => tellsW_on (F := manyI) (v := v) h hv)
    unfold okW at h
    go_enter Try.func16, Try.ntmps16
    go_wp2_with fail
    refine (waySet_any s k 40 m _ hs hL).mono ?_
    rintro e w1 ⟨⟨T, R, rfl, hsp⟩, hb⟩
    have HB1 := Lib.hid (hb.alloc hb.size (.cells #[.string T, .string R] 41))
    have HSP := Lib.hid (hsp h1)
    rw [h]
    clear hsp hb h h1
    go_wp2_with fail
    refine (manyWays_any (fS s) T R k _ HSP.out.parts (by omega)).mono ?_
    rintro e w2 ⟨a, c, rfl, hr, hb2⟩
    obtain ⟨b, o, rfl, hbl, c0⟩ := hr.at (i := k) (Nat.lt_succ_self _)
    have HB2 := Lib.hid (HB1.out.trans (hb2.mono HB1.out.size))
    have HV := Lib.hid (HO.out _ rfl)
    clear hr hb2
    go_wp2
    go_ret2
    exact ⟨HV.out, HB2.out⟩

end Go.Proofs.Ytojjfkabepkhdaa
