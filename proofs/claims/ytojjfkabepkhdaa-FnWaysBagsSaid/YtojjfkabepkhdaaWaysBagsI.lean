/-
  What the program's WaysBags answers.
-/
import Derived.Test.YtojjfkabepkhdaaWayBagOn
import Derived.Test.YtojjfkabepkhdaaWayVal
set_option linter.unusedVariables false
set_option linter.unusedSimpArgs false
namespace Go.Proofs.Ytojjfkabepkhdaa
open Go.RowKit

set_option maxRecDepth 100000 in
set_option maxHeartbeats 1000000 in
theorem implWaysBags (s : ByteArray) (n m : Int) (w : World) (hs : s.size ≤ 1048576) (hL : LibAt m w) :
    Calls Try.prog 20 #[.string s, .int .i64 n] w fun e w' => TellsW s n 60 bagI e ∧ Below w.heap.size w w' := by
  cases h : okW s n 60
  · have HO := Lib.hid (tellsW_off (F := bagI) h)
    unfold okW at h
    go_enter Try.func20, Try.ntmps20
    go_wp2_with fail
    refine (waySet_any s n 60 m _ hs hL).mono ?_
    rintro e w1 ⟨⟨T, R, rfl, hsp⟩, hb⟩
    have HB1 := Lib.hid (hb.alloc hb.size (.cells #[.string T, .string R] 41))
    rw [h]
    clear hsp hb h
    go_wp2
    go_ret2
    exact ⟨HO.out, HB1.out⟩
  · obtain ⟨h1, k, rfl, hk⟩ := okW_nat h
    have HO := Lib.hid (fun v hv => tellsW_on (F := bagI) (v := v) h hv)
    unfold okW at h
    go_enter Try.func20, Try.ntmps20
    go_wp2_with fail
    refine (waySet_any s k 60 m _ hs hL).mono ?_
    rintro e w1 ⟨⟨T, R, rfl, hsp⟩, hb⟩
    have HB1 := Lib.hid (hb.alloc hb.size (.cells #[.string T, .string R] 41))
    have HSP := Lib.hid (hsp h1)
    rw [h]
    clear hsp hb h h1
    go_wp2_with fail
    refine (countBags_on (fS s) T R k _ HSP.out.parts (by omega)).mono ?_
    rintro e w2 ⟨rfl, hb2⟩
    have HB2 := Lib.hid (HB1.out.trans (hb2.mono HB1.out.size))
    have HV := Lib.hid (HO.out _ rfl)
    clear hb2
    go_wp2
    go_ret2
    exact ⟨HV.out, HB2.out⟩

end Go.Proofs.Ytojjfkabepkhdaa
