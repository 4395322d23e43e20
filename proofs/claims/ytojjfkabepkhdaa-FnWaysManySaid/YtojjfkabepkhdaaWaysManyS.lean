/-
  What the model's WaysMany answers.
-/
import Derived.Test.YtojjfkabepkhdaaWayTabS
import Derived.Test.YtojjfkabepkhdaaWayVal
set_option linter.unusedVariables false
set_option linter.unusedSimpArgs false
namespace Go.Proofs.Ytojjfkabepkhdaa
open Go.RowKit

set_option maxRecDepth 100000 in
set_option maxHeartbeats 1000000 in
theorem specWaysMany (s : ByteArray) (n : Int) (w : World) (hs : s.size ≤ 1048576) :
    Calls Try.prog 17 #[.string s, .int .i64 n] w fun e w' => TellsW s n 40 manyI e ∧ Below w.heap.size w w' := by
  cases h : okW s n 40
  · have HO := Lib.hid (tellsW_off (F := manyI) h)
    unfold okW at h
    go_enter Try.func17, Try.ntmps17
    go_wp2_with fail
    refine (given9_any s n 40 _ hs (by decide)).mono ?_
    rintro e w1 ⟨⟨a1, n1, c1, a2, n2, c2, rfl, hsp⟩, hb⟩
    have HB1 := Lib.hid (hb.alloc hb.size (.cells #[.slice a1 n1 c1, .slice a2 n2 c2] 48))
    rw [h]
    clear hsp hb h
    go_wp2
    go_ret2
    exact ⟨HO.out, HB1.out⟩
  · obtain ⟨h1, k, rfl, hk⟩ := okW_nat h
    have HO := Lib.hid (fun v hv => tellsW_on (F := manyI) (v := v) h hv)
    unfold okW at h
    go_enter Try.func17, Try.ntmps17
    go_wp2_with fail
    refine (given9_any s k 40 _ hs (by decide)).mono ?_
    rintro e w1 ⟨⟨a1, n1, c1, a2, n2, c2, rfl, hsp⟩, hb⟩
    have HB1 := Lib.hid (hb.alloc hb.size (.cells #[.slice a1 n1 c1, .slice a2 n2 c2] 48))
    have HSP := Lib.hid ((hsp h1).alloc (.cells #[.slice a1 n1 c1, .slice a2 n2 c2] 48))
    rw [h]
    clear hsp hb h h1
    go_wp2_with fail
    refine (l9Ways_any (fS s) a1 n1 c1 a2 n2 c2 k _ HSP.out (by omega)).mono ?_
    rintro e w2 ⟨a, c, rfl, hr, hb2⟩
    obtain ⟨b, o, rfl, hbl, c0⟩ := hr.at (i := k) (Nat.lt_succ_self _)
    have HB2 := Lib.hid (HB1.out.trans (hb2.mono HB1.out.size))
    have HV := Lib.hid (HO.out _ rfl)
    clear hr hb2
    go_wp2
    go_ret2
    exact ⟨HV.out, HB2.out⟩

end Go.Proofs.Ytojjfkabepkhdaa
