/-
  The walks of SetIn, of the program, of the model, and of the law that holds them against each other.
-/
import Derived.Test.YtndpkmgjmpfgdaaCore
namespace Go.Proofs.Ytndpkmgjmpfgdaa
open Go.RowKit

theorem splitVal_form (l : List UInt8) : ∃ a b : ByteArray, splitVal l = .agg #[.string a, .string b] := by
  unfold splitVal; split <;> exact ⟨_, _, rfl⟩

set_option maxHeartbeats 400000 in
theorem implSetIn (s : ByteArray) (m : Int) (w : World) (hs : s.size ≤ 1048576) (hg : 0 < w.heap.size) (hm : w.cell? ⟨0, 0, none⟩ = some (.int .i64 m)) :
    Calls Try.prog 16 #[.string s] w fun e w' => e = .returned (.bool (setOk s.data.toList)) ∧ Below w.heap.size w w' := by
  obtain ⟨a, b, hv⟩ := splitVal_form s.data.toList
  have HV := Lib.hid hv
  clear hv
  go_enter Try.func16, Try.ntmps16
  go_wp2_with fail
  refine (split_any s m _ hs hg hm).mono ?_
  rintro e w1 ⟨rfl, hb⟩
  rw [HV.out]
  go_wp2
  go_ret
  exact ⟨rfl, (hb.alloc hb.size _)⟩

set_option maxHeartbeats 400000 in
theorem specSetIn (s : ByteArray) (w : World) (hs : s.size ≤ 1048576) :
    Calls Try.prog 17 #[.string s] w fun e w' => e = .returned (.bool (setOk s.data.toList)) ∧ Below w.heap.size w w' := by
  cases h : setOk s.data.toList
  · go_enter Try.func17, Try.ntmps17
    go_wp2_with fail
    refine (read_no s _ hs h).mono ?_
    rintro e w1 ⟨a1, n1, c1, a2, n2, c2, rfl, hb⟩
    go_wp2
    go_ret
    exact ⟨rfl, (hb.alloc hb.size _)⟩
  · go_enter Try.func17, Try.ntmps17
    go_wp2_with fail
    refine (read_yes s _ hs h).mono ?_
    rintro e w1 ⟨a1, c1, a2, c2, rfl, hb, _, _⟩
    go_wp2
    go_ret
    exact ⟨rfl, (hb.alloc hb.size _)⟩

end Go.Proofs.Ytndpkmgjmpfgdaa
