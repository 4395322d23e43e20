/-
  The walk of the law FnTermEmpty.
-/
import Derived.Test.YtiphooodijbhiabPTermBase
import Derived.Test.YtiphooodijbhiabTermEmptyI
set_option linter.unusedVariables false
set_option linter.unusedSimpArgs false
namespace Go.Proofs.Ytiphooodijbhiab
open Go.RowKit

set_option maxRecDepth 100000 in
set_option maxHeartbeats 4000000 in
theorem drawTermEmpty (a : Option Addr) (n c : Nat) (w : World) (h : Bytes w a n) (hn : n ≤ 1048576) (hc : n ≤ c) :
    Calls Try.prog 15 #[.slice a n c] w fun e w' => ∃ s : ByteArray, e = .returned (.string s) ∧ s.size ≤ 30 ∧ Below w.heap.size w w' := by
  go_enter Try.func15, Try.ntmps15
  go_wp2_with fail
  refine (open_rd a n c _ h hn hc).mono ?_
  rintro e w1 ⟨n', rfl, hrd, hap⟩
  go_wp2_with fail
  refine (said_rd hrd (by omega)).mono ?_
  rintro e w2 ⟨s, p2, rfl, hs, hp2, hrd2, hap2⟩
  go_wp2
  go_ret
  exact ⟨s, rfl, hs, (hap.trans hap2).below⟩

set_option maxRecDepth 100000 in
set_option maxHeartbeats 4000000 in
theorem pTermEmpty (a : Option Addr) (n c : Nat) (zs : List Int) (w : World) (hr : IsRow .u8 w a n c zs) (m : Int) (hg : 0 < w.heap.size) (hm : w.cell? ⟨0, 0, none⟩ = some (.int .i64 m)) :
    Calls Try.prog 3 #[.slice a n c] w fun e w' => e = .returned (.bool true) ∧ Below w.heap.size w w' := by
  by_cases hn : n ≤ 1048576
  · have hL : LibAt m w := ⟨hg, hm⟩
    clear hg hm
    have hB := Lib.hid hr.bytes
    have hC := Lib.hid hr.cap
    clear hr
    go_enter Try.func3, Try.ntmps3
    go_wp2_with fail
    refine (drawTermEmpty a n c _ hB.out hn hC.out).mono ?_
    rintro e w1 ⟨s, rfl, hs, hb1⟩
    have HB1 := Lib.hid hb1
    have HL1 := Lib.hid (hL.below hb1)
    clear hb1
    have H1 := Lib.hid (fun W hL => implTermEmpty s m W hL)
    have H2 := Lib.hid (fun W => specTermEmpty s W)
    have H3 := Lib.hid (fun W hL => implTermHas s 0 m W hL)
    obtain ⟨v, hv⟩ : ∃ v, v = hasTV s 0 := ⟨_, rfl⟩
    rw [← hv] at H1 H2 H3
    clear hv
    go_wp2_with fail
    refine (H1.out _ HL1.out).mono ?_
    rintro e w2 ⟨rfl, hx2⟩
    have HB2 := Lib.hid (below_step HB1.out hx2)
    have HL2 := Lib.hid (HL1.out.below hx2)
    clear hx2
    go_wp2_with fail
    refine (H2.out _).mono ?_
    rintro e w3 ⟨rfl, hx3⟩
    have HB3 := Lib.hid (below_step HB2.out hx3)
    have HL3 := Lib.hid (HL2.out.below hx3)
    clear hx3
    go_wp2_with fail
    refine (H3.out _ HL3.out).mono ?_
    rintro e w4 ⟨rfl, hx4⟩
    have HB4 := Lib.hid (below_step HB3.out hx4)
    have HL4 := Lib.hid (HL3.out.below hx4)
    clear hx4
    cases v
    all_goals
      go_wp2
      go_ret
      exact ⟨ret_bool (by simp), HB4.out⟩
  · have hd : (1048576 : Int) < (n : Int) := by omega
    go_enter Try.func3, Try.ntmps3
    go_wp2
    go_ret
    exact ⟨rfl, Below.refl _ _⟩

end Go.Proofs.Ytiphooodijbhiab
