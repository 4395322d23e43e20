/-
  The walk of the law FnTermIn.
-/
import Derived.Test.YtiphooodijbhiaaPTermBase
import Derived.Test.YtiphooodijbhiaaHasI
import Derived.Test.YtiphooodijbhiaaTermI
import Derived.Test.YtiphooodijbhiaaTermPart
import Derived.Test.YtiphooodijbhiaaTermSize
set_option linter.unusedVariables false
set_option linter.unusedSimpArgs false
namespace Go.Proofs.Ytiphooodijbhiaa
open Go.RowKit

theorem inI (s : ByteArray) (w : World) : Calls Try.prog 35 #[.string s] w fun e w' => e = .returned (.bool (termOf s.data.toList).isSome) ∧ Below w.heap.size w w' := by
  refine (implTermIn s w).mono ?_
  rintro e w' ⟨rfl, m, rfl⟩
  exact ⟨rfl, below_drewN (Below.refl _ _) m⟩
theorem sizeI (s : ByteArray) (w : World)  (hs : s.size ≤ 1048576) : Calls Try.prog 37 #[.string s] w fun e w' => e = .returned (.tuple #[.int .i64 (sizeV s), .bool (termOf s.data.toList).isSome]) ∧ Below w.heap.size w w' := by
  refine (implTermSize s w hs).mono ?_
  rintro e w' ⟨rfl, m, rfl⟩
  exact ⟨rfl, below_drewN (Below.refl _ _) m⟩

set_option maxRecDepth 100000 in
set_option maxHeartbeats 4000000 in
theorem drawTermIn (a : Option Addr) (n c : Nat) (w : World) (h : Bytes w a n) (hn : n ≤ 1048576) (hc : n ≤ c) :
    Calls Try.prog 34 #[.slice a n c] w fun e w' => ∃ s : ByteArray, e = .returned (.string s) ∧ s.size ≤ 30 ∧ Below w.heap.size w w' := by
  go_enter Try.func34, Try.ntmps34
  go_wp2_with fail
  refine (open_rd a n c _ h hn hc).mono ?_
  rintro e w1 ⟨n', rfl, hrd, hap⟩
  go_wp2_with fail
  refine (said_rd hrd (by omega)).mono ?_
  rintro e w2 ⟨s, p2, rfl, hs, hp2, hrd2, hap2⟩
  go_wp2
  go_ret
  exact ⟨s, rfl, hs, (hap.trans hap2).below⟩

set_option maxRecDepth 100000 in
set_option maxHeartbeats 4000000 in
theorem pTermIn (a : Option Addr) (n c : Nat) (zs : List Int) (w : World) (hr : IsRow .u8 w a n c zs) (m : Int) (hg : 0 < w.heap.size) (hm : w.cell? ⟨0, 0, none⟩ = some (.int .i64 m)) :
    Calls Try.prog 8 #[.slice a n c] w fun e w' => e = .returned (.bool true) ∧ Below w.heap.size w w' := by
  by_cases hn : n ≤ 1048576
  · have hL : LibAt m w := ⟨hg, hm⟩
    clear hg hm
    have hB := Lib.hid hr.bytes
    have hC := Lib.hid hr.cap
    clear hr
    go_enter Try.func8, Try.ntmps8
    go_wp2_with fail
    refine (drawTermIn a n c _ hB.out hn hC.out).mono ?_
    rintro e w1 ⟨s, rfl, hs, hb1⟩
    have HB1 := Lib.hid hb1
    have HL1 := Lib.hid (hL.below hb1)
    clear hb1
    have H1 := Lib.hid (fun W => inI s W)
    have H2 := Lib.hid (fun W => specTermIn s W)
    have H3 := Lib.hid (fun W => sizeI s W (by omega))
    obtain ⟨b, hb⟩ : ∃ b, b = (termOf s.data.toList).isSome := ⟨_, rfl⟩
    rw [← hb] at H1 H2 H3
    clear hb
    go_wp2_with fail
    refine (H1.out _).mono ?_
    rintro e w2 ⟨rfl, hx2⟩
    have HB2 := Lib.hid (below_step HB1.out hx2)
    have HL2 := Lib.hid (HL1.out.below hx2)
    clear hx2
    go_wp2_with fail
    refine (H2.out _).mono ?_
    rintro e w3 ⟨rfl, hx3⟩
    have HB3 := Lib.hid (below_step HB2.out hx3)
    have HL3 := Lib.hid (HL2.out.below hx3)
    clear hx3
    go_wp2_with fail
    refine (H3.out _).mono ?_
    rintro e w4 ⟨rfl, hx4⟩
    have HB4 := Lib.hid (below_step HB3.out hx4)
    have HL4 := Lib.hid (HL3.out.below hx4)
    clear hx4
    cases b
    all_goals
      go_wp2
      go_ret
      exact ⟨ret_bool (by simp), HB4.out⟩
  · have hd : (1048576 : Int) < (n : Int) := by omega
    go_enter Try.func8, Try.ntmps8
    go_wp2
    go_ret
    exact ⟨rfl, Below.refl _ _⟩

end Go.Proofs.Ytiphooodijbhiaa
