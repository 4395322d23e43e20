/-
  The walks of the drawing of what chapter 9's functions are asked.
-/
import Derived.Test.YtojjfkabepkhdaaDrawWays
import Derived.Deep.RegionWith
set_option linter.unusedVariables false
namespace Go.Proofs.Ytojjfkabepkhdaa
open Go.RowKit


set_option maxRecDepth 100000 in
set_option maxHeartbeats 4000000 in
theorem drawWaysPart (a : Option Addr) (n c : Nat) (w : World) (h : Bytes w a n) (hn : n ≤ 1048576) (hc : n ≤ c) :
    Calls Try.prog 34 #[.slice a n c] w fun e w' => ∃ (s : ByteArray) (x y : Int), e = .returned (.tuple #[.string s, .int .i64 x, .int .i64 y]) ∧ s.size ≤ 12 ∧ (-1 ≤ x ∧ x ≤ 42) ∧ (-1 ≤ y ∧ y ≤ 42) ∧ Below w.heap.size w w' := by
  go_enter Try.func34, Try.ntmps34
  go_wp2_with fail
  refine (open_rd a n c _ h hn hc).mono ?_
  rintro e w1 ⟨n', rfl, hrd, hap⟩
  go_wp2_with fail
  refine (set_rd hrd (by omega)).mono ?_
  rintro e w2 ⟨s, p2, rfl, hs, hp2, hrd2, hap2⟩
  have hR2 := hrd2.lt
  go_wp2_with fail
  refine (pick_at hrd2 (by omega) hR2 (Below.refl _ _) 44 44 rfl (by decide) (by decide)).mono ?_
  rintro e w3 ⟨y1, rfl, hy1, hrd3, _, hap3⟩
  have hR3 := hrd3.lt
  go_wp2_with fail
  refine (pick_at hrd3 (by omega) hR3 (Below.refl _ _) 44 44 rfl (by decide) (by decide)).mono ?_
  rintro e w4 ⟨y2, rfl, hy2, hrd4, _, hap4⟩
  have HA := Lib.hid ((((hap.trans hap2).trans hap3).trans hap4).below)
  clear hrd hrd2 hrd3 hrd4 hap hap2 hap3 hap4
  go_wp2
  go_ret3
  exact ⟨s, (y1 : Int) - 1, (y2 : Int) - 1, rfl, hs, by omega, by omega, HA.out⟩

end Go.Proofs.Ytojjfkabepkhdaa
