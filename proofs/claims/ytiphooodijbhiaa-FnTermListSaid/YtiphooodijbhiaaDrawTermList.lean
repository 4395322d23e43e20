/-
  The walk of spec.DrawTermList: a term, and a number.
-/
import Derived.Test.YtiphooodijbhiaaPTermBase
import Derived.Deep.RegionWith
set_option linter.unusedVariables false
namespace Go.Proofs.Ytiphooodijbhiaa
open Go.RowKit

set_option maxRecDepth 100000 in
set_option maxHeartbeats 4000000 in
theorem drawTermList (a : Option Addr) (n c : Nat) (w : World) (h : Bytes w a n) (hn : n ≤ 1048576) (hc : n ≤ c) :
    Calls Try.prog 43 #[.slice a n c] w fun e w' => ∃ (s : ByteArray) (x : Int), e = .returned (.tuple #[.string s, .int .i64 x]) ∧ s.size ≤ 30 ∧ (-1 ≤ x ∧ x ≤ 201) ∧ Below w.heap.size w w' := by
  have HO := Lib.hid (open_rd a n c w h hn hc)
  clear h
  go_enter Try.func43, Try.ntmps43
  go_wp2_with fail
  refine HO.out.mono ?_
  rintro e w1 ⟨n', rfl, hrd, hap⟩
  have HA := Lib.hid hap
  have hR1 := hrd.lt
  have HD := Lib.hid (said_rd (hrd.below (below_drewN (Below.refl w1.heap.size w1) 1) hR1) (by omega))
  clear hrd hap
  go_wp2
  go_region_with (first
    | (go_at_call 83; refine HD.out.mono ?_; rintro e w2 ⟨s, p2, rfl, hs, hp2, hrd2, hap2⟩; have hR2 := hrd2.lt; have HA2 := Lib.hid (HA.out.trans ((Apart.of_below (Nat.le_of_lt hR1) (below_drewN (Below.refl w1.heap.size w1) 1)).trans hap2)); have HR2 := Lib.hid hrd2; clear hap2 hrd2 HD)
    | (go_at_call 60; refine (pick_at HR2.out (by omega) hR2 (by first | exact Below.refl _ _ | exact (Below.refl _ _).alloc (Nat.le_refl _) _) 30 30 rfl (by decide) (by decide)).mono ?_; rintro e w3 ⟨y1, rfl, hy1, hrd3, _, hap3⟩; have hR3 := hrd3.lt; have HA3 := Lib.hid (HA2.out.trans hap3); have HR3 := Lib.hid hrd3; clear hap3 hrd3 HR2)
    | (go_at_call 60; refine (pick_at HR3.out (by omega) hR3 (by first | exact Below.refl _ _ | exact (Below.refl _ _).alloc (Nat.le_refl _) _) 201 201 rfl (by decide) (by decide)).mono ?_; rintro e w4 ⟨y2, rfl, hy2, hrd4, _, hap4⟩; have hR4 := hrd4.lt; have HA4 := Lib.hid (HA3.out.trans hap4); have HR4 := Lib.hid hrd4; clear hap4 hrd4 HR3)
    | (go_at_call 60; refine (pick_at HR4.out (by omega) hR4 (by first | exact Below.refl _ _ | exact (Below.refl _ _).alloc (Nat.le_refl _) _) 5 5 rfl (by decide) (by decide)).mono ?_; rintro e w5 ⟨v, rfl, hv, hrd5, hap50, hap5⟩; have hR5 := hrd5.lt; have HA5 := Lib.hid (HA4.out.trans hap5); obtain ⟨x, hxr, hx1, hx2⟩ := five_at y1 y2 v hy1 hy2 hv; have hv5 : (v : Int) < 5 := (by omega); (first | have hcell := (table_cell hap50 hR4 v).trans hx1 | skip); clear hap5 hap50 hrd5 HR4 hx1))
  all_goals
    go_wp2
    go_ret2
    first
      | exact ⟨s, x, rfl, hs, hxr, HA5.out.below⟩
      | exact ⟨s, x, rfl, hs, hxr, (HA5.out.trans (Apart.of_below (Nat.le_of_lt hR5) ((Below.refl _ _).alloc (Nat.le_refl _) _))).below⟩

end Go.Proofs.Ytiphooodijbhiaa
