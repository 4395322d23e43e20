/-
  The walks of the drawing of what chapter 9's functions are asked.
-/
import Derived.Test.YtojjfkabepkhdaaDrawWays
import Derived.Deep.RegionWith
set_option linter.unusedVariables false
namespace Go.Proofs.Ytojjfkabepkhdaa
open Go.RowKit


theorem seven_at61 (y1 y2 y3 v : Nat) (h1 : y1 < 12) (h2 : y2 < 61) (h3 : y3 < 20) (hv : v < 7) : ∃ x : Int, (-1 ≤ x ∧ x ≤ 61) ∧ (#[.int .i64 y1, .int .i64 y2, .int .i64 60, .int .i64 61, .int .i64 (-1), .int .i64 0, .int .i64 y3] : Array Value)[v]? = some (.int .i64 x) ∧
    ∀ W : World, (W.alloc (.cells #[.int .i64 y1, .int .i64 y2, .int .i64 60, .int .i64 61, .int .i64 (-1), .int .i64 0, .int .i64 y3] 3)).cell? ⟨W.heap.size, v, none⟩ = some (.int .i64 x) := by
  have key : ∀ x : Int, (#[.int .i64 y1, .int .i64 y2, .int .i64 60, .int .i64 61, .int .i64 (-1), .int .i64 0, .int .i64 y3] : Array Value)[v]? = some (.int .i64 x) → ∀ W : World, (W.alloc (.cells #[.int .i64 y1, .int .i64 y2, .int .i64 60, .int .i64 61, .int .i64 (-1), .int .i64 0, .int .i64 y3] 3)).cell? ⟨W.heap.size, v, none⟩ = some (.int .i64 x) := fun x h W => by
    rw [World.cell?_alloc_at _ _ _ _ rfl]; exact h
  have : v = 0 ∨ v = 1 ∨ v = 2 ∨ v = 3 ∨ v = 4 ∨ v = 5 ∨ v = 6 := by omega
  rcases this with rfl | rfl | rfl | rfl | rfl | rfl | rfl
  · exact ⟨y1, by omega, rfl, key _ rfl⟩
  · exact ⟨y2, by omega, rfl, key _ rfl⟩
  · exact ⟨60, by omega, rfl, key _ rfl⟩
  · exact ⟨61, by omega, rfl, key _ rfl⟩
  · exact ⟨-1, by omega, rfl, key _ rfl⟩
  · exact ⟨0, by omega, rfl, key _ rfl⟩
  · exact ⟨y3, by omega, rfl, key _ rfl⟩

theorem seven_at201 (y1 y2 y3 v : Nat) (h1 : y1 < 12) (h2 : y2 < 201) (h3 : y3 < 20) (hv : v < 7) : ∃ x : Int, (-1 ≤ x ∧ x ≤ 201) ∧ (#[.int .i64 y1, .int .i64 y2, .int .i64 200, .int .i64 201, .int .i64 (-1), .int .i64 0, .int .i64 y3] : Array Value)[v]? = some (.int .i64 x) ∧
    ∀ W : World, (W.alloc (.cells #[.int .i64 y1, .int .i64 y2, .int .i64 200, .int .i64 201, .int .i64 (-1), .int .i64 0, .int .i64 y3] 3)).cell? ⟨W.heap.size, v, none⟩ = some (.int .i64 x) := by
  have key : ∀ x : Int, (#[.int .i64 y1, .int .i64 y2, .int .i64 200, .int .i64 201, .int .i64 (-1), .int .i64 0, .int .i64 y3] : Array Value)[v]? = some (.int .i64 x) → ∀ W : World, (W.alloc (.cells #[.int .i64 y1, .int .i64 y2, .int .i64 200, .int .i64 201, .int .i64 (-1), .int .i64 0, .int .i64 y3] 3)).cell? ⟨W.heap.size, v, none⟩ = some (.int .i64 x) := fun x h W => by
    rw [World.cell?_alloc_at _ _ _ _ rfl]; exact h
  have : v = 0 ∨ v = 1 ∨ v = 2 ∨ v = 3 ∨ v = 4 ∨ v = 5 ∨ v = 6 := by omega
  rcases this with rfl | rfl | rfl | rfl | rfl | rfl | rfl
  · exact ⟨y1, by omega, rfl, key _ rfl⟩
  · exact ⟨y2, by omega, rfl, key _ rfl⟩
  · exact ⟨200, by omega, rfl, key _ rfl⟩
  · exact ⟨201, by omega, rfl, key _ rfl⟩
  · exact ⟨-1, by omega, rfl, key _ rfl⟩
  · exact ⟨0, by omega, rfl, key _ rfl⟩
  · exact ⟨y3, by omega, rfl, key _ rfl⟩

set_option maxRecDepth 100000 in
set_option maxHeartbeats 4000000 in
theorem drawWaysBags (a : Option Addr) (n c : Nat) (w : World) (h : Bytes w a n) (hn : n ≤ 1048576) (hc : n ≤ c) :
    Calls Try.prog 19 #[.slice a n c] w fun e w' => ∃ (s : ByteArray) (x : Int), e = .returned (.tuple #[.string s, .int .i64 x]) ∧ s.size ≤ 12 ∧ (-1 ≤ x ∧ x ≤ 61) ∧ Below w.heap.size w w' := by
  have HO := Lib.hid (open_rd a n c w h hn hc)
  clear h
  go_enter Try.func19, Try.ntmps19
  go_wp2_with fail
  refine HO.out.mono ?_
  rintro e w1 ⟨n', rfl, hrd, hap⟩
  have HA := Lib.hid hap
  have hR1 := hrd.lt
  have HD := Lib.hid (set_rd (hrd.below (below_drewN (Below.refl w1.heap.size w1) 1) hR1) (by omega))
  clear hrd hap
  go_wp2
  go_region_with (first
    | (go_at_call 43; refine HD.out.mono ?_; rintro e w2 ⟨s, p2, rfl, hs, hp2, hrd2, hap2⟩; have hR2 := hrd2.lt; have HA2 := Lib.hid (HA.out.trans ((Apart.of_below (Nat.le_of_lt hR1) (below_drewN (Below.refl w1.heap.size w1) 1)).trans hap2)); have HR2 := Lib.hid hrd2; clear hap2 hrd2 HD)
    | (go_at_call 44; refine (pick_at HR2.out (by omega) hR2 (by first | exact Below.refl _ _ | exact (Below.refl _ _).alloc (Nat.le_refl _) _) 12 12 rfl (by decide) (by decide)).mono ?_; rintro e w3 ⟨y1, rfl, hy1, hrd3, hapA3, hap3⟩; have hR3 := hrd3.lt; have HA3 := Lib.hid (HA2.out.trans hap3); have HR3 := Lib.hid hrd3; clear hap3 hapA3 hrd3 HR2)
    | (go_at_call 44; refine (pick_at HR3.out (by omega) hR3 (by first | exact Below.refl _ _ | exact (Below.refl _ _).alloc (Nat.le_refl _) _) 61 61 rfl (by decide) (by decide)).mono ?_; rintro e w4 ⟨y2, rfl, hy2, hrd4, hapA4, hap4⟩; have hR4 := hrd4.lt; have HA4 := Lib.hid (HA3.out.trans hap4); have HR4 := Lib.hid hrd4; clear hap4 hapA4 hrd4 HR3)
    | (go_at_call 44; refine (pick_at HR4.out (by omega) hR4 (by first | exact Below.refl _ _ | exact (Below.refl _ _).alloc (Nat.le_refl _) _) 20 20 rfl (by decide) (by decide)).mono ?_; rintro e w5 ⟨y3, rfl, hy3, hrd5, hapA5, hap5⟩; have hR5 := hrd5.lt; have HA5 := Lib.hid (HA4.out.trans hap5); have HR5 := Lib.hid hrd5; clear hap5 hapA5 hrd5 HR4)
    | (go_at_call 44; refine (pick_at HR5.out (by omega) hR5 (by first | exact Below.refl _ _ | exact (Below.refl _ _).alloc (Nat.le_refl _) _) 7 7 rfl (by decide) (by decide)).mono ?_; rintro e w6 ⟨v, rfl, hv, hrd6, hapA6, hap6⟩; have hR6 := hrd6.lt; have HA6 := Lib.hid (HA5.out.trans hap6); have HR6 := Lib.hid hrd6; obtain ⟨x, hxr, hx1, hx2⟩ := seven_at61 y1 y2 y3 v hy1 hy2 hy3 hv; have hv7 : (v : Int) < 7 := (by omega); (first | have hcell := (table_cell hapA6 hR5 v).trans hx1 | skip); clear hx1; clear hap6 hapA6 hrd6 HR5))
  all_goals
    go_wp2
    go_ret2
    first
      | exact ⟨s, x, rfl, hs, hxr, HA6.out.below⟩
      | exact ⟨s, x, rfl, hs, hxr, (HA6.out.trans (Apart.of_below (Nat.le_of_lt hR6) ((Below.refl _ _).alloc (Nat.le_refl _) _))).below⟩

set_option maxRecDepth 100000 in
set_option maxHeartbeats 4000000 in
theorem drawWaysApart (a : Option Addr) (n c : Nat) (w : World) (h : Bytes w a n) (hn : n ≤ 1048576) (hc : n ≤ c) :
    Calls Try.prog 23 #[.slice a n c] w fun e w' => ∃ (s : ByteArray) (x : Int), e = .returned (.tuple #[.string s, .int .i64 x]) ∧ s.size ≤ 12 ∧ (-1 ≤ x ∧ x ≤ 61) ∧ Below w.heap.size w w' := by
  have HO := Lib.hid (open_rd a n c w h hn hc)
  clear h
  go_enter Try.func23, Try.ntmps23
  go_wp2_with fail
  refine HO.out.mono ?_
  rintro e w1 ⟨n', rfl, hrd, hap⟩
  have HA := Lib.hid hap
  have hR1 := hrd.lt
  have HD := Lib.hid (set_rd (hrd.below (below_drewN (Below.refl w1.heap.size w1) 1) hR1) (by omega))
  clear hrd hap
  go_wp2
  go_region_with (first
    | (go_at_call 43; refine HD.out.mono ?_; rintro e w2 ⟨s, p2, rfl, hs, hp2, hrd2, hap2⟩; have hR2 := hrd2.lt; have HA2 := Lib.hid (HA.out.trans ((Apart.of_below (Nat.le_of_lt hR1) (below_drewN (Below.refl w1.heap.size w1) 1)).trans hap2)); have HR2 := Lib.hid hrd2; clear hap2 hrd2 HD)
    | (go_at_call 44; refine (pick_at HR2.out (by omega) hR2 (by first | exact Below.refl _ _ | exact (Below.refl _ _).alloc (Nat.le_refl _) _) 12 12 rfl (by decide) (by decide)).mono ?_; rintro e w3 ⟨y1, rfl, hy1, hrd3, hapA3, hap3⟩; have hR3 := hrd3.lt; have HA3 := Lib.hid (HA2.out.trans hap3); have HR3 := Lib.hid hrd3; clear hap3 hapA3 hrd3 HR2)
    | (go_at_call 44; refine (pick_at HR3.out (by omega) hR3 (by first | exact Below.refl _ _ | exact (Below.refl _ _).alloc (Nat.le_refl _) _) 61 61 rfl (by decide) (by decide)).mono ?_; rintro e w4 ⟨y2, rfl, hy2, hrd4, hapA4, hap4⟩; have hR4 := hrd4.lt; have HA4 := Lib.hid (HA3.out.trans hap4); have HR4 := Lib.hid hrd4; clear hap4 hapA4 hrd4 HR3)
    | (go_at_call 44; refine (pick_at HR4.out (by omega) hR4 (by first | exact Below.refl _ _ | exact (Below.refl _ _).alloc (Nat.le_refl _) _) 20 20 rfl (by decide) (by decide)).mono ?_; rintro e w5 ⟨y3, rfl, hy3, hrd5, hapA5, hap5⟩; have hR5 := hrd5.lt; have HA5 := Lib.hid (HA4.out.trans hap5); have HR5 := Lib.hid hrd5; clear hap5 hapA5 hrd5 HR4)
    | (go_at_call 44; refine (pick_at HR5.out (by omega) hR5 (by first | exact Below.refl _ _ | exact (Below.refl _ _).alloc (Nat.le_refl _) _) 7 7 rfl (by decide) (by decide)).mono ?_; rintro e w6 ⟨v, rfl, hv, hrd6, hapA6, hap6⟩; have hR6 := hrd6.lt; have HA6 := Lib.hid (HA5.out.trans hap6); have HR6 := Lib.hid hrd6; obtain ⟨x, hxr, hx1, hx2⟩ := seven_at61 y1 y2 y3 v hy1 hy2 hy3 hv; have hv7 : (v : Int) < 7 := (by omega); (first | have hcell := (table_cell hapA6 hR5 v).trans hx1 | skip); clear hx1; clear hap6 hapA6 hrd6 HR5))
  all_goals
    go_wp2
    go_ret2
    first
      | exact ⟨s, x, rfl, hs, hxr, HA6.out.below⟩
      | exact ⟨s, x, rfl, hs, hxr, (HA6.out.trans (Apart.of_below (Nat.le_of_lt hR6) ((Below.refl _ _).alloc (Nat.le_refl _) _))).below⟩

set_option maxRecDepth 100000 in
set_option maxHeartbeats 4000000 in
theorem drawWaysFew (a : Option Addr) (n c : Nat) (w : World) (h : Bytes w a n) (hn : n ≤ 1048576) (hc : n ≤ c) :
    Calls Try.prog 26 #[.slice a n c] w fun e w' => ∃ (s : ByteArray) (x : Int), e = .returned (.tuple #[.string s, .int .i64 x]) ∧ s.size ≤ 12 ∧ (-1 ≤ x ∧ x ≤ 201) ∧ Below w.heap.size w w' := by
  have HO := Lib.hid (open_rd a n c w h hn hc)
  clear h
  go_enter Try.func26, Try.ntmps26
  go_wp2_with fail
  refine HO.out.mono ?_
  rintro e w1 ⟨n', rfl, hrd, hap⟩
  have HA := Lib.hid hap
  have hR1 := hrd.lt
  have HD := Lib.hid (set_rd (hrd.below (below_drewN (Below.refl w1.heap.size w1) 1) hR1) (by omega))
  clear hrd hap
  go_wp2
  go_region_with (first
    | (go_at_call 43; refine HD.out.mono ?_; rintro e w2 ⟨s, p2, rfl, hs, hp2, hrd2, hap2⟩; have hR2 := hrd2.lt; have HA2 := Lib.hid (HA.out.trans ((Apart.of_below (Nat.le_of_lt hR1) (below_drewN (Below.refl w1.heap.size w1) 1)).trans hap2)); have HR2 := Lib.hid hrd2; clear hap2 hrd2 HD)
    | (go_at_call 44; refine (pick_at HR2.out (by omega) hR2 (by first | exact Below.refl _ _ | exact (Below.refl _ _).alloc (Nat.le_refl _) _) 12 12 rfl (by decide) (by decide)).mono ?_; rintro e w3 ⟨y1, rfl, hy1, hrd3, hapA3, hap3⟩; have hR3 := hrd3.lt; have HA3 := Lib.hid (HA2.out.trans hap3); have HR3 := Lib.hid hrd3; clear hap3 hapA3 hrd3 HR2)
    | (go_at_call 44; refine (pick_at HR3.out (by omega) hR3 (by first | exact Below.refl _ _ | exact (Below.refl _ _).alloc (Nat.le_refl _) _) 201 201 rfl (by decide) (by decide)).mono ?_; rintro e w4 ⟨y2, rfl, hy2, hrd4, hapA4, hap4⟩; have hR4 := hrd4.lt; have HA4 := Lib.hid (HA3.out.trans hap4); have HR4 := Lib.hid hrd4; clear hap4 hapA4 hrd4 HR3)
    | (go_at_call 44; refine (pick_at HR4.out (by omega) hR4 (by first | exact Below.refl _ _ | exact (Below.refl _ _).alloc (Nat.le_refl _) _) 20 20 rfl (by decide) (by decide)).mono ?_; rintro e w5 ⟨y3, rfl, hy3, hrd5, hapA5, hap5⟩; have hR5 := hrd5.lt; have HA5 := Lib.hid (HA4.out.trans hap5); have HR5 := Lib.hid hrd5; clear hap5 hapA5 hrd5 HR4)
    | (go_at_call 44; refine (pick_at HR5.out (by omega) hR5 (by first | exact Below.refl _ _ | exact (Below.refl _ _).alloc (Nat.le_refl _) _) 7 7 rfl (by decide) (by decide)).mono ?_; rintro e w6 ⟨v, rfl, hv, hrd6, hapA6, hap6⟩; have hR6 := hrd6.lt; have HA6 := Lib.hid (HA5.out.trans hap6); have HR6 := Lib.hid hrd6; obtain ⟨x, hxr, hx1, hx2⟩ := seven_at201 y1 y2 y3 v hy1 hy2 hy3 hv; have hv7 : (v : Int) < 7 := (by omega); (first | have hcell := (table_cell hapA6 hR5 v).trans hx1 | skip); clear hx1; clear hap6 hapA6 hrd6 HR5))
  all_goals
    go_wp2
    go_ret2
    first
      | exact ⟨s, x, rfl, hs, hxr, HA6.out.below⟩
      | exact ⟨s, x, rfl, hs, hxr, (HA6.out.trans (Apart.of_below (Nat.le_of_lt hR6) ((Below.refl _ _).alloc (Nat.le_refl _) _))).below⟩

end Go.Proofs.Ytojjfkabepkhdaa
