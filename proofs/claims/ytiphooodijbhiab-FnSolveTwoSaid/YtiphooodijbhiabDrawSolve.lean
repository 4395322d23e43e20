/-
  The walks of the drawing of what chapter 8's functions are asked.
-/
import Derived.Test.YtiphooodijbhiabDrawSet
import Derived.Deep.RegionWith
set_option linter.unusedVariables false
namespace Go.Proofs.Ytiphooodijbhiab
open Go.RowKit

set_option maxRecDepth 100000 in
set_option maxHeartbeats 4000000 in
theorem drawSolveLeast (a : Option Addr) (n c : Nat) (w : World) (h : Bytes w a n) (hn : n ≤ 1048576) (hc : n ≤ c) :
    Calls Try.prog 21 #[.slice a n c] w fun e w' => ∃ s t : ByteArray, e = .returned (.tuple #[.string s, .string t]) ∧ s.size ≤ 12 ∧ t.size ≤ 12 ∧ Below w.heap.size w w' := by
  go_enter Try.func21, Try.ntmps21
  go_wp2_with fail
  refine (open_rd a n c _ h hn hc).mono ?_
  rintro e w1 ⟨n', rfl, hrd, hap⟩
  go_wp2_with fail
  refine (set_rd hrd (by omega)).mono ?_
  rintro e w2 ⟨s, p2, rfl, hs, hp2, hrd2, hap2⟩
  go_wp2_with fail
  refine (set_rd hrd2 (by omega)).mono ?_
  rintro e w3 ⟨t, p3, rfl, ht, hp3, hrd3, hap3⟩
  go_wp2
  go_ret2
  exact ⟨s, t, rfl, hs, ht, ((hap.trans hap2).trans hap3).below⟩

set_option maxRecDepth 100000 in
set_option maxHeartbeats 4000000 in
theorem drawSolveMost (a : Option Addr) (n c : Nat) (w : World) (h : Bytes w a n) (hn : n ≤ 1048576) (hc : n ≤ c) :
    Calls Try.prog 34 #[.slice a n c] w fun e w' => ∃ s t : ByteArray, e = .returned (.tuple #[.string s, .string t]) ∧ s.size ≤ 12 ∧ t.size ≤ 12 ∧ Below w.heap.size w w' := by
  go_enter Try.func34, Try.ntmps34
  go_wp2_with fail
  refine (open_rd a n c _ h hn hc).mono ?_
  rintro e w1 ⟨n', rfl, hrd, hap⟩
  go_wp2_with fail
  refine (set_rd hrd (by omega)).mono ?_
  rintro e w2 ⟨s, p2, rfl, hs, hp2, hrd2, hap2⟩
  go_wp2_with fail
  refine (set_rd hrd2 (by omega)).mono ?_
  rintro e w3 ⟨t, p3, rfl, ht, hp3, hrd3, hap3⟩
  go_wp2
  go_ret2
  exact ⟨s, t, rfl, hs, ht, ((hap.trans hap2).trans hap3).below⟩

set_option maxRecDepth 100000 in
set_option maxHeartbeats 4000000 in
theorem drawSolveOne (a : Option Addr) (n c : Nat) (w : World) (h : Bytes w a n) (hn : n ≤ 1048576) (hc : n ≤ c) :
    Calls Try.prog 37 #[.slice a n c] w fun e w' => ∃ s t : ByteArray, e = .returned (.tuple #[.string s, .string t]) ∧ s.size ≤ 12 ∧ t.size ≤ 12 ∧ Below w.heap.size w w' := by
  go_enter Try.func37, Try.ntmps37
  go_wp2_with fail
  refine (open_rd a n c _ h hn hc).mono ?_
  rintro e w1 ⟨n', rfl, hrd, hap⟩
  go_wp2_with fail
  refine (set_rd hrd (by omega)).mono ?_
  rintro e w2 ⟨s, p2, rfl, hs, hp2, hrd2, hap2⟩
  go_wp2_with fail
  refine (set_rd hrd2 (by omega)).mono ?_
  rintro e w3 ⟨t, p3, rfl, ht, hp3, hrd3, hap3⟩
  go_wp2
  go_ret2
  exact ⟨s, t, rfl, hs, ht, ((hap.trans hap2).trans hap3).below⟩

set_option maxRecDepth 100000 in
set_option maxHeartbeats 4000000 in
theorem drawSolveIs (a : Option Addr) (n c : Nat) (w : World) (h : Bytes w a n) (hn : n ≤ 1048576) (hc : n ≤ c) :
    Calls Try.prog 28 #[.slice a n c] w fun e w' => ∃ s t x : ByteArray, e = .returned (.tuple #[.string s, .string t, .string x]) ∧ s.size ≤ 12 ∧ t.size ≤ 12 ∧ x.size ≤ 12 ∧ Below w.heap.size w w' := by
  go_enter Try.func28, Try.ntmps28
  go_wp2_with fail
  refine (open_rd a n c _ h hn hc).mono ?_
  rintro e w1 ⟨n', rfl, hrd, hap⟩
  go_wp2_with fail
  refine (set_rd hrd (by omega)).mono ?_
  rintro e w2 ⟨s, p2, rfl, hs, hp2, hrd2, hap2⟩
  go_wp2_with fail
  refine (set_rd hrd2 (by omega)).mono ?_
  rintro e w3 ⟨t, p3, rfl, ht, hp3, hrd3, hap3⟩
  go_wp2_with fail
  refine (set_rd hrd3 (by omega)).mono ?_
  rintro e w4 ⟨x, p4, rfl, hx, hp4, hrd4, hap4⟩
  go_wp2
  go_ret3
  exact ⟨s, t, x, rfl, hs, ht, hx, (((hap.trans hap2).trans hap3).trans hap4).below⟩

/-- A number is drawn from a row of five. -/
theorem pick_at {R : Nat} {a : Option Addr} {n c p : Nat} {w w0 : World} (h : Rd R a n c p w) (hp : p ≤ 1000) (hR : R < w.heap.size) (hb : Below w.heap.size w w0) (M : Int) (m : Nat) (hM : M = (m : Int)) (hm0 : 0 < m) (hm : m ≤ 1000000) :
    Calls Try.prog 58 #[.pointer (some ⟨R, 0, none⟩), .int .i64 M] w0 fun e w' =>
      ∃ v : Nat, e = .returned (.int .i64 v) ∧ v < m ∧ Rd R a n c (p + 1) w' ∧ Apart R w0 w' ∧ Apart R w w' := by
  subst hM
  refine (pick_rd (h.below hb hR) m (by omega) hm0 hm).mono ?_
  rintro e w' ⟨v, h1, h2, h3, h4, _⟩
  exact ⟨v, h1, h2, h3, h4, (Apart.of_below (Nat.le_of_lt hR) hb).trans h4⟩
theorem five_at (y1 y2 v : Nat) (h1 : y1 < 40) (h2 : y2 < 250) (hv : v < 5) : ∃ x : Int, (-1 ≤ x ∧ x ≤ 501) ∧ (#[.int .i64 y1, .int .i64 y2, .int .i64 500, .int .i64 501, .int .i64 (-1)] : Array Value)[v]? = some (.int .i64 x) ∧
    ∀ W : World, (W.alloc (.cells #[.int .i64 y1, .int .i64 y2, .int .i64 500, .int .i64 501, .int .i64 (-1)] 3)).cell? ⟨W.heap.size, v, none⟩ = some (.int .i64 x) := by
  have key : ∀ x : Int, (#[.int .i64 y1, .int .i64 y2, .int .i64 500, .int .i64 501, .int .i64 (-1)] : Array Value)[v]? = some (.int .i64 x) → ∀ W : World, (W.alloc (.cells #[.int .i64 y1, .int .i64 y2, .int .i64 500, .int .i64 501, .int .i64 (-1)] 3)).cell? ⟨W.heap.size, v, none⟩ = some (.int .i64 x) := fun x h W => by
    rw [World.cell?_alloc_at _ _ _ _ rfl]; exact h
  have : v = 0 ∨ v = 1 ∨ v = 2 ∨ v = 3 ∨ v = 4 := by omega
  rcases this with rfl | rfl | rfl | rfl | rfl
  · exact ⟨y1, by omega, rfl, key _ rfl⟩
  · exact ⟨y2, by omega, rfl, key _ rfl⟩
  · exact ⟨500, by omega, rfl, key _ rfl⟩
  · exact ⟨501, by omega, rfl, key _ rfl⟩
  · exact ⟨-1, by omega, rfl, key _ rfl⟩

set_option maxRecDepth 100000 in
set_option maxHeartbeats 4000000 in
theorem drawSolveHas (a : Option Addr) (n c : Nat) (w : World) (h : Bytes w a n) (hn : n ≤ 1048576) (hc : n ≤ c) :
    Calls Try.prog 30 #[.slice a n c] w fun e w' => ∃ (s t : ByteArray) (x : Int), e = .returned (.tuple #[.string s, .string t, .int .i64 x]) ∧ s.size ≤ 12 ∧ t.size ≤ 12 ∧ (-1 ≤ x ∧ x ≤ 501) ∧ Below w.heap.size w w' := by
  have HO := Lib.hid (open_rd a n c w h hn hc)
  clear h
  go_enter Try.func30, Try.ntmps30
  go_wp2_with fail
  refine HO.out.mono ?_
  rintro e w1 ⟨n', rfl, hrd, hap⟩
  have HA := Lib.hid hap
  have hR1 := hrd.lt
  have HD := Lib.hid (set_rd (hrd.below (below_drewN (Below.refl w1.heap.size w1) 1) hR1) (by omega))
  clear hrd hap
  go_wp2
  go_region_with (first
    | (go_at_call 60; refine HD.out.mono ?_; rintro e w2 ⟨s, p2, rfl, hs, hp2, hrd2, hap2⟩; have hR2 := hrd2.lt; have HA2 := Lib.hid (HA.out.trans ((Apart.of_below (Nat.le_of_lt hR1) (below_drewN (Below.refl w1.heap.size w1) 1)).trans hap2)); have HD2 := Lib.hid (set_rd hrd2 (by omega)); clear hap2 hrd2 HD)
    | (go_at_call 60; refine HD2.out.mono ?_; rintro e w20 ⟨t, p20, rfl, ht, hp20, hrd20, hap20⟩; have hR20 := hrd20.lt; have HA20 := Lib.hid (HA2.out.trans hap20); have HR2 := Lib.hid hrd20; clear hap20 hrd20 HD2)
    | (go_at_call 58; refine (pick_at HR2.out (by omega) hR20 (by first | exact Below.refl _ _ | exact (Below.refl _ _).alloc (Nat.le_refl _) _) 40 40 rfl (by decide) (by decide)).mono ?_; rintro e w3 ⟨y1, rfl, hy1, hrd3, _, hap3⟩; have hR3 := hrd3.lt; have HA3 := Lib.hid (HA20.out.trans hap3); have HR3 := Lib.hid hrd3; clear hap3 hrd3 HR2)
    | (go_at_call 58; refine (pick_at HR3.out (by omega) hR3 (by first | exact Below.refl _ _ | exact (Below.refl _ _).alloc (Nat.le_refl _) _) 250 250 rfl (by decide) (by decide)).mono ?_; rintro e w4 ⟨y2, rfl, hy2, hrd4, _, hap4⟩; have hR4 := hrd4.lt; have HA4 := Lib.hid (HA3.out.trans hap4); have HR4 := Lib.hid hrd4; clear hap4 hrd4 HR3)
    | (go_at_call 58; refine (pick_at HR4.out (by omega) hR4 (by first | exact Below.refl _ _ | exact (Below.refl _ _).alloc (Nat.le_refl _) _) 5 5 rfl (by decide) (by decide)).mono ?_; rintro e w5 ⟨v, rfl, hv, hrd5, hap50, hap5⟩; have hR5 := hrd5.lt; have HA5 := Lib.hid (HA4.out.trans hap5); obtain ⟨x, hxr, hx1, hx2⟩ := five_at y1 y2 v hy1 hy2 hv; have hv5 : (v : Int) < 5 := (by omega); (first | have hcell := (table_cell hap50 hR4 v).trans hx1 | skip); clear hap5 hap50 hrd5 HR4 hx1))
  all_goals
    go_wp2
    go_ret3
    first
      | exact ⟨s, t, x, rfl, hs, ht, hxr, HA5.out.below⟩
      | exact ⟨s, t, x, rfl, hs, ht, hxr, (HA5.out.trans (Apart.of_below (Nat.le_of_lt hR5) ((Below.refl _ _).alloc (Nat.le_refl _) _))).below⟩

set_option maxRecDepth 100000 in
set_option maxHeartbeats 4000000 in
theorem drawSolveTwo (a : Option Addr) (n c : Nat) (w : World) (h : Bytes w a n) (hn : n ≤ 1048576) (hc : n ≤ c) :
    Calls Try.prog 41 #[.slice a n c] w fun e w' => ∃ (s t : ByteArray) (x : Int), e = .returned (.tuple #[.string s, .string t, .int .i64 x]) ∧ s.size ≤ 12 ∧ t.size ≤ 12 ∧ (-1 ≤ x ∧ x ≤ 501) ∧ Below w.heap.size w w' := by
  have HO := Lib.hid (open_rd a n c w h hn hc)
  clear h
  go_enter Try.func41, Try.ntmps41
  go_wp2_with fail
  refine HO.out.mono ?_
  rintro e w1 ⟨n', rfl, hrd, hap⟩
  have HA := Lib.hid hap
  have hR1 := hrd.lt
  have HD := Lib.hid (set_rd (hrd.below (below_drewN (Below.refl w1.heap.size w1) 1) hR1) (by omega))
  clear hrd hap
  go_wp2
  go_region_with (first
    | (go_at_call 60; refine HD.out.mono ?_; rintro e w2 ⟨s, p2, rfl, hs, hp2, hrd2, hap2⟩; have hR2 := hrd2.lt; have HA2 := Lib.hid (HA.out.trans ((Apart.of_below (Nat.le_of_lt hR1) (below_drewN (Below.refl w1.heap.size w1) 1)).trans hap2)); have HD2 := Lib.hid (set_rd hrd2 (by omega)); clear hap2 hrd2 HD)
    | (go_at_call 60; refine HD2.out.mono ?_; rintro e w20 ⟨t, p20, rfl, ht, hp20, hrd20, hap20⟩; have hR20 := hrd20.lt; have HA20 := Lib.hid (HA2.out.trans hap20); have HR2 := Lib.hid hrd20; clear hap20 hrd20 HD2)
    | (go_at_call 58; refine (pick_at HR2.out (by omega) hR20 (by first | exact Below.refl _ _ | exact (Below.refl _ _).alloc (Nat.le_refl _) _) 40 40 rfl (by decide) (by decide)).mono ?_; rintro e w3 ⟨y1, rfl, hy1, hrd3, _, hap3⟩; have hR3 := hrd3.lt; have HA3 := Lib.hid (HA20.out.trans hap3); have HR3 := Lib.hid hrd3; clear hap3 hrd3 HR2)
    | (go_at_call 58; refine (pick_at HR3.out (by omega) hR3 (by first | exact Below.refl _ _ | exact (Below.refl _ _).alloc (Nat.le_refl _) _) 250 250 rfl (by decide) (by decide)).mono ?_; rintro e w4 ⟨y2, rfl, hy2, hrd4, _, hap4⟩; have hR4 := hrd4.lt; have HA4 := Lib.hid (HA3.out.trans hap4); have HR4 := Lib.hid hrd4; clear hap4 hrd4 HR3)
    | (go_at_call 58; refine (pick_at HR4.out (by omega) hR4 (by first | exact Below.refl _ _ | exact (Below.refl _ _).alloc (Nat.le_refl _) _) 5 5 rfl (by decide) (by decide)).mono ?_; rintro e w5 ⟨v, rfl, hv, hrd5, hap50, hap5⟩; have hR5 := hrd5.lt; have HA5 := Lib.hid (HA4.out.trans hap5); obtain ⟨x, hxr, hx1, hx2⟩ := five_at y1 y2 v hy1 hy2 hv; have hv5 : (v : Int) < 5 := (by omega); (first | have hcell := (table_cell hap50 hR4 v).trans hx1 | skip); clear hap5 hap50 hrd5 HR4 hx1))
  all_goals
    go_wp2
    go_ret3
    first
      | exact ⟨s, t, x, rfl, hs, ht, hxr, HA5.out.below⟩
      | exact ⟨s, t, x, rfl, hs, ht, hxr, (HA5.out.trans (Apart.of_below (Nat.le_of_lt hR5) ((Below.refl _ _).alloc (Nat.le_refl _) _))).below⟩

end Go.Proofs.Ytiphooodijbhiab
