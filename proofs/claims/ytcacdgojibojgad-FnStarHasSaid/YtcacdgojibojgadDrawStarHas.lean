/-
  The walk of spec.DrawStarHas: a set text, and a number.
-/
import Derived.Test.YtcacdgojibojgadDrawSet
import Derived.Deep.RegionWith
namespace Go.Proofs.Ytcacdgojibojgad
open Go.RowKit
set_option linter.unusedVariables false

/-- A number is drawn from a row of five. -/
theorem pick_at {R : Nat} {a : Option Addr} {n c p : Nat} {w w0 : World} (h : Rd R a n c p w) (hp : p ≤ 1000) (hR : R < w.heap.size) (hb : Below w.heap.size w w0) (M : Int) (m : Nat) (hM : M = (m : Int)) (hm0 : 0 < m) (hm : m ≤ 1000000) :
    Calls Try.prog 63 #[.pointer (some ⟨R, 0, none⟩), .int .i64 M] w0 fun e w' =>
      ∃ v : Nat, e = .returned (.int .i64 v) ∧ v < m ∧ Rd R a n c (p + 1) w' ∧ Apart R w0 w' ∧ Apart R w w' := by
  subst hM
  refine (pick_rd (h.below hb hR) m (by omega) hm0 hm).mono ?_
  rintro e w' ⟨v, h1, h2, h3, h4, _⟩
  exact ⟨v, h1, h2, h3, h4, (Apart.of_below (Nat.le_of_lt hR) hb).trans h4⟩
theorem five_at (y1 y2 v : Nat) (h1 : y1 < 40) (h2 : y2 < 250) (hv : v < 5) : ∃ x : Int, (-1 ≤ x ∧ x ≤ 2001) ∧ (#[.int .i64 y1, .int .i64 y2, .int .i64 2000, .int .i64 2001, .int .i64 (-1)] : Array Value)[v]? = some (.int .i64 x) ∧
    ∀ W : World, (W.alloc (.cells #[.int .i64 y1, .int .i64 y2, .int .i64 2000, .int .i64 2001, .int .i64 (-1)] 3)).cell? ⟨W.heap.size, v, none⟩ = some (.int .i64 x) := by
  have key : ∀ x : Int, (#[.int .i64 y1, .int .i64 y2, .int .i64 2000, .int .i64 2001, .int .i64 (-1)] : Array Value)[v]? = some (.int .i64 x) → ∀ W : World, (W.alloc (.cells #[.int .i64 y1, .int .i64 y2, .int .i64 2000, .int .i64 2001, .int .i64 (-1)] 3)).cell? ⟨W.heap.size, v, none⟩ = some (.int .i64 x) := fun x h W => by
    rw [World.cell?_alloc_at _ _ _ _ rfl]; exact h
  have : v = 0 ∨ v = 1 ∨ v = 2 ∨ v = 3 ∨ v = 4 := by omega
  rcases this with rfl | rfl | rfl | rfl | rfl
  · exact ⟨y1, by omega, rfl, key _ rfl⟩
  · exact ⟨y2, by omega, rfl, key _ rfl⟩
  · exact ⟨2000, by omega, rfl, key _ rfl⟩
  · exact ⟨2001, by omega, rfl, key _ rfl⟩
  · exact ⟨-1, by omega, rfl, key _ rfl⟩

set_option maxRecDepth 100000 in
set_option maxHeartbeats 4000000 in
theorem drawStarHas (a : Option Addr) (n c : Nat) (w : World) (h : Bytes w a n) (hn : n ≤ 1048576) (hc : n ≤ c) :
    Calls Try.prog 29 #[.slice a n c] w fun e w' => ∃ (s : ByteArray) (x : Int), e = .returned (.tuple #[.string s, .int .i64 x]) ∧ s.size ≤ 12 ∧ (-1 ≤ x ∧ x ≤ 2001) ∧ Below w.heap.size w w' := by
  have HO := Lib.hid (open_rd a n c w h hn hc)
  clear h
  go_enter Try.func29, Try.ntmps29
  go_wp2_with fail
  refine HO.out.mono ?_
  rintro e w1 ⟨n', rfl, hrd, hap⟩
  have HA := Lib.hid hap
  have hR1 := hrd.lt
  have HD := Lib.hid (set_rd (hrd.below (below_drewN (Below.refl w1.heap.size w1) 1) hR1) (by omega))
  clear hrd hap
  go_wp2
  go_region_with (first
    | (go_at_call 40; refine HD.out.mono ?_; rintro e w2 ⟨s, p2, rfl, hs, hp2, hrd2, hap2⟩; have hR2 := hrd2.lt; have HA2 := Lib.hid (HA.out.trans ((Apart.of_below (Nat.le_of_lt hR1) (below_drewN (Below.refl w1.heap.size w1) 1)).trans hap2)); have HR2 := Lib.hid hrd2; clear hap2 hrd2 HD)
    | (go_at_call 63; refine (pick_at HR2.out (by omega) hR2 (by first | exact Below.refl _ _ | exact (Below.refl _ _).alloc (Nat.le_refl _) _) 40 40 rfl (by decide) (by decide)).mono ?_; rintro e w3 ⟨y1, rfl, hy1, hrd3, _, hap3⟩; have hR3 := hrd3.lt; have HA3 := Lib.hid (HA2.out.trans hap3); have HR3 := Lib.hid hrd3; clear hap3 hrd3 HR2)
    | (go_at_call 63; refine (pick_at HR3.out (by omega) hR3 (by first | exact Below.refl _ _ | exact (Below.refl _ _).alloc (Nat.le_refl _) _) 250 250 rfl (by decide) (by decide)).mono ?_; rintro e w4 ⟨y2, rfl, hy2, hrd4, _, hap4⟩; have hR4 := hrd4.lt; have HA4 := Lib.hid (HA3.out.trans hap4); have HR4 := Lib.hid hrd4; clear hap4 hrd4 HR3)
    | (go_at_call 63; refine (pick_at HR4.out (by omega) hR4 (by first | exact Below.refl _ _ | exact (Below.refl _ _).alloc (Nat.le_refl _) _) 5 5 rfl (by decide) (by decide)).mono ?_; rintro e w5 ⟨v, rfl, hv, hrd5, hap50, hap5⟩; have hR5 := hrd5.lt; have HA5 := Lib.hid (HA4.out.trans hap5); obtain ⟨x, hxr, hx1, hx2⟩ := five_at y1 y2 v hy1 hy2 hv; have hv5 : (v : Int) < 5 := (by omega); (first | have hcell := (table_cell hap50 hR4 v).trans hx1 | skip); clear hap5 hap50 hrd5 HR4 hx1))
  all_goals
    go_wp2
    go_ret2
    first
      | exact ⟨s, x, rfl, hs, hxr, HA5.out.below⟩
      | exact ⟨s, x, rfl, hs, hxr, (HA5.out.trans (Apart.of_below (Nat.le_of_lt hR5) ((Below.refl _ _).alloc (Nat.le_refl _) _))).below⟩
end Go.Proofs.Ytcacdgojibojgad
