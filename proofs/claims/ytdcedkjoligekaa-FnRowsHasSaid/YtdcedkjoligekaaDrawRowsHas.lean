/-
  The walk of spec.DrawRowsHas: rows, and a number.
-/
import Derived.Test.YtdcedkjoligekaaDrawAll
import Derived.Deep.RegionWith
namespace Go.Proofs.Ytdcedkjoligekaa
open Go.RowKit
set_option linter.unusedVariables false

def RowsAskedN (w : World) (e : Ending) (w' : World) : Prop :=
  ∃ a m c rs, ∃ x : Int, e = .returned (.tuple #[.slice a m c, .int .i64 x]) ∧ (-1 ≤ x ∧ x ≤ 10001) ∧ ReadsR w' a m rs ∧ m ≤ 6 ∧ Short rs ∧ Small rs ∧ Below w.heap.size w w'

/-- A number is drawn from a row of five. -/
theorem pick_at {R : Nat} {a : Option Addr} {n c p : Nat} {w w0 : World} (h : Rd R a n c p w) (hp : p ≤ 1000) (hR : R < w.heap.size) (hb : Below w.heap.size w w0) (M : Int) (m : Nat) (hM : M = (m : Int)) (hm0 : 0 < m) (hm : m ≤ 1000000) :
    Calls Try.prog 74 #[.pointer (some ⟨R, 0, none⟩), .int .i64 M] w0 fun e w' =>
      ∃ v : Nat, e = .returned (.int .i64 v) ∧ v < m ∧ Rd R a n c (p + 1) w' ∧ Apart R w0 w' ∧ Apart R w w' := by
  subst hM
  refine (pick_rd (h.below hb hR) m (by omega) hm0 hm).mono ?_
  rintro e w' ⟨v, h1, h2, h3, h4, _⟩
  exact ⟨v, h1, h2, h3, h4, (Apart.of_below (Nat.le_of_lt hR) hb).trans h4⟩
theorem five_at (y1 y2 v : Nat) (h1 : y1 < 60) (h2 : y2 < 200) (hv : v < 5) : ∃ x : Int, (-1 ≤ x ∧ x ≤ 10001) ∧ (#[.int .i64 y1, .int .i64 y2, .int .i64 10000, .int .i64 10001, .int .i64 (-1)] : Array Value)[v]? = some (.int .i64 x) ∧
    ∀ W : World, (W.alloc (.cells #[.int .i64 y1, .int .i64 y2, .int .i64 10000, .int .i64 10001, .int .i64 (-1)] 3)).cell? ⟨W.heap.size, v, none⟩ = some (.int .i64 x) := by
  have key : ∀ x : Int, (#[.int .i64 y1, .int .i64 y2, .int .i64 10000, .int .i64 10001, .int .i64 (-1)] : Array Value)[v]? = some (.int .i64 x) → ∀ W : World, (W.alloc (.cells #[.int .i64 y1, .int .i64 y2, .int .i64 10000, .int .i64 10001, .int .i64 (-1)] 3)).cell? ⟨W.heap.size, v, none⟩ = some (.int .i64 x) := fun x h W => by
    rw [World.cell?_alloc_at _ _ _ _ rfl]; exact h
  have : v = 0 ∨ v = 1 ∨ v = 2 ∨ v = 3 ∨ v = 4 := by omega
  rcases this with rfl | rfl | rfl | rfl | rfl
  · exact ⟨y1, by omega, rfl, key _ rfl⟩
  · exact ⟨y2, by omega, rfl, key _ rfl⟩
  · exact ⟨10000, by omega, rfl, key _ rfl⟩
  · exact ⟨10001, by omega, rfl, key _ rfl⟩
  · exact ⟨-1, by omega, rfl, key _ rfl⟩
theorem rows_askedN {w w' : World} {B m c : Nat} {a : Option Addr} {rs : List (List Int)} {x : Int} (ho : OwnRows w' B (.slice a m c) rs) (hs : Small rs) (hl : rs.length ≤ 6) (hap : Apart w.heap.size w w') (hx : -1 ≤ x ∧ x ≤ 10001) :
    RowsAskedN w (.returned (.tuple #[.slice a m c, .int .i64 x])) w' := by
  obtain ⟨e, hr⟩ := ho.reads
  exact ⟨a, m, c, rs, x, rfl, hx, hr, by omega, small_short hs, hs, hap.below⟩

set_option maxRecDepth 100000 in
set_option maxHeartbeats 4000000 in
theorem drawRowsHas (a : Option Addr) (n c : Nat) (w : World) (h : Bytes w a n) (hn : n ≤ 1048576) (hc : n ≤ c) :
    Calls Try.prog 28 #[.slice a n c] w (RowsAskedN w) := by
  have HO := Lib.hid (open_rd a n c w h hn hc)
  clear h
  go_enter Try.func28, Try.ntmps28
  go_wp2_with fail
  refine HO.out.mono ?_
  rintro e w1 ⟨n', rfl, hrd, hap⟩
  have HA := Lib.hid hap
  have hR1 := hrd.lt
  have HD := Lib.hid (drawRows (hrd.below (below_drewN (Below.refl w1.heap.size w1) 1) hR1) (by omega))
  clear hrd hap
  go_wp2
  go_region_with (first
    | (go_at_call 52; refine HD.out.mono ?_; rintro e w2 ⟨a', m, c', rs, rfl, ho, hsm, hl, ⟨p', hp', hrd2⟩, hap2⟩; have hR2 := hrd2.lt; have HO2 := Lib.hid ho; have HSM := Lib.hid hsm; have HA2 := Lib.hid (HA.out.trans ((Apart.of_below (Nat.le_of_lt hR1) (below_drewN (Below.refl w1.heap.size w1) 1)).trans hap2)); have HR2 := Lib.hid hrd2; clear ho hsm hap2 hrd2 HD)
    | (go_at_call 74; refine (pick_at HR2.out (by omega) hR2 (by first | exact Below.refl _ _ | exact (Below.refl _ _).alloc (Nat.le_refl _) _) 60 60 rfl (by decide) (by decide)).mono ?_; rintro e w3 ⟨y1, rfl, hy1, hrd3, _, hap3⟩; have hR3 := hrd3.lt; have HO3 := Lib.hid (HO2.out.apart hap3 (by simpa using hR1)); have HA3 := Lib.hid (HA2.out.trans hap3); have HR3 := Lib.hid hrd3; clear hap3 hrd3 HR2 HO2)
    | (go_at_call 74; refine (pick_at HR3.out (by omega) hR3 (by first | exact Below.refl _ _ | exact (Below.refl _ _).alloc (Nat.le_refl _) _) 200 200 rfl (by decide) (by decide)).mono ?_; rintro e w4 ⟨y2, rfl, hy2, hrd4, _, hap4⟩; have hR4 := hrd4.lt; have HO4 := Lib.hid (HO3.out.apart hap4 (by simpa using hR1)); have HA4 := Lib.hid (HA3.out.trans hap4); have HR4 := Lib.hid hrd4; clear hap4 hrd4 HR3 HO3)
    | (go_at_call 74; refine (pick_at HR4.out (by omega) hR4 (by first | exact Below.refl _ _ | exact (Below.refl _ _).alloc (Nat.le_refl _) _) 5 5 rfl (by decide) (by decide)).mono ?_; rintro e w5 ⟨v, rfl, hv, hrd5, hap50, hap5⟩; have hR5 := hrd5.lt; have HO5 := Lib.hid (HO4.out.apart hap5 (by simpa using hR1)); have HA5 := Lib.hid (HA4.out.trans hap5); obtain ⟨x, hxr, hx1, hx2⟩ := five_at y1 y2 v hy1 hy2 hv; have hv5 : (v : Int) < 5 := (by omega); (first | have hcell := (table_cell hap50 hR4 v).trans hx1 | skip); clear hap5 hap50 hrd5 HR4 HO4 hx1))
  all_goals
    go_wp2
    go_ret2
    first
      | exact rows_askedN HO5.out HSM.out hl HA5.out hxr
      | exact rows_askedN (HO5.out.alloc _) HSM.out hl (HA5.out.trans (Apart.of_below (Nat.le_of_lt hR5) ((Below.refl _ _).alloc (Nat.le_refl _) _))) hxr
end Go.Proofs.Ytdcedkjoligekaa
