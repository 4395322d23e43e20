/-
  The walk of spec.DrawMachAt: a machine, and a number.
-/
import Derived.Test.YtiphooodijbhiaaPMachBase
import Derived.Deep.RegionWith
set_option linter.unusedVariables false
set_option linter.unusedSimpArgs false
namespace Go.Proofs.Ytiphooodijbhiaa
open Go.RowKit

theorem own_far {R B s n : Nat} {e : TypeId} {v : Value} {xs : List Value} {w w' : World} (h : w.ownsRow B e s v n xs) (hap : Apart R w w') (hR : R < B) : w'.ownsRow B e s v n xs := by
  obtain ⟨h1, h2⟩ := h
  refine ⟨h1, ?_⟩
  rcases h2 with h2 | ⟨b, cap, cur, hv, hg, hh, hr⟩
  · exact .inl h2
  · refine .inr ⟨b, cap, cur, hv, hg, ?_, hr⟩
    have hlt : b < w.heap.size := by
      rcases Nat.lt_or_ge b w.heap.size with h | h
      · exact h
      · rw [Array.getElem?_eq_none h] at hh; cases hh
    exact (hap.block b hlt (by omega)).trans hh
/-- A number is drawn from a row of six. -/
theorem pick_at {R : Nat} {a : Option Addr} {n c p : Nat} {w w0 : World} (h : Rd R a n c p w) (hp : p ≤ 1000) (hR : R < w.heap.size) (hb : Below w.heap.size w w0) (M : Int) (m : Nat) (hM : M = (m : Int)) (hm0 : 0 < m) (hm : m ≤ 1000000) :
    Calls Try.prog 60 #[.pointer (some ⟨R, 0, none⟩), .int .i64 M] w0 fun e w' =>
      ∃ v : Nat, e = .returned (.int .i64 v) ∧ v < m ∧ Rd R a n c (p + 1) w' ∧ Apart R w0 w' ∧ Apart R w w' := by
  subst hM
  refine (pick_rd (h.below hb hR) m (by omega) hm0 hm).mono ?_
  rintro e w' ⟨v, h1, h2, h3, h4, _⟩
  exact ⟨v, h1, h2, h3, h4, (Apart.of_below (Nat.le_of_lt hR) hb).trans h4⟩
theorem six_at (y1 y2 v : Nat) (h1 : y1 < 20) (h2 : y2 < 200) (hv : v < 6) : ∃ x : Int, (-1 ≤ x ∧ x ≤ 1000001) ∧ (#[.int .i64 y1, .int .i64 y2, .int .i64 1000000, .int .i64 1000001, .int .i64 (-1), .int .i64 9999] : Array Value)[v]? = some (.int .i64 x) ∧
    ∀ W : World, (W.alloc (.cells #[.int .i64 y1, .int .i64 y2, .int .i64 1000000, .int .i64 1000001, .int .i64 (-1), .int .i64 9999] 3)).cell? ⟨W.heap.size, v, none⟩ = some (.int .i64 x) := by
  have key : ∀ x : Int, (#[.int .i64 y1, .int .i64 y2, .int .i64 1000000, .int .i64 1000001, .int .i64 (-1), .int .i64 9999] : Array Value)[v]? = some (.int .i64 x) → ∀ W : World, (W.alloc (.cells #[.int .i64 y1, .int .i64 y2, .int .i64 1000000, .int .i64 1000001, .int .i64 (-1), .int .i64 9999] 3)).cell? ⟨W.heap.size, v, none⟩ = some (.int .i64 x) := fun x h W => by
    rw [World.cell?_alloc_at _ _ _ _ rfl]; exact h
  have : v = 0 ∨ v = 1 ∨ v = 2 ∨ v = 3 ∨ v = 4 ∨ v = 5 := by omega
  rcases this with rfl | rfl | rfl | rfl | rfl | rfl
  · exact ⟨y1, by omega, rfl, key _ rfl⟩
  · exact ⟨y2, by omega, rfl, key _ rfl⟩
  · exact ⟨1000000, by omega, rfl, key _ rfl⟩
  · exact ⟨1000001, by omega, rfl, key _ rfl⟩
  · exact ⟨-1, by omega, rfl, key _ rfl⟩
  · exact ⟨9999, by omega, rfl, key _ rfl⟩
def MachKPicked (w : World) (e1 : Ending) (w' : World) : Prop :=
  ∃ a' m c' zs x y k, e1 = .returned (.tuple #[.agg #[.slice a' m c', .int .i64 x, .int .i64 y], .int .i64 k]) ∧ ReadsI w' a' m zs ∧ m ≤ 12 ∧ (-1 ≤ k ∧ k ≤ 1000001) ∧ Below w.heap.size w w'
/-- What the end of the draw needs of its world. -/
structure DrawnK (S B m : Nat) (v : Value) (zs : List Int) (w W : World) : Prop where
  res : ResM (.slice none 0 0) (.int .i64 0) (.int .i64 0) S W
  own : W.ownsRow B 3 1 v m (ints zs)
  below : Below S w W
theorem DrawnK.later {S B m : Nat} {v : Value} {zs : List Int} {w W W' : World} (h : DrawnK S B m v zs w W) (hb : Below W.heap.size W W') : DrawnK S B m v zs w W' :=
  ⟨(hb.block S (lt_of_block h.res)).trans h.res, own_below h.own hb (Nat.le_refl _), h.below.trans (hb.mono (Nat.le_of_lt (lt_of_block h.res)))⟩
theorem DrawnK.end {B m : Nat} {v x y : Value} {zs : List Int} {w W : World} (h : DrawnK w.heap.size B m v zs w W) (hB : w.heap.size < B) :
    ResM v x y w.heap.size (((W.setCell ⟨w.heap.size, 0, none⟩ v).setCell ⟨w.heap.size, 1, none⟩ x).setCell ⟨w.heap.size, 2, none⟩ y) ∧ Below w.heap.size w (((W.setCell ⟨w.heap.size, 0, none⟩ v).setCell ⟨w.heap.size, 1, none⟩ x).setCell ⟨w.heap.size, 2, none⟩ y) ∧
    (((W.setCell ⟨w.heap.size, 0, none⟩ v).setCell ⟨w.heap.size, 1, none⟩ x).setCell ⟨w.heap.size, 2, none⟩ y).ownsRow B 3 1 v m (ints zs) :=
  ⟨h.res.stored v x y, below_three (R := w.heap.size) h.below (Nat.le_refl _) v x y, own_three (R := w.heap.size) h.own hB v x y⟩

set_option maxRecDepth 100000 in
set_option maxHeartbeats 8000000 in
theorem drawMachAt (a : Option Addr) (n c : Nat) (w : World) (h : Bytes w a n) (hn : n ≤ 1048576) (hc : n ≤ c) :
    Calls Try.prog 19 #[.slice a n c] w (MachKPicked w) := by
  have HRX := Lib.hid (resM_start w)
  go_enter Try.func19, Try.ntmps19
  go_wp2_with fail
  refine (open_rd a n c _ (bytes_alloc h (.cells #[.slice none 0 0, .int .i64 0, .int .i64 0] 25)) hn hc).mono ?_
  rintro e1 w1 ⟨n', rfl, hrd, hap⟩
  rw [World.size_alloc] at hrd hap
  simp only [World.size_alloc]
  have hS1 : ResM (.slice none 0 0) (.int .i64 0) (.int .i64 0) w.heap.size w1 := (hap.below.block w.heap.size (Nat.lt_succ_self _)).trans HRX.out
  have hb0 : Below w.heap.size w (w.alloc (.cells #[.slice none 0 0, .int .i64 0, .int .i64 0] 25)) := (Below.refl _ _).alloc (Nat.le_refl _) _
  have HB1 := Lib.hid (hb0.trans (hap.below.mono (Nat.le_succ _)))
  have HS1 := Lib.hid hS1
  have hR1 := hrd.lt
  have hRn : w.heap.size ≠ w.heap.size + 1 := by omega
  have hRw : w.heap.size < w1.heap.size := lt_of_block hS1
  have HD := Lib.hid (drawMach (hrd.below (below_drewN (Below.refl w1.heap.size w1) 1) hR1) (by omega))
  clear hrd hap hS1 hb0 h HRX
  go_wp2
  go_region_with (first
    | (go_at_call 59; refine HD.out.mono ?_; rintro e w2 ⟨a', m, c', zs, x, y, rfl, hown, hm, ⟨p2, hp2, hrd2⟩, hap2⟩; have hR2 := hrd2.lt; have HA2 := Lib.hid ((Apart.of_below (R := w.heap.size + 1) (Nat.le_of_lt hR1) (below_drewN (Below.refl w1.heap.size w1) 1)).trans hap2); have HR2 := Lib.hid hrd2; have HO2 := Lib.hid hown; clear hap2 hrd2 HD hown)
    | (go_at_call 60; refine (pick_at HR2.out (by omega) hR2 (by first | exact Below.refl _ _ | exact (Below.refl _ _).alloc (Nat.le_refl _) _) 20 20 rfl (by decide) (by decide)).mono ?_; rintro e w3 ⟨y1, rfl, hy1, hrd3, _, hap3⟩; have hR3 := hrd3.lt; have HA3 := Lib.hid (HA2.out.trans hap3); have HC3 := Lib.hid hap3; have HR3 := Lib.hid hrd3; clear hap3 hrd3 HR2)
    | (go_at_call 60; refine (pick_at HR3.out (by omega) hR3 (by first | exact Below.refl _ _ | exact (Below.refl _ _).alloc (Nat.le_refl _) _) 200 200 rfl (by decide) (by decide)).mono ?_; rintro e w4 ⟨y2, rfl, hy2, hrd4, _, hap4⟩; have hR4 := hrd4.lt; have HA4 := Lib.hid (HA3.out.trans hap4); have HC4 := Lib.hid (HC3.out.trans hap4); have HR4 := Lib.hid hrd4; clear hap4 hrd4 HR3 HC3)
    | (go_at_call 60; go_loud (refine (pick_at HR4.out (by omega) hR4 (by first | exact Below.refl _ _ | exact (Below.refl _ _).alloc (Nat.le_refl _) _) 6 6 rfl (by decide) (by decide)).mono ?_; rintro e w5 ⟨v, rfl, hv, hrd5, hap50, hap5⟩; have hR5 := hrd5.lt; have HA5 := Lib.hid (HA4.out.trans hap5); have HC5 := Lib.hid (HC4.out.trans hap5); obtain ⟨z, hzr, hz1, hz2⟩ := six_at y1 y2 v hy1 hy2 hv; have hv6 : (v : Int) < 6 := (by omega); have HZ := Lib.hid hz1; (first | have hcell := (table_cell hap50 hR4 v).trans hz1 | skip); have HK : Hid (DrawnK w.heap.size w1.heap.size m (.slice a' m c') zs w w5) := Lib.hid ⟨(HA5.out.block w.heap.size hRw hRn).trans HS1.out, own_far HO2.out HC5.out hR1, HB1.out.trans (HA5.out.below.mono (Nat.le_succ _))⟩; obtain ⟨f0, f1, f2, f3, f4, f5⟩ := HK.out.res.cells; have HK2 := Lib.hid (HK.out.later ((Below.refl w5.heap.size w5).alloc (Nat.le_refl _) (.cells #[.int .i64 y1, .int .i64 y2, .int .i64 1000000, .int .i64 1000001, .int .i64 (-1), .int .i64 9999] 3))); obtain ⟨g0, g1, g2, g3, g4, g5⟩ := HK2.out.res.cells; clear hap5 hap50 hrd5 HR4 hz1 HC4)))
  all_goals
    have HE := Lib.hid (HK.out.end (x := .int .i64 x) (y := .int .i64 y) hRw)
    have HE2 := Lib.hid (HK2.out.end (x := .int .i64 x) (y := .int .i64 y) hRw)
    go_wp2
    first
      | (generalize (((w5.setCell ⟨w.heap.size, 0, none⟩ (.slice a' m c')).setCell ⟨w.heap.size, 1, none⟩ (.int .i64 x)).setCell ⟨w.heap.size, 2, none⟩ (.int .i64 y)) = wz at HE ⊢
         obtain ⟨hF, hB, hO⟩ := HE.out
         obtain ⟨e0, e1, e2, _⟩ := hF.cells
         exact bodyPost_ret (v := .tuple #[.agg #[.slice a' m c', .int .i64 x, .int .i64 y], .int .i64 z]) (by simp [results, Try.results19, go_sem, e0, e1, e2]) rfl ⟨a', m, c', zs, x, y, z, rfl, readsI_own hO, hm, hzr, hB⟩)
      | (generalize (((w5.setCell ⟨w.heap.size, 0, none⟩ (.slice a' m c')).setCell ⟨w.heap.size, 1, none⟩ (.int .i64 x)).setCell ⟨w.heap.size, 2, none⟩ (.int .i64 y)) = wz at HE ⊢
         obtain ⟨hF, hB, hO⟩ := HE.out
         have hb := (Below.refl wz.heap.size wz).alloc (Nat.le_refl _) (.cells #[.int .i64 y1, .int .i64 y2, .int .i64 1000000, .int .i64 1000001, .int .i64 (-1), .int .i64 9999] 3)
         have hF2 : ResM _ _ _ w.heap.size (wz.alloc (.cells #[.int .i64 y1, .int .i64 y2, .int .i64 1000000, .int .i64 1000001, .int .i64 (-1), .int .i64 9999] 3)) := (hb.block w.heap.size (lt_of_block hF)).trans hF
         obtain ⟨e0, e1, e2, _⟩ := hF2.cells
         exact bodyPost_ret (v := .tuple #[.agg #[.slice a' m c', .int .i64 x, .int .i64 y], .int .i64 z]) (by simp [results, Try.results19, go_sem, e0, e1, e2] <;> exact (Array.getElem?_eq_some_iff.1 HZ.out).2) rfl ⟨a', m, c', zs, x, y, z, rfl, readsI_own (own_below hO hb (Nat.le_refl _)), hm, hzr, hB.trans (hb.mono (Nat.le_of_lt (lt_of_block hF)))⟩)
      | (generalize ((((w5.alloc (.cells #[.int .i64 y1, .int .i64 y2, .int .i64 1000000, .int .i64 1000001, .int .i64 (-1), .int .i64 9999] 3)).setCell ⟨w.heap.size, 0, none⟩ (.slice a' m c')).setCell ⟨w.heap.size, 1, none⟩ (.int .i64 x)).setCell ⟨w.heap.size, 2, none⟩ (.int .i64 y)) = wz at HE2 ⊢
         obtain ⟨hF, hB, hO⟩ := HE2.out
         obtain ⟨e0, e1, e2, _⟩ := hF.cells
         exact bodyPost_ret (v := .tuple #[.agg #[.slice a' m c', .int .i64 x, .int .i64 y], .int .i64 z]) (by simp [results, Try.results19, go_sem, e0, e1, e2]) rfl ⟨a', m, c', zs, x, y, z, rfl, readsI_own hO, hm, hzr, hB⟩)

end Go.Proofs.Ytiphooodijbhiaa
