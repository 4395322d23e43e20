/-
  The walk of spec.DrawMachBoth: two machines.
-/
import Derived.Test.YtiphooodijbhiaaPMachBase
import Derived.Deep.RegionWith
set_option linter.unusedVariables false
set_option linter.unusedSimpArgs false
namespace Go.Proofs.Ytiphooodijbhiaa
open Go.RowKit

theorem own_far {R B s n : Nat} {e : TypeId} {v : Value} {xs : List Value} {w w' : World} (h : w.ownsRow B e s v n xs) (hap : Apart R w w') (hR : R < B) : w'.ownsRow B e s v n xs := by
  obtain ⟨h1, h2⟩ := h
  refine ⟨h1, ?_⟩
  rcases h2 with h2 | ⟨b, cap, cur, hv, hg, hh, hr⟩
  · exact .inl h2
  · refine .inr ⟨b, cap, cur, hv, hg, ?_, hr⟩
    have hlt : b < w.heap.size := by
      rcases Nat.lt_or_ge b w.heap.size with h | h
      · exact h
      · rw [Array.getElem?_eq_none h] at hh; cases hh
    exact (hap.block b hlt (by omega)).trans hh
def MachsPicked (w : World) (e1 : Ending) (w' : World) : Prop :=
  ∃ a m c zs x y a2 m2 c2 ys x2 y2, e1 = .returned (.tuple #[.agg #[.slice a m c, .int .i64 x, .int .i64 y], .agg #[.slice a2 m2 c2, .int .i64 x2, .int .i64 y2]]) ∧ ReadsI w' a m zs ∧ m ≤ 12 ∧ ReadsI w' a2 m2 ys ∧ m2 ≤ 12 ∧ Below w.heap.size w w'
/-- What the end of the draw needs of its world. -/
structure DrawnB (S B B2 m m2 : Nat) (v v2 : Value) (zs ys : List Int) (w W : World) : Prop where
  resa : ResM (.slice none 0 0) (.int .i64 0) (.int .i64 0) S W
  resb : ResM (.slice none 0 0) (.int .i64 0) (.int .i64 0) (S + 1) W
  own : W.ownsRow B 3 1 v m (ints zs)
  own2 : W.ownsRow B2 3 1 v2 m2 (ints ys)
  below : Below S w W
  lt : S + 1 < B
  lt2 : S + 1 < B2
theorem ResM.three {v0 v1 v2 : Value} {S R : Nat} {w : World} (h : ResM v0 v1 v2 S w) (hne : S ≠ R) (x y z : Value) : ResM v0 v1 v2 S (((w.setCell ⟨R, 0, none⟩ x).setCell ⟨R, 1, none⟩ y).setCell ⟨R, 2, none⟩ z) := ((h.other (p := ⟨R, 0, none⟩) hne x).other (p := ⟨R, 1, none⟩) hne y).other (p := ⟨R, 2, none⟩) hne z
theorem DrawnB.end1 {S B B2 m m2 : Nat} {v v2 x y x2 y2 : Value} {zs ys : List Int} {w W : World} (h : DrawnB S B B2 m m2 v v2 zs ys w W) (wz : World) (hz : wz = ((((((W.setCell ⟨S, 0, none⟩ v).setCell ⟨S, 1, none⟩ x).setCell ⟨S, 2, none⟩ y).setCell ⟨(S + 1), 0, none⟩ v2).setCell ⟨(S + 1), 1, none⟩ x2).setCell ⟨(S + 1), 2, none⟩ y2)) :
    ResM v x y S wz ∧ ResM v2 x2 y2 (S + 1) wz ∧ Below S w wz ∧ wz.ownsRow B 3 1 v m (ints zs) ∧ wz.ownsRow B2 3 1 v2 m2 (ints ys) := by
  subst hz
  have l1 := h.lt
  have l2 := h.lt2
  exact ⟨(h.resa.stored v x y).three (by omega) v2 x2 y2, (h.resb.three (by omega) v x y).stored v2 x2 y2, below_three (R := S + 1) (below_three (R := S) h.below (Nat.le_refl _) v x y) (Nat.le_succ _) v2 x2 y2,
    own_three (R := S + 1) (own_three (R := S) h.own (by omega) v x y) (by omega) v2 x2 y2, own_three (R := S + 1) (own_three (R := S) h.own2 (by omega) v x y) (by omega) v2 x2 y2⟩
theorem DrawnB.end2 {S B B2 m m2 : Nat} {v v2 x y x2 y2 : Value} {zs ys : List Int} {w W : World} (h : DrawnB S B B2 m m2 v v2 zs ys w W) (wz : World) (hz : wz = ((((((W.setCell ⟨(S + 1), 0, none⟩ v2).setCell ⟨(S + 1), 1, none⟩ x2).setCell ⟨(S + 1), 2, none⟩ y2).setCell ⟨S, 0, none⟩ v).setCell ⟨S, 1, none⟩ x).setCell ⟨S, 2, none⟩ y)) :
    ResM v x y S wz ∧ ResM v2 x2 y2 (S + 1) wz ∧ Below S w wz ∧ wz.ownsRow B 3 1 v m (ints zs) ∧ wz.ownsRow B2 3 1 v2 m2 (ints ys) := by
  subst hz
  have l1 := h.lt
  have l2 := h.lt2
  exact ⟨(h.resa.three (by omega) v2 x2 y2).stored v x y, (h.resb.stored v2 x2 y2).three (by omega) v x y, below_three (R := S) (below_three (R := S + 1) h.below (Nat.le_succ _) v2 x2 y2) (Nat.le_refl _) v x y,
    own_three (R := S) (own_three (R := S + 1) h.own (by omega) v2 x2 y2) (by omega) v x y, own_three (R := S) (own_three (R := S + 1) h.own2 (by omega) v2 x2 y2) (by omega) v x y⟩

set_option maxRecDepth 100000 in
set_option maxHeartbeats 8000000 in
theorem drawMachBoth (a : Option Addr) (n c : Nat) (w : World) (h : Bytes w a n) (hn : n ≤ 1048576) (hc : n ≤ c) :
    Calls Try.prog 29 #[.slice a n c] w (MachsPicked w) := by
  have HRX := Lib.hid (resM_start w)
  have HRY := Lib.hid (resM_start (w.alloc (.cells #[.slice none 0 0, .int .i64 0, .int .i64 0] 25)))
  go_enter Try.func29, Try.ntmps29
  go_wp2_with fail
  refine (open_rd a n c _ (bytes_alloc (bytes_alloc h (.cells #[.slice none 0 0, .int .i64 0, .int .i64 0] 25)) (.cells #[.slice none 0 0, .int .i64 0, .int .i64 0] 25)) hn hc).mono ?_
  rintro e1 w1 ⟨n', rfl, hrd, hap⟩
  rw [World.size_alloc, World.size_alloc] at hrd hap
  simp only [World.size_alloc]
  have hS1 : ResM (.slice none 0 0) (.int .i64 0) (.int .i64 0) w.heap.size w1 := (hap.below.block w.heap.size (by omega)).trans ((((Below.refl _ _).alloc (Nat.le_refl _) (.cells #[.slice none 0 0, .int .i64 0, .int .i64 0] 25)).block w.heap.size (lt_of_block HRX.out)).trans HRX.out)
  have hT1 : ResM (.slice none 0 0) (.int .i64 0) (.int .i64 0) (w.heap.size + 1) w1 := (hap.below.block (w.heap.size + 1) (by omega)).trans (by have := HRY.out; rw [World.size_alloc] at this; exact this)
  have hb0 : Below w.heap.size w ((w.alloc (.cells #[.slice none 0 0, .int .i64 0, .int .i64 0] 25)).alloc (.cells #[.slice none 0 0, .int .i64 0, .int .i64 0] 25)) := ((Below.refl _ _).alloc (Nat.le_refl _) _).alloc (by simp) _
  have HB1 := Lib.hid (hb0.trans (hap.below.mono (by omega)))
  have HS1 := Lib.hid hS1
  have HT1 := Lib.hid hT1
  have hR1 := hrd.lt
  have HR1 := Lib.hid hrd
  clear hrd hap hS1 hT1 hb0 h HRX HRY
  go_wp2_with fail
  refine (drawMach HR1.out (by omega)).mono ?_
  rintro e w2 ⟨a', m, c', zs, x, y, rfl, hown, hm, ⟨p2, hp2, hrd2⟩, hap2⟩
  have hR2 := hrd2.lt
  have HA2 := Lib.hid hap2
  have HR2 := Lib.hid hrd2
  have HO2 := Lib.hid hown
  clear hap2 hrd2 hown HR1
  go_wp2_with fail
  refine (drawMach HR2.out (by omega)).mono ?_
  rintro e w3 ⟨a2, m2, c2, ys, x2, y2, rfl, hown2, hm2, _, hap3⟩
  have HA3 := Lib.hid (HA2.out.trans hap3)
  have HK : Hid (DrawnB w.heap.size w1.heap.size w2.heap.size m m2 (.slice a' m c') (.slice a2 m2 c2) zs ys w w3) := Lib.hid ⟨(HA3.out.block w.heap.size (by omega) (by omega)).trans HS1.out, (HA3.out.block (w.heap.size + 1) (by omega) (by omega)).trans HT1.out, own_far HO2.out hap3 hR1, hown2, HB1.out.trans (HA3.out.below.mono (by omega)), by omega, by omega⟩
  obtain ⟨f0, f1, f2, f3, f4, f5⟩ := HK.out.resa.cells
  obtain ⟨g0, g1, g2, g3, g4, g5⟩ := HK.out.resb.cells
  clear hap3 hown2 HR2 HA2
  all_goals
    go_wp2
    first
      | (generalize hwz : ((((((w3.setCell ⟨w.heap.size, 0, none⟩ (.slice a' m c')).setCell ⟨w.heap.size, 1, none⟩ (.int .i64 x)).setCell ⟨w.heap.size, 2, none⟩ (.int .i64 y)).setCell ⟨w.heap.size + 1, 0, none⟩ (.slice a2 m2 c2)).setCell ⟨w.heap.size + 1, 1, none⟩ (.int .i64 x2)).setCell ⟨w.heap.size + 1, 2, none⟩ (.int .i64 y2)) = wz
         obtain ⟨hF, hG, hB, hO, hO2⟩ := HK.out.end1 wz hwz.symm
         obtain ⟨e0, e1, e2, _⟩ := hF.cells
         obtain ⟨e3, e4, e5, _⟩ := hG.cells
         exact bodyPost_ret (v := .tuple #[.agg #[.slice a' m c', .int .i64 x, .int .i64 y], .agg #[.slice a2 m2 c2, .int .i64 x2, .int .i64 y2]]) (by simp [results, Try.results29, go_sem, e0, e1, e2, e3, e4, e5]) rfl ⟨a', m, c', zs, x, y, a2, m2, c2, ys, x2, y2, rfl, readsI_own hO, hm, readsI_own hO2, hm2, hB⟩)
      | (generalize hwz : ((((((w3.setCell ⟨w.heap.size + 1, 0, none⟩ (.slice a2 m2 c2)).setCell ⟨w.heap.size + 1, 1, none⟩ (.int .i64 x2)).setCell ⟨w.heap.size + 1, 2, none⟩ (.int .i64 y2)).setCell ⟨w.heap.size, 0, none⟩ (.slice a' m c')).setCell ⟨w.heap.size, 1, none⟩ (.int .i64 x)).setCell ⟨w.heap.size, 2, none⟩ (.int .i64 y)) = wz
         obtain ⟨hF, hG, hB, hO, hO2⟩ := HK.out.end2 wz hwz.symm
         obtain ⟨e0, e1, e2, _⟩ := hF.cells
         obtain ⟨e3, e4, e5, _⟩ := hG.cells
         exact bodyPost_ret (v := .tuple #[.agg #[.slice a' m c', .int .i64 x, .int .i64 y], .agg #[.slice a2 m2 c2, .int .i64 x2, .int .i64 y2]]) (by simp [results, Try.results29, go_sem, e0, e1, e2, e3, e4, e5]) rfl ⟨a', m, c', zs, x, y, a2, m2, c2, ys, x2, y2, rfl, readsI_own hO, hm, readsI_own hO2, hm2, hB⟩)

end Go.Proofs.Ytiphooodijbhiaa
