/-
  The walk of impl.readRow: a list of two numbers that are in their ranges is a row.
-/
import Derived.Test.YtdcedkjoligekabRowI
import Derived.Deep.RegionWith
namespace Go.Proofs.Ytdcedkjoligekab
open Go.RowKit
set_option linter.unusedVariables false

theorem rowFitsZ (x y : Int) (w : World) :
    Calls Try.prog 27 #[.agg #[.int .i64 x, .int .i64 y]] w fun e w' => e = .returned (.bool (decide (0 ≤ x ∧ x ≤ 59) && decide (0 ≤ y ∧ y ≤ 60))) ∧ Below w.heap.size w w' := by
  cases e1 : decide (0 ≤ x ∧ x ≤ 59)
  · go_enter Try.func27, Try.ntmps27
    go_wp2_with fail
    refine (betw_is x 0 59 _).mono ?_
    rintro e w1 ⟨rfl, rfl⟩
    rw [e1]
    clear e1
    go_wp2
    go_ret
    exact ⟨rfl, (Below.refl _ _).alloc (Nat.le_refl _) _⟩
  · obtain ⟨z, hz⟩ : ∃ z, z = decide (0 ≤ y ∧ y ≤ 60) := ⟨_, rfl⟩
    rw [← hz]
    go_enter Try.func27, Try.ntmps27
    go_wp2_with fail
    refine (betw_is x 0 59 _).mono ?_
    rintro e w1 ⟨rfl, rfl⟩
    rw [e1]
    clear e1
    go_wp2_with fail
    refine (betw_is y 0 60 _).mono ?_
    rintro e w1 ⟨rfl, rfl⟩
    rw [← hz]
    clear hz
    go_wp2
    go_ret
    exact ⟨rfl, (Below.refl _ _).alloc (Nat.le_refl _) _⟩

theorem goodRow_two (x y : Int) : goodRow [x, y] = (decide (0 ≤ x ∧ x ≤ 59) && decide (0 ≤ y ∧ y ≤ 60)) := by unfold goodRow; simp
theorem goodRow_len {z : List Int} (h : z.length ≠ 2) : goodRow z = false := by
  unfold goodRow
  have : (z.length == 2) = false := by simpa using h
  rw [this]; rfl
theorem row_boxes {w : World} {o1 : Obj} {x y : Int} {wr : World} (hb : Below ((w.alloc o1).alloc (.cells #[.int .i64 x, .int .i64 y] 39)).heap.size ((w.alloc o1).alloc (.cells #[.int .i64 x, .int .i64 y] 39)) wr) :
    wr.cell? ⟨w.heap.size + 1, 0, none⟩ = some (.int .i64 x) ∧ wr.cell? ⟨w.heap.size + 1, 1, none⟩ = some (.int .i64 y) := by
  obtain ⟨q0, q1⟩ := bcell hb
  rw [q0 _ _ (by simp), q0 _ _ (by simp)]
  go_simp
theorem row_box0 {w : World} {v0 v1 : Value} {o2 : Obj} {wr : World} (hb : Below ((w.alloc (.cells #[v0, v1] 39)).alloc o2).heap.size ((w.alloc (.cells #[v0, v1] 39)).alloc o2) wr) :
    (wr.cell? ⟨w.heap.size, 0, none⟩ = some v0 ∧ wr.cell? ⟨w.heap.size, 1, none⟩ = some v1) ∧ wr.frozen? ⟨w.heap.size, 0, none⟩ = false ∧ wr.frozen? ⟨w.heap.size, 1, none⟩ = false := by
  obtain ⟨q0, q1⟩ := bcell hb
  rw [q0 _ _ (by simp; omega), q0 _ _ (by simp; omega), q1 _ _ (by simp; omega), q1 _ _ (by simp; omega)]
  go_simp

theorem row_drew {w w3 : World} {o1 o2 : Obj} (h : Below (((w.alloc o1).alloc o2).drew).heap.size (((w.alloc o1).alloc o2).drew) w3) : Below ((w.alloc o1).alloc o2).heap.size ((w.alloc o1).alloc o2) w3 := by
  have h0 : Below ((w.alloc o1).alloc o2).heap.size ((w.alloc o1).alloc o2) ((w.alloc o1).alloc o2).drew := below_drewN (Below.refl _ _) 1
  exact h0.trans (h.mono h0.size)
theorem row_end {w w3 : World} {o1 o2 : Obj} (h : Below ((w.alloc o1).alloc o2).heap.size ((w.alloc o1).alloc o2) w3) : Below w.heap.size w w3 :=
  (((Below.refl _ _).alloc (Nat.le_refl _) _).alloc (by simp) _).trans (h.mono (by simp; omega))
theorem row_stored {w wr : World} (hb : Below w.heap.size w wr) (u v : Value) : Below w.heap.size w ((wr.setCell ⟨w.heap.size, 0, none⟩ u).setCell ⟨w.heap.size, 1, none⟩ v) :=
  (hb.setCell (p := ⟨w.heap.size, 0, none⟩) (Nat.le_refl _) u).setCell (p := ⟨w.heap.size, 1, none⟩) (Nat.le_refl _) v

set_option maxHeartbeats 1000000 in
theorem readRow_is (a : Option Addr) (n c : Nat) (zs : List Int) (w : World) (h : ReadsI w a n zs) (hn : n ≤ 1048576) :
    Calls Try.prog 25 #[.slice a n c] w fun e w' => (∃ r : Rw, (goodRow zs = true → r = theRow zs) ∧ e = .returned (.tuple #[rwV r, .bool (goodRow zs)])) ∧ Below w.heap.size w w' := by
  by_cases h2 : n = 2
  · subst h2
    obtain ⟨hl, hc⟩ := h
    rcases hc with hc | ⟨g, o, rfl, hg, hc⟩
    · omega
    match zs, hl with
    | [x, y], _ =>
    have k0 := hc 0 (by decide)
    have k1 := hc 1 (by decide)
    simp only [List.getD_cons_zero, List.getD_cons_succ, Nat.add_zero] at k0 k1
    clear hc
    rw [goodRow_two]
    cases hgood : (decide (0 ≤ x ∧ x ≤ 59) && decide (0 ≤ y ∧ y ≤ 60))
    · have HG := Lib.hid hgood
      clear hgood
      go_enter Try.func25, Try.ntmps25
      go_wp2
      go_region
      go_wp2_with fail
      refine (rowFitsZ x y _).mono ?_
      rintro e w1 ⟨rfl, hb1⟩
      rw [HG.out]
      have HB := Lib.hid (row_drew (w := w) hb1)
      clear hb1
      obtain ⟨k2, k3⟩ := row_boxes HB.out
      obtain ⟨⟨k4, k5⟩, k6, k7⟩ := row_box0 HB.out
      go_wp2
      refine bodyPost_ret (v := .tuple #[.agg #[.int .i64 0, .int .i64 0], .bool false]) (by simp [results, Try.results25, go_sem, k4, k5]) rfl ⟨⟨⟨0, 0⟩, fun h => (by cases h), rfl⟩, ?_⟩
      exact row_stored (row_end HB.out) _ _
    · have HG := Lib.hid hgood
      have hp := (goodRow_parts (z := [x, y]) (by rw [goodRow_two]; exact hgood)).1
      injection hp with hx hy
      injection hy with hy _
      have HX := Lib.hid hx
      have HY := Lib.hid hy
      clear hgood hx hy
      go_enter Try.func25, Try.ntmps25
      go_wp2
      go_region
      go_wp2_with fail
      refine (rowFitsZ x y _).mono ?_
      rintro e w1 ⟨rfl, hb1⟩
      rw [HG.out]
      have HB := Lib.hid (row_drew (w := w) hb1)
      clear hb1
      obtain ⟨k2, k3⟩ := row_boxes HB.out
      obtain ⟨⟨k4, k5⟩, k6, k7⟩ := row_box0 HB.out
      go_wp2
      refine bodyPost_ret (v := .tuple #[.agg #[.int .i64 x, .int .i64 y], .bool true]) (by simp [results, Try.results25, go_sem, k4, k5]) rfl ⟨⟨theRow [x, y], fun _ => rfl, by unfold rwV; rw [← HX.out, ← HY.out]⟩, ?_⟩
      exact row_stored (row_end HB.out) _ _
  · have hg : goodRow zs = false := goodRow_len (by rw [h.len]; exact h2)
    have d : ((n : Int) == 2) = false := by
      rw [beq_eq_false_iff_ne]; omega
    have d1 : (n : Int) ≠ 2 := by omega
    rw [hg]
    clear hg h
    go_enter Try.func25, Try.ntmps25
    go_wp2
    refine bodyPost_ret (v := .tuple #[.agg #[.int .i64 0, .int .i64 0], .bool false]) (by simp [results, Try.results25, go_sem]) rfl ⟨⟨⟨0, 0⟩, fun h => (by cases h), rfl⟩, ?_⟩
    first | exact (Below.refl _ _).alloc (Nat.le_refl _) _ | exact below_two ((Below.refl _ _).alloc (Nat.le_refl _) _) _ _
end Go.Proofs.Ytdcedkjoligekab
