/-
  How many ways lead to each number, as the model counts them (l9Ways).
-/
import Derived.Test.YtojjfkabepkhdaaWayS
set_option linter.unusedVariables false
set_option linter.unusedSimpArgs false
namespace Go.Proofs.Ytojjfkabepkhdaa
open Go.RowKit

/-- The world of l9Ways's loop: the set's box, and what has been counted. -/
structure WayLoop (f : Nat → Bool) (g : Nat → Int) (a1 : Option Addr) (n1 c1 : Nat) (a2 : Option Addr) (n2 c2 k D : Nat) (w wr : World) (v : Value) : Prop where
  q0 : wr.cell? ⟨D, 0, none⟩ = some (.slice a1 n1 c1)
  q1 : wr.cell? ⟨D, 1, none⟩ = some (.slice a2 n2 c2)
  own : TabI g k (D + 1) wr v
  below : Below w.heap.size w wr
  size : D + 1 ≤ wr.heap.size
theorem WayLoop.step {f : Nat → Bool} {g : Nat → Int} {a1 a2 : Option Addr} {n1 c1 n2 c2 k D : Nat} {w wr w' : World} {v : Value} (l : WayLoop f g a1 n1 c1 a2 n2 c2 k D w wr v) (hb : Below wr.heap.size wr w') : WayLoop f g a1 n1 c1 a2 n2 c2 k D w w' v :=
  ⟨(hb.cell (p := ⟨D, 0, none⟩) l.size).trans l.q0, (hb.cell (p := ⟨D, 1, none⟩) l.size).trans l.q1, own_below l.own hb (Nat.le_refl _), l.below.trans (hb.mono l.below.size), Nat.le_trans l.size hb.size⟩
theorem WayLoop.grow {f : Nat → Bool} {g : Nat → Int} {a1 a2 : Option Addr} {n1 c1 n2 c2 k D : Nat} {w wr w' : World} {u v' : Value} {o : Obj} (l : WayLoop f g a1 n1 c1 a2 n2 c2 k D w wr u) (hD : w.heap.size ≤ D)
    (hown : w'.ownsRow (D + 1) 3 1 v' (k + 1) (ints (intsOf g k) ++ [.int .i64 (g k)])) (hgrow : (wr.alloc o).grownBy w' u.ownBlock) : WayLoop f g a1 n1 c1 a2 n2 c2 (k + 1) D w w' v' := by
  have h1 := l.size
  have hb : Below (D + 1) wr w' := ((Below.refl (D + 1) wr).alloc h1 o).grown hgrow (by simp; omega) (fun j hj => (l.own.lt j hj).1)
  refine ⟨(hb.cell (p := ⟨D, 0, none⟩) (Nat.lt_succ_self _)).trans l.q0, (hb.cell (p := ⟨D, 1, none⟩) (Nat.lt_succ_self _)).trans l.q1, ?_, l.below.trans (hb.mono (by omega)), Nat.le_trans h1 hb.size⟩
  unfold TabI
  rw [intsOf_snoc]
  unfold ints
  rw [List.map_append, List.map_singleton]
  exact hown
theorem wayLoop_start (f : Nat → Bool) (g : Nat → Int) (a1 : Option Addr) (n1 c1 : Nat) (a2 : Option Addr) (n2 c2 : Nat) (w : World) (z : Int) (hz : g 0 = z) :
    WayLoop f g a1 n1 c1 a2 n2 c2 1 w.heap.size w ((w.alloc (.cells #[.slice a1 n1 c1, .slice a2 n2 c2] 48)).alloc (.cells #[.int .i64 z] 3)) (.slice (some ⟨w.heap.size + 1, 0, none⟩) 1 1) := by
  subst hz
  refine ⟨?_, ?_, ?_, ((Below.refl _ _).alloc (Nat.le_refl _) _).alloc (by simp) _, by simp⟩
  · rw [World.cell?_alloc_past _ _ _ (by simp), World.cell?_alloc_at _ _ _ _ rfl]; rfl
  · rw [World.cell?_alloc_past _ _ _ (by simp), World.cell?_alloc_at _ _ _ _ rfl]; rfl
  · refine ⟨by rw [ints_length, intsOf_length], .inr ⟨w.heap.size + 1, 1, #[.int .i64 (g 0)], rfl, Nat.le_refl _, ?_, Nat.le_refl _, by decide, rfl, rfl⟩⟩
    have := heap_alloc_new (w.alloc (.cells #[.slice a1 n1 c1, .slice a2 n2 c2] 48)) (.cells #[.int .i64 (g 0)] 3)
    rw [World.size_alloc] at this
    exact this

set_option maxRecDepth 100000 in
set_option maxHeartbeats 4000000 in
theorem l9Ways_any (f : Nat → Bool) (a1 : Option Addr) (n1 c1 : Nat) (a2 : Option Addr) (n2 c2 n : Nat) (w : World) (hA : SmallIn w f a1 n1 a2 n2) (hn : n ≤ 40) :
    Calls Try.prog 48 #[.agg #[.slice a1 n1 c1, .slice a2 n2 c2], .int .i64 n] w fun e w' => ∃ a c, e = .returned (.slice a (n + 1 : Nat) c) ∧ ReadsI w' a (n + 1) (intsOf (manyI f) (n + 1)) ∧ Below w.heap.size w w' := by
  obtain ⟨i0, hi, hz0, hz1, hz2⟩ := info_parts Try.infoInt
  have HA := Lib.hid hA
  clear hA
  have HL0 := Lib.hid (wayLoop_start f (manyI f) a1 n1 c1 a2 n2 c2 w 1 rfl)
  go_enter Try.func48, Try.ntmps48
  go_wp2
  go_loopw [5, 6] (fun v i wr => ∃ x : Nat, x ≤ n ∧ i = .int .i64 ((x : Int) + 1) ∧ WayLoop f (manyI f) a1 n1 c1 a2 n2 c2 (x + 1) w.heap.size w wr v) (fun _ i _ => n + 1 - (intOf i).toNat)
  case atStart => exact ⟨0, Nat.zero_le _, rfl, HL0.out⟩
  case round =>
    obtain ⟨x, hx, rfl, hl⟩ := hrel
    obtain ⟨a, c, rfl⟩ := own_form hl.own
    by_cases hlt : x < n
    · have hli : (x : Int) + 1 ≤ (n : Int) := by omega
      have HL := Lib.hid hl
      clear hl
      go_wp2
      go_loopw [7, 8] (fun m j wq => ∃ y : Nat, y ≤ x + 1 ∧ j = .int .i64 ((y : Int) + 1) ∧ m = .int .i64 (sumP f (manyF f) (x + 1) y : Nat) ∧ WayLoop f (manyI f) a1 n1 c1 a2 n2 c2 (x + 1) w.heap.size w wq (.slice a (x + 1) c)) (fun _ j _ => x + 2 - (intOf j).toNat)
      case atStart => exact ⟨0, Nat.zero_le _, rfl, rfl, HL.out⟩
      case round =>
        obtain ⟨y, hy, rfl, rfl, hw⟩ := hrel
        by_cases hyl : y < x + 1
        · have hyi : (y : Int) + 1 ≤ (x : Int) + 1 := by omega
          obtain ⟨z, hz⟩ : ∃ z, z = x + 1 - (y + 1) := ⟨_, rfl⟩
          have hzi : (x : Int) + 1 - ((y : Int) + 1) = (z : Int) := by omega
          have hzi2 : (x : Int) - (y : Int) = (z : Int) := by omega
          have hzx : z < x + 1 := by omega
          have hwz : IntKind.i64.wrap (z : Int) = (z : Int) := IntWalk.i64_in _ (by omega)
          have hzl : (z : Int) < (x : Int) + 1 := by omega
          obtain ⟨b, o, rfl, hb, c0⟩ := hw.own.reads.at hzx
          have hbnd := manyF_le40 f (i := z) (by omega)
          have hbnd2 : sumP f (manyF f) (x + 1) y ≤ manyF f (x + 1) := by
            rw [manyF_step f (by omega)]; exact sumP_min (by omega)
          have hbnd3 := manyF_le40 f (i := x + 1) (by omega)
          have hstep : sumP f (manyF f) (x + 1) (y + 1) = sumP f (manyF f) (x + 1) y + (if f (y + 1) then manyF f z else 0) := by rw [sumP, hz]
          have HSTEP := Lib.hid hstep
          unfold manyI at c0
          obtain ⟨v, hv⟩ : ∃ v, v = manyF f z := ⟨_, rfl⟩
          obtain ⟨s, hs⟩ : ∃ s, s = sumP f (manyF f) (x + 1) y := ⟨_, rfl⟩
          rw [← hs] at hbnd2 HSTEP ⊢
          rw [← hv] at hbnd HSTEP c0
          have HH : Hid (∀ W, Below wr.heap.size wr W → Calls Try.prog 51 #[.agg #[.slice a1 n1 c1, .slice a2 n2 c2], .int .i64 ((y : Int) + 1)] W fun e w' => e = .returned (.bool (f (y + 1))) ∧ Below wr.heap.size wr w') := Lib.hid (fun W hW => by
            refine (small_has (y + 1) (HA.out.below (hw.below.trans (hW.mono hw.below.size)) (Nat.le_refl _)) (by omega)).mono ?_
            rintro e w' ⟨rfl, hb'⟩
            exact ⟨rfl, below_step hW hb'⟩)
          obtain ⟨B, hB⟩ : ∃ B, B = f (y + 1) := ⟨_, rfl⟩
          rw [← hB] at HH HSTEP
          have HW := Lib.hid hw
          obtain ⟨q0, q1⟩ : wr.cell? ⟨w.heap.size, 0, none⟩ = some (.slice a1 n1 c1) ∧ wr.cell? ⟨w.heap.size, 1, none⟩ = some (.slice a2 n2 c2) := ⟨hw.q0, hw.q1⟩
          clear hw hz hv hs hB hstep
          have hws : IntKind.i64.wrap (s : Int) = (s : Int) := IntWalk.i64_in _ (by omega)
          have hwv : IntKind.i64.wrap (v : Int) = (v : Int) := IntWalk.i64_in _ (by omega)
          have hwsv : IntKind.i64.wrap ((s : Int) + (v : Int)) = (s : Int) + (v : Int) := IntWalk.i64_in _ (by omega)
          cases B
          · have HBIT : Hid (∀ W, Calls Try.prog 67 #[.bool false] W fun e w' => e = .returned (.int .i64 0) ∧ w' = W) := Lib.hid (fun W => bit_is false W)
            go_wp2
            go_region_with (first
              | (go_at_call 51; (with_reducible refine (HH.out _ ?_).mono ?_); exact (Below.refl _ _).drew; rintro e1 w6 ⟨rfl, hb6⟩; have c6 := (hb6.cell (p := ⟨b, o + z, none⟩) hb).trans c0; have HB6 := Lib.hid hb6; clear hb6)
              | (go_at_call 67; (with_reducible refine (HBIT.out _).mono ?_); rintro e1 w7 ⟨rfl, rfl⟩))
            all_goals
              have HN := Lib.hid (HW.out.step HB6.out)
              clear q0 q1 c0 c6
              go_wp2
              go_roundw
              case rel => exact ⟨y + 1, by omega, by go_num, by rw [HSTEP.out]; rfl, HN.out⟩
              case measure => simp [intOf]; omega
          · have HBIT : Hid (∀ W, Calls Try.prog 67 #[.bool true] W fun e w' => e = .returned (.int .i64 1) ∧ w' = W) := Lib.hid (fun W => bit_is true W)
            go_wp2
            go_region_with (first
              | (go_at_call 51; (with_reducible refine (HH.out _ ?_).mono ?_); exact (Below.refl _ _).drew; rintro e1 w6 ⟨rfl, hb6⟩; have c6 := (hb6.cell (p := ⟨b, o + z, none⟩) hb).trans c0; have HB6 := Lib.hid hb6; clear hb6)
              | (go_at_call 67; (with_reducible refine (HBIT.out _).mono ?_); rintro e1 w7 ⟨rfl, rfl⟩))
            all_goals
              have HN := Lib.hid (HW.out.step HB6.out)
              clear q0 q1 c0 c6
              go_wp2
              go_roundw
              case rel => exact ⟨y + 1, by omega, by go_num, by rw [HSTEP.out]; rfl, HN.out⟩
              case measure => simp [intOf]; omega
        · obtain rfl : y = x + 1 := by omega
          have hxx : ¬ (x : Int) + 1 + 1 ≤ (x : Int) + 1 := by omega
          have hmm : sumP f (manyF f) (x + 1) (x + 1) = manyF f (x + 1) := (manyF_step f (by omega)).symm
          rw [hmm]
          have hb := manyF_le40 f (i := x + 1) (by omega)
          have HG := Lib.hid (fun (o : Obj) (v' : Value) (w4 : World) (hown : w4.ownsRow (w.heap.size + 1) 3 1 v' (x + 1 + 1) (ints (intsOf (manyI f) (x + 1)) ++ [.int .i64 ((manyF f (x + 1) : Nat) : Int)])) hg => WayLoop.grow (o := o) hw (Nat.le_refl _) hown hg)
          have HL := Lib.hid hw
          clear hw hmm
          go_wp2_with
            (at_builtin; refine wpList_append_own _ rfl _ _ 30 rfl (w.heap.size + 1) 3 i0 (.int .i64 0) 1 8 Try.underlying30 hi hz0 hz1 hz2 rfl (by decide) _ _ _ rfl (World.ownsRow.alloc HL.out.own _) ⟨wr.heap.size, 0, none⟩ 1 1 [.int .i64 ((manyF f (x + 1) : Nat) : Int)] rfl rfl ?c1 ?c2 ?c3 ?c4 ?c5 ?_)
          case c2 => rfl
          case c3 => unfold maxLen; omega
          case c4 => omega
          case c5 => have := HL.out.size; simp; omega
          intro v' w4 hown4 hgrow _
          have HL4 := Lib.hid (HG.out _ _ _ hown4 hgrow)
          clear hown4 hgrow
          go_wp2
          go_roundw
          case rel => exact ⟨x + 1, by omega, by go_num, HL4.out⟩
          case measure => simp [intOf]; omega
    · obtain rfl : x = n := by omega
      have HL := Lib.hid hl
      clear hl
      go_wp2
      go_ret
      exact ⟨a, c, rfl, HL.out.own.reads, HL.out.below⟩

end Go.Proofs.Ytojjfkabepkhdaa
