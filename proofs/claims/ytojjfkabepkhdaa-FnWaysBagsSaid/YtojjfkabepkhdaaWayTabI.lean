/-
  Blocks and tables of numbers; tableOf at numbers, noNumbers and manyWays, of the program.
-/
import Derived.Test.YtojjfkabepkhdaaWaySumI
set_option linter.unusedVariables false
set_option linter.unusedSimpArgs false
namespace Go.Proofs.Ytojjfkabepkhdaa
open Go.RowKit

/-- A function value that tells each next value of g out of all lesser ones. -/
structure NextI (K : Nat) (lb : Array Value) (g : Nat → Int) (N : Nat) (w : World) : Prop where
  enters : ∀ args w, (callFunc K args).run Try.prog w = .ok (.enter K args) w
  gives : ∀ (W : World) (a : Option Addr) (n c : Nat), Below w.heap.size w W → n < N → ReadsI W a n (intsOf g n) → Calls Try.prog K (#[.slice a n c] ++ lb) W fun e w' => e = .returned (.int .i64 (g n)) ∧ Below W.heap.size W w'

structure TabILoop (g : Nat → Int) (k : Nat) (w wr : World) (v : Value) : Prop where
  own : TabI g k w.heap.size wr v
  below : Below w.heap.size w wr
theorem TabILoop.step {g : Nat → Int} {k : Nat} {w wr w' : World} {v : Value} (l : TabILoop g k w wr v) (hb : Below wr.heap.size wr w') : TabILoop g k w w' v :=
  ⟨own_below l.own hb (Nat.le_refl _), l.below.trans (hb.mono l.below.size)⟩
theorem TabILoop.grow {g : Nat → Int} {k : Nat} {w wr w' : World} {u v' : Value} {o : Obj} (l : TabILoop g k w wr u)
    (hown : w'.ownsRow w.heap.size 3 1 v' (k + 1) (ints (intsOf g k) ++ [.int .i64 (g k)])) (hgrow : (wr.alloc o).grownBy w' u.ownBlock) : TabILoop g (k + 1) w w' v' := by
  refine ⟨?_, (l.below.alloc l.below.size o).grown hgrow (by have := l.below.size; simp; omega) (fun j hj => (l.own.lt j hj).1)⟩
  unfold TabI
  rw [intsOf_snoc]
  unfold ints
  rw [List.map_append, List.map_singleton]
  exact hown

set_option maxRecDepth 100000 in
set_option maxHeartbeats 2000000 in
theorem tableOfI_any (K : Nat) (lb : Array Value) (g : Nat → Int) (N : Nat) (w : World) (hG : NextI K lb g N w) (hN : N ≤ 5000) :
    Calls Try.prog 63 #[.int .i64 N, .func (.func K) #[] lb] w fun e w' => ∃ a c, e = .returned (.slice a N c) ∧ ReadsI w' a N (intsOf g N) ∧ Below w.heap.size w w' ∧ ∀ p, a = some p → w.heap.size ≤ p.block := by
  obtain ⟨i0, hi, hz0, hz1, hz2⟩ := info_parts Try.infoInt
  have HGV := Lib.hid hG.gives
  have eK := hG.enters
  clear hG
  go_enter Try.func63, Try.ntmps63
  go_wp2_with (at_make; refine wpList_make_own _ rfl _ _ 44 rfl w.heap.size 3 i0 (.int .i64 0) 1 Try.underlying44 hi hz0 hz1 .i64 .i64 _ N rfl rfl rfl ?b1 ?b2 (Nat.le_refl _) ?_)
  case b1 => rw [hz2]; omega
  case b2 => unfold maxLen; omega
  intro w1 hown1 hgrow1
  have HL0 : Hid (TabILoop g 0 w w1 (.slice (some ⟨w.heap.size, 0, none⟩) 0 N)) := Lib.hid ⟨hown1, (Below.refl w.heap.size w).grown hgrow1 (Nat.le_refl _) (fun j hj => by cases hj)⟩
  clear hown1 hgrow1
  go_wp2
  go_loopw [5, 9] (fun v i wr => ∃ k : Nat, k ≤ N ∧ i = .int .i64 k ∧ TabILoop g k w wr v) (fun _ i _ => N - (intOf i).toNat)
  case atStart => exact ⟨0, Nat.zero_le _, rfl, HL0.out⟩
  case round =>
    obtain ⟨k, hk, rfl, hl⟩ := hrel
    obtain ⟨a, c, rfl⟩ := own_form hl.own
    by_cases hlt : k < N
    · have hcall := HGV.out wr a k c hl.below hlt hl.own.reads
      have HL := Lib.hid hl
      clear hl
      go_wp2_with fail
      refine hcall.mono ?_
      rintro e w3 ⟨rfl, hb3⟩
      have HL3 := Lib.hid (HL.out.step hb3)
      clear hb3 hcall HL
      go_wp2_with
        (at_builtin; refine wpList_append_own _ rfl _ _ 44 rfl w.heap.size 3 i0 (.int .i64 0) 1 8 Try.underlying44 hi hz0 hz1 hz2 rfl (by decide) _ _ _ rfl (World.ownsRow.alloc HL3.out.own _) ⟨w3.heap.size, 0, none⟩ 1 1 [.int .i64 (g k)] rfl rfl ?c1 ?c2 ?c3 ?c4 ?c5 ?_)
      case c1 =>
        intro j u hj
        match j, hj with
        | 0, hj => simp at hj; subst hj; simp [Addr.add]
      case c2 => intro u hu; simp at hu; subst hu; rfl
      case c3 => unfold maxLen; omega
      case c4 => omega
      case c5 => have := HL3.out.below.size; simp; omega
      intro v' w4 hown4 hgrow _
      have HL4 := Lib.hid (HL3.out.grow hown4 hgrow)
      clear hown4 hgrow
      go_wp2
      go_roundw
      case rel => exact ⟨k + 1, by omega, by go_num, HL4.out⟩
      case measure => simp [intOf]; omega
    · obtain rfl : k = N := by omega
      have HL := Lib.hid hl
      clear hl
      go_wp2
      go_ret
      exact ⟨a, c, rfl, HL.out.own.reads, HL.out.below, fun p e => (HL.out.own.lt p.block (by rw [e]; rfl)).1⟩

set_option maxRecDepth 100000 in
set_option maxHeartbeats 1000000 in
theorem noNumbers_any (n : Nat) (w : World) (hn : n ≤ 1000) :
    Calls Try.prog 69 #[.int .i64 n] w fun e w' =>
      e = .returned (.slice (some ⟨w.heap.size, 0, none⟩) (n + 1 : Nat) (n + 1 : Nat)) ∧ IRow w' w.heap.size (n + 1) oneAt0 ∧ Below w.heap.size w w' := by
  obtain ⟨i0, hi, hz0, hz1, hz2⟩ := info_parts Try.infoInt
  obtain ⟨N, hN⟩ : ∃ N, N = n + 1 := ⟨_, rfl⟩
  have hNi : (n : Int) + 1 = (N : Int) := by omega
  have hNle : N ≤ 1001 := by omega
  have hN0 : 0 < N := by omega
  rw [← hN]
  clear hN
  go_enter Try.func69, Try.ntmps69
  have hm0 : (madeCells #[.int .i64 0] N)[0]? = some (Value.int .i64 0) := by simp [madeCells, hN0]
  have H1 := Lib.hid (iRow_one w N)
  have HB := Lib.hid ((Below.refl w.heap.size w).alloc (Nat.le_refl _) (.cells ((madeCells #[.int .i64 0] N).setIfInBounds 0 (.int .i64 1)) 3))
  have hpos : (0 : Int) < (N : Int) := by omega
  go_wp2_with (at_make; refine wpList_make_row _ rfl _ _ 44 rfl 3 i0 (.int .i64 0) Try.underlying44 hi hz0 hz1 rfl .i64 .i64 N rfl rfl ?b1 ?b2 ?_)
  case b1 => rw [hz2]; omega
  case b2 => omega
  go_ret
  exact ⟨rfl, H1.out, HB.out⟩

set_option maxRecDepth 100000 in
set_option maxHeartbeats 1000000 in
theorem manyNext (f : Nat → Bool) (T R : ByteArray) (Bp n c : Nat) (a : Option Addr) (W : World) (hf : Tells f T R) (hn : n ≤ 40) (hp : W.heap[Bp]? = some (.cells #[.string T, .string R] 41 (0, 0)))
    (hr : ReadsI W a n (intsOf (manyI f) n)) :
    Calls Try.prog 64 #[.slice a n c, .pointer (some ⟨Bp, 0, none⟩)] W fun e w' => e = .returned (.int .i64 (manyI f n)) ∧ Below W.heap.size W w' := by
  have p0 : W.cell? ⟨Bp, 0, none⟩ = some (.string T) := by rw [cell_of_row W _ _ _ _ _ hp]; rfl
  have p1 : W.cell? ⟨Bp, 1, none⟩ = some (.string R) := by rw [cell_of_row W _ _ _ _ _ hp]; rfl
  have HF := Lib.hid hf
  cases n with
  | zero =>
    have H : Hid (manyI f 0 = 1) := Lib.hid rfl
    clear hp hr hf
    go_enter Try.func64, Try.ntmps64
    go_wp2
    go_ret
    exact ⟨by rw [H.out]; rfl, Below.refl _ _⟩
  | succ n =>
    obtain ⟨N, hN⟩ : ∃ N, N = n + 1 := ⟨_, rfl⟩
    rw [← hN] at hr hn ⊢
    have hN0 : ¬ ((N : Int) = 0) := by omega
    have hr2 : ReadsI W a N (natsOf (cutF (manyF f) N) N) := by
      rw [← natsOf_cut, ← intsOf_nats]; exact hr
    have HS := Lib.hid (sumOfLeft_any f T R N N c a (cutF (manyF f) N) W HF.out (by omega) (Nat.le_refl _) hr2 (fun i => by
      unfold cutF
      split
      · exact manyF_le40 f (by omega)
      · exact Nat.zero_le _))
    have HV : Hid (manyI f N = (sumP f (cutF (manyF f) N) N N : Nat)) := Lib.hid (by unfold manyI; rw [sumP_cut, ← manyF_step f (by omega)])
    clear hp hr hr2 hf hN
    go_enter Try.func64, Try.ntmps64
    go_wp2_with fail
    refine HS.out.mono ?_
    rintro e w1 ⟨rfl, hb1⟩
    have HB := Lib.hid hb1
    clear hb1
    go_wp2
    go_ret
    exact ⟨by rw [HV.out]; rfl, HB.out⟩

set_option maxRecDepth 100000 in
set_option maxHeartbeats 1000000 in
theorem manyWays_any (f : Nat → Bool) (T R : ByteArray) (n : Nat) (w : World) (hf : Tells f T R) (hn : n ≤ 40) :
    Calls Try.prog 46 #[.agg #[.string T, .string R], .int .i64 n] w fun e w' => ∃ a c, e = .returned (.slice a (n + 1 : Nat) c) ∧ ReadsI w' a (n + 1) (intsOf (manyI f) (n + 1)) ∧ Below w.heap.size w w' := by
  obtain ⟨N, hN⟩ : ∃ N, N = n + 1 := ⟨_, rfl⟩
  have hNi : (n : Int) + 1 = (N : Int) := by omega
  rw [← hN]
  have hp := heap_alloc_new w (.cells #[.string T, .string R] 41)
  have HG : Hid (NextI 64 #[.pointer (some ⟨w.heap.size, 0, none⟩)] (manyI f) N (w.alloc (.cells #[.string T, .string R] 41))) :=
    Lib.hid ⟨fun _ _ => rfl, fun W a k c hb hk hr => manyNext f T R w.heap.size k c a W hf (by omega) ((hb.block w.heap.size (by simp)).trans hp) hr⟩
  have hNle : N ≤ 41 := by omega
  clear hp hN
  go_enter Try.func46, Try.ntmps46
  go_wp2_with fail
  refine (tableOfI_any _ _ (manyI f) N _ HG.out (by omega)).mono ?_
  rintro e w1 ⟨a, c, rfl, hr, hb, _⟩
  have HR := Lib.hid hr
  have HB := Lib.hid (((Below.refl w.heap.size w).alloc (Nat.le_refl _) (.cells #[.string T, .string R] 41)).trans (hb.mono (by simp)))
  clear hr hb
  go_wp2
  go_ret
  exact ⟨a, c, rfl, HR.out, HB.out⟩

end Go.Proofs.Ytojjfkabepkhdaa
