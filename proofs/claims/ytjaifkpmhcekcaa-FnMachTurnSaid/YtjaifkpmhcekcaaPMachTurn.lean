/-
  The walk of the law FnMachTurn.
-/
import Derived.Test.YtjaifkpmhcekcaaPMachBase
import Derived.Test.YtjaifkpmhcekcaaTurnI
import Derived.Test.YtjaifkpmhcekcaaTurnS
import Derived.Test.YtjaifkpmhcekcaaMachInI
import Derived.Test.YtjaifkpmhcekcaaTurnSays
set_option linter.unusedVariables false
set_option linter.unusedSimpArgs false
namespace Go.Proofs.Ytjaifkpmhcekcaa
open Go.RowKit

def MachAs (ok : Bool) (zs : List Int) (n : Nat) (x y : Int) (w : World) (e : Ending) (w' : World) : Prop :=
  ∃ a c, e = .returned (.tuple #[.agg #[.slice a n c, .int .i64 x, .int .i64 y], .bool ok]) ∧ w'.ownsRow w.heap.size 3 1 (.slice a n c) n (ints zs) ∧ Below w.heap.size w w'
theorem asOf {ok : Bool} {L : List Nat} {s t : Nat} {w w' : World} {e : Ending} (h : MachEnd ok L s t w e w') : MachAs ok (castM L) L.length s t w e w' := by
  obtain ⟨a, n, c, rfl, h1, rfl, h2⟩ := h
  exact ⟨a, c, rfl, h1, h2⟩

set_option maxRecDepth 100000 in
set_option maxHeartbeats 4000000 in
theorem pMachTurn (a : Option Addr) (n c : Nat) (zs : List Int) (w : World) (hr : IsRow .u8 w a n c zs) :
    Calls Try.prog 7 #[.slice a n c] w fun e w' => e = .returned (.bool true) ∧ Below w.heap.size w w' := by
  by_cases hn : n ≤ 1048576
  · have hB := Lib.hid hr.bytes
    have hC := Lib.hid hr.cap
    clear hr
    go_enter Try.func7, Try.ntmps7
    go_wp2_with fail
    refine (drawMachTurn a n c _ hB.out hn hC.out).mono ?_
    rintro e1 w1 ⟨a', m, c', ys, x, y, rfl, hrd, hm12, hb1⟩
    have HB := Lib.hid hb1
    have RM := Lib.hid hrd
    have BX1 := Lib.hid (boxM_start a' m c' x y w1 25)
    clear hb1 hrd
    have p0 := BX1.out.q0
    have p1 := BX1.out.q1
    have p2 := BX1.out.q2
    cases hok : okM ys x y
    · have HIM : Hid (∀ W, ReadsI W a' m ys → Calls Try.prog 29 #[.agg #[.slice a' m c', .int .i64 x, .int .i64 y]] W (MachAs false [] 0 0 0 W)) := Lib.hid (fun W hW => by
        have := implTurn a' m c' ys x y W hW (by omega)
        rw [hok] at this
        exact this.mono fun _ _ h => asOf h)
      have HSP : Hid (∀ W, ReadsI W a' m ys → Calls Try.prog 30 #[.agg #[.slice a' m c', .int .i64 x, .int .i64 y]] W (MachAs false [] 0 0 0 W)) := Lib.hid (fun W hW => by
        have := specTurn a' m c' ys x y W hW (by omega)
        rw [hok] at this
        exact this.mono fun _ _ h => asOf h)
      clear hok
      go_wp2_with fail
      refine (HIM.out _ (RM.out.below BX1.out.below (Nat.le_refl _))).mono ?_
      rintro e1 w2 ⟨a1, c1, rfl, hown1, hx⟩
      have R1 := Lib.hid (readsI_own hown1)
      have XB2 := Lib.hid (boxM_start a1 0 c1 0 0 w2 25)
      have BX2 := Lib.hid ((BX1.out.step hx).step ((Below.refl _ _).alloc (Nat.le_refl _) (.cells #[.slice a1 0 c1, .int .i64 0, .int .i64 0] 25)))
      clear hx hown1 p0 p1 p2
      have p0 := BX2.out.q0
      have p1 := BX2.out.q1
      have p2 := BX2.out.q2
      go_wp2_with fail
      refine (HSP.out _ (RM.out.below BX2.out.below (Nat.le_refl _))).mono ?_
      rintro e1 w3 ⟨a2, c2, rfl, hown2, hx⟩
      have hal := (Below.refl w3.heap.size w3).alloc (Nat.le_refl _) (.cells #[.slice a2 0 c2, .int .i64 0, .int .i64 0] 25)
      have R2 := Lib.hid (readsI_own hown2)
      have WB3 := Lib.hid (boxM_start a2 0 c2 0 0 w3 25)
      have XB3 := Lib.hid ((XB2.out.step hx).step hal)
      have BX3 := Lib.hid ((BX2.out.step hx).step hal)
      clear hx hown2 hal p0 p1 p2
      have s0 := XB3.out.q0
      have s1 := XB3.out.q1
      have s2 := XB3.out.q2
      have t0 := WB3.out.q0
      have t1 := WB3.out.q1
      have t2 := WB3.out.q2
      go_wp2_with fail
      refine (sameMachine_same a1 a2 0 c1 c2 [] 0 0 _ (R1.out.below XB3.out.below (Nat.le_refl _)) (R2.out.below WB3.out.below (Nat.le_refl _)) (by omega)).mono ?_
      rintro e1 w4 ⟨rfl, hx⟩
      have XB4 := Lib.hid (XB3.out.step hx)
      have BX4 := Lib.hid (BX3.out.step hx)
      clear hx s0 s1 s2 t0 t1 t2
      go_wp2
      go_ret
      exact ⟨rfl, (HB.out.trans (BX4.out.below.mono HB.out.size))⟩
    · obtain ⟨h1, h2, h3, h4, h5, h6⟩ := turn_says hok
      have hm : ys.length = m := RM.out.len
      rw [hm] at h6
      have hi : ∀ W, ReadsI W a' m ys → Calls Try.prog 29 #[.agg #[.slice a' m c', .int .i64 x, .int .i64 y]] W (MachAs true (castM (turnL (natsM ys))) m y x W) := fun W hW => by
        have := implTurn a' m c' ys x y W hW (by omega)
        rw [hok] at this
        refine this.mono fun _ _ h => ?_
        have := asOf h
        simp only [if_true, h4, h5, h6] at this
        exact this
      have hsp : ∀ W, ReadsI W a' m ys → Calls Try.prog 30 #[.agg #[.slice a' m c', .int .i64 x, .int .i64 y]] W (MachAs true (castM (turnL (natsM ys))) m y x W) := fun W hW => by
        have := specTurn a' m c' ys x y W hW (by omega)
        rw [hok] at this
        refine this.mono fun _ _ h => ?_
        have := asOf h
        simp only [if_true, h4, h5, h6] at this
        exact this
      rw [h4, h5] at h1
      have hi2 : ∀ W a1 c1, ReadsI W a1 m (castM (turnL (natsM ys))) → Calls Try.prog 29 #[.agg #[.slice a1 m c1, .int .i64 y, .int .i64 x]] W (MachAs true ys m x y W) := fun W a1 c1 hW => by
        have := implTurn a1 m c1 _ y x W hW (by omega)
        rw [h1] at this
        refine this.mono fun _ _ h => ?_
        have := asOf h
        have h7 : (turnL (natsM (castM (turnL (natsM ys))))).length = m := by rw [turnL_length, natsM_cast]; exact h6
        simp only [if_true, h3, h4, h5, h7] at this
        exact this
      have htk : ∀ (W : World) a1 c1 (k : Nat), ReadsI W a1 m (castM (turnL (natsM ys))) → Calls Try.prog 20 #[.agg #[.slice a1 m c1, .int .i64 y, .int .i64 x], .int .i64 k] W fun e1 w' => e1 = .returned (.bool (takesV ys x y k)) ∧ Below W.heap.size W w' := fun W a1 c1 k hW => by
        have := implTakes a1 m c1 _ y x k W hW (by omega)
        have e := h2 k
        rw [h4, h5] at e
        rw [e] at this
        exact this
      obtain ⟨us, hus⟩ : ∃ us, us = castM (turnL (natsM ys)) := ⟨_, rfl⟩
      rw [← hus] at hi hsp hi2 htk
      have HIM := Lib.hid hi
      have HSP := Lib.hid hsp
      have HI2 := Lib.hid hi2
      have HTK := Lib.hid htk
      clear h1 h2 h3 h4 h5 h6 hi hsp hi2 htk hus hm hok
      go_wp2_with fail
      refine (HIM.out _ (RM.out.below BX1.out.below (Nat.le_refl _))).mono ?_
      rintro e1 w2 ⟨a1, c1, rfl, hown1, hx⟩
      have R1 := Lib.hid (readsI_own hown1)
      have XB2 := Lib.hid (boxM_start a1 m c1 y x w2 25)
      have BX2 := Lib.hid ((BX1.out.step hx).step ((Below.refl _ _).alloc (Nat.le_refl _) (.cells #[.slice a1 m c1, .int .i64 y, .int .i64 x] 25)))
      clear hx hown1 p0 p1 p2
      have p0 := BX2.out.q0
      have p1 := BX2.out.q1
      have p2 := BX2.out.q2
      go_wp2_with fail
      refine (HSP.out _ (RM.out.below BX2.out.below (Nat.le_refl _))).mono ?_
      rintro e1 w3 ⟨a2, c2, rfl, hown2, hx⟩
      have hal := (Below.refl w3.heap.size w3).alloc (Nat.le_refl _) (.cells #[.slice a2 m c2, .int .i64 y, .int .i64 x] 25)
      have R2 := Lib.hid (readsI_own hown2)
      have WB3 := Lib.hid (boxM_start a2 m c2 y x w3 25)
      have XB3 := Lib.hid ((XB2.out.step hx).step hal)
      have BX3 := Lib.hid ((BX2.out.step hx).step hal)
      clear hx hown2 hal p0 p1 p2
      have s0 := XB3.out.q0
      have s1 := XB3.out.q1
      have s2 := XB3.out.q2
      have t0 := WB3.out.q0
      have t1 := WB3.out.q1
      have t2 := WB3.out.q2
      go_wp2_with fail
      refine (sameMachine_same a1 a2 m c1 c2 us y x _ (R1.out.below XB3.out.below (Nat.le_refl _)) (R2.out.below WB3.out.below (Nat.le_refl _)) (by omega)).mono ?_
      rintro e1 w4 ⟨rfl, hx⟩
      have XB4 := Lib.hid (XB3.out.step hx)
      have BX4 := Lib.hid (BX3.out.step hx)
      clear hx s0 s1 s2 t0 t1 t2
      go_wp2
      go_loopw [9] (fun i wr => ∃ z : Nat, i = .int .i64 z ∧ z ≤ 61 ∧ BoxM a' m c' x y w1.heap.size w1 wr ∧ BoxM a1 m c1 y x w2.heap.size w2 wr) (fun i _ => 62 - (intOf i).toNat)
      case atStart => exact ⟨0, rfl, by omega, BX4.out, XB4.out⟩
      case round =>
        obtain ⟨z, rfl, hz, hbz, hxz⟩ := hrel
        have BXZ := Lib.hid hbz
        have XBZ := Lib.hid hxz
        have p0 := hbz.q0
        have p1 := hbz.q1
        have p2 := hbz.q2
        have s0 := hxz.q0
        have s1 := hxz.q1
        have s2 := hxz.q2
        clear hbz hxz
        by_cases hlt : z ≤ 60
        · have hltI : (z : Int) ≤ 60 := by omega
          obtain ⟨B, hBB⟩ : ∃ B, B = takesV ys x y z := ⟨_, rfl⟩
          have HX := Lib.hid (fun W hW => HTK.out W a1 c1 z hW)
          have HY := Lib.hid (fun W hW => implTakes a' m c' ys x y z W hW (by omega))
          rw [← hBB] at HX HY
          clear hBB
          have BXD := Lib.hid (BXZ.out.step (Below.refl _ _).drew)
          have XBD := Lib.hid (XBZ.out.step (Below.refl _ _).drew)
          go_wp2
          go_region_with (first
            | (go_at_call 20; (with_reducible refine (HX.out _ (R1.out.below XBD.out.below (Nat.le_refl _))).mono ?_); rintro e1 w5 ⟨rfl, hx5⟩; have BX5 := Lib.hid (BXD.out.step hx5); have XB5 := Lib.hid (XBD.out.step hx5); have u0 := BX5.out.q0; have u1 := BX5.out.q1; have u2 := BX5.out.q2; clear hx5)
            | (go_at_call 20; (with_reducible refine (HY.out _ (RM.out.below BX5.out.below (Nat.le_refl _))).mono ?_); rintro e1 w6 ⟨rfl, hx6⟩; have BX6 := Lib.hid (BX5.out.step hx6); have XB6 := Lib.hid (XB5.out.step hx6); clear hx6))
          all_goals
            clear p0 p1 p2 s0 s1 s2
            go_wp2
            go_roundw
            case rel => exact ⟨z + 1, by go_num, by omega, BX6.out, XB6.out⟩
            case measure => simp [intOf]; omega
        · have hltI : 60 < (z : Int) := by omega
          clear p0 p1 p2
          go_wp2_with fail
          refine (HI2.out _ a1 c1 (R1.out.below XBZ.out.below (Nat.le_refl _))).mono ?_
          rintro e1 w7 ⟨a7, c7, rfl, hown7, hx⟩
          have hal := (Below.refl w7.heap.size w7).alloc (Nat.le_refl _) (.cells #[.slice a7 m c7, .int .i64 x, .int .i64 y] 25)
          have R7 := Lib.hid (readsI_own hown7)
          have YB8 := Lib.hid (boxM_start a7 m c7 x y w7 25)
          have BX8 := Lib.hid ((BXZ.out.step hx).step hal)
          clear hx hown7 hal s0 s1 s2
          have p0 := BX8.out.q0
          have p1 := BX8.out.q1
          have p2 := BX8.out.q2
          have t0 := YB8.out.q0
          have t1 := YB8.out.q1
          have t2 := YB8.out.q2
          go_wp2_with fail
          refine (sameMachine_same a7 a' m c7 c' ys x y _ (R7.out.below YB8.out.below (Nat.le_refl _)) (RM.out.below BX8.out.below (Nat.le_refl _)) (by omega)).mono ?_
          rintro e1 w9 ⟨rfl, hx⟩
          have BX9 := Lib.hid (BX8.out.step hx)
          clear hx
          go_wp2
          go_ret
          exact ⟨rfl, (HB.out.trans (BX9.out.below.mono HB.out.size))⟩
  · have hd : (1048576 : Int) < (n : Int) := by omega
    go_enter Try.func7, Try.ntmps7
    go_wp2
    go_ret
    exact ⟨rfl, Below.refl _ _⟩
end Go.Proofs.Ytjaifkpmhcekcaa
