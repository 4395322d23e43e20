/-
  The walk of the law FnMachSet.
-/
import Derived.Test.YtjaifkpmhcekcaaPMachBase
import Derived.Test.YtjaifkpmhcekcaaMachSetI
import Derived.Test.YtjaifkpmhcekcaaSet6S
import Derived.Test.YtjaifkpmhcekcaaMachInI
import Derived.Test.YtjaifkpmhcekcaaMachFewI
import Derived.Test.YtjaifkpmhcekcaaSetHasI
set_option linter.unusedVariables false
set_option linter.unusedSimpArgs false
namespace Go.Proofs.Ytjaifkpmhcekcaa
open Go.RowKit

theorem setIs_same {ok : Bool} {f : Nat → Bool} {T U : ByteArray} (h : SetIs ok f T) (k : SetIs ok f U) : T = U := by
  cases ok
  · rw [h.2 rfl, k.2 rfl]
  · exact tidyText_same (h.1 rfl) (k.1 rfl)
theorem set_says {f : Nat → Bool} {T : ByteArray} (h : SetIs true f T) (n : Nat) (m : Int) (W : World) (hs : T.size ≤ 1048576) (hn : n ≤ 100000) (hL : LibAt m W) :
    Calls Try.prog 27 #[.string T, .int .i64 n] W fun e w' => e = .returned (.bool (f n)) ∧ Below W.heap.size W w' := by
  have hT := (h.1 rfl).told
  have := implSetHas T n m W hs (by omega) hL
  have e : setHas T (n : Int) = f n := by unfold setHas; rw [hT.ok, Bool.true_and, hasI_nat]; exact congrFun hT.set n
  rw [e] at this
  exact this
theorem takes_says {zs : List Int} {b e : Int} (h : okM zs b e = true) (n : Nat) (hn : n ≤ 1000000) : takesV zs b e n = fM zs b e n := by
  unfold takesV okAt
  rw [h, Bool.true_and, decide_eq_true (⟨by omega, by omega⟩ : (0 : Int) ≤ (n : Int) ∧ (n : Int) ≤ 1000000), Bool.true_and]
  rfl

set_option maxRecDepth 100000 in
set_option maxHeartbeats 4000000 in
theorem pMachSet (a : Option Addr) (n c : Nat) (zs : List Int) (w : World) (hr : IsRow .u8 w a n c zs) (m0 : Int) (hg : 0 < w.heap.size) (hm : w.cell? ⟨0, 0, none⟩ = some (.int .i64 m0)) :
    Calls Try.prog 6 #[.slice a n c] w fun e w' => e = .returned (.bool true) ∧ Below w.heap.size w w' := by
  by_cases hn : n ≤ 1048576
  · have hB := Lib.hid hr.bytes
    have hC := Lib.hid hr.cap
    have HLA : Hid (LibAt m0 w) := Lib.hid ⟨hg, hm⟩
    clear hg hm
    clear hr
    go_enter Try.func6, Try.ntmps6
    go_wp2_with fail
    refine (drawMachSet a n c _ hB.out hn hC.out).mono ?_
    rintro e1 w1 ⟨a', m, c', ys, x, y, rfl, hrd, hm12, hb1⟩
    have HB := Lib.hid hb1
    have RM := Lib.hid hrd
    have BX1 := Lib.hid (boxM_start a' m c' x y w1 25)
    clear hb1 hrd
    have p0 := BX1.out.q0
    have p1 := BX1.out.q1
    have p2 := BX1.out.q2
    go_wp2_with fail
    refine (implSet a' m c' ys x y _ (RM.out.below BX1.out.below (Nat.le_refl _)) (by omega)).mono ?_
    rintro e1 w2 ⟨⟨T, rfl, hT⟩, hx⟩
    have BX2 := Lib.hid (BX1.out.step hx)
    have HT := Lib.hid hT
    clear hT
    clear hx p0 p1 p2
    have p0 := BX2.out.q0
    have p1 := BX2.out.q1
    have p2 := BX2.out.q2
    go_wp2_with fail
    refine (specSet a' m c' ys x y _ (RM.out.below BX2.out.below (Nat.le_refl _)) (by omega)).mono ?_
    rintro e1 w3 ⟨⟨U, rfl, hU⟩, hx⟩
    have BX3 := Lib.hid (BX2.out.step hx)
    obtain rfl := setIs_same HT.out hU
    clear hU
    clear hx p0 p1 p2
    have p0 := BX3.out.q0
    have p1 := BX3.out.q1
    have p2 := BX3.out.q2
    cases hok : okM ys x y
    · clear hok
      go_wp2
      go_ret
      exact ⟨rfl, (HB.out.trans (BX3.out.below.mono HB.out.size))⟩
    · rw [hok] at HT
      have HOK := Lib.hid hok
      have HSZ := Lib.hid (setIs_size HT.out)
      clear hok
      go_wp2
      go_loopw [9] (fun i wr => ∃ z : Nat, i = .int .i64 z ∧ z ≤ 151 ∧ BoxM a' m c' x y w1.heap.size w1 wr) (fun i _ => 152 - (intOf i).toNat)
      case atStart => exact ⟨0, rfl, by omega, BX3.out⟩
      case round =>
        obtain ⟨z, rfl, hz, hbz⟩ := hrel
        clear p0 p1 p2
        have BXZ := Lib.hid hbz
        have p0 := hbz.q0
        have p1 := hbz.q1
        have p2 := hbz.q2
        clear hbz
        by_cases hlt : z ≤ 150
        · have hltI : (z : Int) ≤ 150 := by omega
          obtain ⟨B, hBB⟩ : ∃ B, B = fM ys x y z := ⟨_, rfl⟩
          have HS1 := Lib.hid (fun W hW => set_says HT.out z m0 W HSZ.out (by omega) hW)
          have HK1 := Lib.hid (takes_says HOK.out z (by omega))
          rw [← hBB] at HS1 HK1
          clear hBB
          have HT2 : Hid (∀ W, ReadsI W a' m ys → Calls Try.prog 20 #[.agg #[.slice a' m c', .int .i64 x, .int .i64 y], .int .i64 z] W fun e1 w' => e1 = .returned (.bool B) ∧ Below W.heap.size W w') := Lib.hid (fun W hW => by rw [← HK1.out]; exact implTakes a' m c' ys x y z W hW (by omega))
          have BXD := Lib.hid (BXZ.out.step (Below.refl _ _).drew)
          have HLD := Lib.hid (HLA.out.below (HB.out.trans (BXD.out.below.mono HB.out.size)))
          go_wp2
          go_region_with (first
            | (go_at_call 27; (with_reducible refine (HS1.out _ ?_).mono ?_); exact HLD.out; rintro e1 w4 ⟨rfl, hx4⟩; have BX4 := Lib.hid (BXD.out.step hx4); have s0 := BX4.out.q0; have s1 := BX4.out.q1; have s2 := BX4.out.q2; clear hx4)
            | (go_at_call 20; (with_reducible refine (HT2.out _ (RM.out.below BX4.out.below (Nat.le_refl _))).mono ?_); rintro e1 w5 ⟨rfl, hx5⟩; have BX5 := Lib.hid (BX4.out.step hx5); clear hx5))
          all_goals
            clear p0 p1 p2
            go_wp2
            go_roundw
            case rel => exact ⟨z + 1, by go_num, by omega, BX5.out⟩
            case measure => simp [intOf]; omega
        · have hltI : 150 < (z : Int) := by omega
          go_wp2
          go_ret
          exact ⟨rfl, (HB.out.trans (BXZ.out.below.mono HB.out.size))⟩
  · have hd : (1048576 : Int) < (n : Int) := by omega
    go_enter Try.func6, Try.ntmps6
    go_wp2
    go_ret
    exact ⟨rfl, Below.refl _ _⟩
end Go.Proofs.Ytjaifkpmhcekcaa
