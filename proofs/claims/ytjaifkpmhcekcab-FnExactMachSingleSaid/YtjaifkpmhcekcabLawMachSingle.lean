/-
  The walk of the exact law on MachSingle, out of the walks of the program and of the model.
-/
import Derived.Test.YtjaifkpmhcekcabLawMach
import Derived.Test.YtjaifkpmhcekcabSingleI
import Derived.Test.YtjaifkpmhcekcabSingleS
namespace Go.Proofs.Ytjaifkpmhcekcab
open Go.RowKit
set_option linter.unusedVariables false

set_option maxRecDepth 100000 in
set_option maxHeartbeats 2000000 in
theorem lawMachSingle (w : World) (a : Option Addr) (n c : Nat) (zs : List Int) (b e : Int) (h : ReadsI w a n zs) (hn : n ≤ maxLen) :
    Calls Try.prog 6 #[.agg #[.slice a n c, .int .i64 b, .int .i64 e]] w fun e1 w' => e1 = .returned (.bool true) ∧ Below w.heap.size w w' := by
  have H := Lib.hid h
  have HZ := Lib.hid (fun W => szMachine_top a n c b e W hn)
  have HB0 := Lib.hid (boxM_start a n c b e w 24)
  have q0 := HB0.out.q0
  have q1 := HB0.out.q1
  have q2 := HB0.out.q2
  clear h
  by_cases hs : n ≤ 1048576
  · simp only [if_pos hs] at HZ
    have hd0 : ¬ ((1048576 - n : Nat) : Int) < 0 := by omega
    obtain ⟨d, hd⟩ : ∃ d, d = 1048576 - n := ⟨_, rfl⟩
    rw [← hd] at HZ hd0
    clear hd
    go_enter Try.func6, Try.ntmps6
    go_wp2_with fail
    refine (HZ.out _).mono ?_
    rintro e1 w1 ⟨rfl, hb1⟩
    have HB1 := Lib.hid (HB0.out.step hb1)
    have H1 := Lib.hid (H.out.below HB1.out.below (Nat.le_refl _))
    clear hb1 HZ q0 q1 q2
    have q0 := HB1.out.q0
    have q1 := HB1.out.q1
    have q2 := HB1.out.q2
    go_wp2_with fail
    refine (toMachine_is a n c zs b e _ H1.out hs).mono ?_
    rintro e1 w2 ⟨G, rfl, hb2, hown2⟩
    have HB2 := Lib.hid (HB1.out.step hb2)
    have HO2 := Lib.hid hown2
    clear hb2 hown2 q0 q1 q2
    go_wp2_with fail
    refine (specSingle (some ⟨G, 0, none⟩) n n zs b e _ (readsI_own HO2.out) hs).mono ?_
    rintro e1 w3 ⟨rfl, hb3⟩
    have HB3 := Lib.hid (HB2.out.step hb3)
    have H3 := Lib.hid (H.out.below HB3.out.below (Nat.le_refl _))
    have q0 := HB3.out.q0
    have q1 := HB3.out.q1
    have q2 := HB3.out.q2
    clear hb3
    go_wp2_with fail
    refine (toMachine_is a n c zs b e _ H3.out hs).mono ?_
    rintro e1 w4 ⟨G4, rfl, hb4, hown4⟩
    have HBB := Lib.hid ((HB3.out.step hb4).step ((Below.refl _ _).alloc (Nat.le_refl _) (.cells #[.slice (some ⟨G4, 0, none⟩) n n, .int .i64 b, .int .i64 e] 28)))
    have BX4 := Lib.hid (boxM_start (some ⟨G4, 0, none⟩) n n b e w4 28)
    have R4 := Lib.hid ((readsI_own hown4).alloc (.cells #[.slice (some ⟨G4, 0, none⟩) n n, .int .i64 b, .int .i64 e] 28))
    have p0 := BX4.out.q0
    have p1 := BX4.out.q1
    have p2 := BX4.out.q2
    clear hb4 hown4 q0 q1 q2
    go_wp2_with fail
    refine (implSingle (some ⟨G4, 0, none⟩) n n zs b e _ R4.out hs).mono ?_
    rintro e1 w5 ⟨rfl, hb5⟩
    generalize singleM zs b e = x
    cases x
    all_goals
      have HB5 := Lib.hid (HBB.out.step hb5)
      have BX5 := Lib.hid (BX4.out.step hb5)
      clear p0 p1 p2
      have p0 := BX5.out.q0
      have p1 := BX5.out.q1
      have p2 := BX5.out.q2
      have R5 := Lib.hid (R4.out.below hb5 (Nat.le_refl _))
      have H5 := Lib.hid (H.out.below HB5.out.below (Nat.le_refl _))
      clear hb5
      have q0 := HB5.out.q0
      have q1 := HB5.out.q1
      have q2 := HB5.out.q2
      have HTM := Lib.hid (toMach_later a n c zs b e w5 H5.out hs)
      go_wp2
      go_region_with (first
        | (go_at_call 12; (with_reducible refine (HTM.out _ ?_).mono ?_); exact (Below.refl _ _).drew; rintro e1 w6 ⟨G6, rfl, hb6, hr6⟩; have HR6 := Lib.hid hr6; have HR56 := Lib.hid (R5.out.below hb6 (Nat.le_refl _)); have BX6 := Lib.hid (BX5.out.step hb6); have HB6 := Lib.hid (HB5.out.step hb6); have s0 := BX6.out.q0; have s1 := BX6.out.q1; have s2 := BX6.out.q2; clear hb6 hr6)
        | (go_at_call 14; (with_reducible refine (eqMachine_same _ _ n n n zs b e _ HR56.out HR6.out hs).mono ?_); rintro e1 w7 ⟨rfl, hb7⟩; have HB7 := Lib.hid (HB6.out.step hb7); clear hb7))
      all_goals
        go_wp2
        go_ret
        exact ⟨rfl, HB7.out.below⟩
  · simp only [if_neg hs] at HZ
    go_enter Try.func6, Try.ntmps6
    go_wp2_with fail
    refine (HZ.out _).mono ?_
    rintro e1 w1 ⟨rfl, hb1⟩
    have HB1 := Lib.hid (HB0.out.step hb1)
    clear hb1 HZ
    go_wp2
    go_ret
    exact ⟨rfl, HB1.out.below⟩

end Go.Proofs.Ytjaifkpmhcekcab
