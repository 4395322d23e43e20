/-
  The walks of the exact laws' own helpers on machines: szMachine, toMachine, eqMachine.
-/
import Derived.Test.YtiphooodijbhiabSzInts
import Derived.Test.YtiphooodijbhiabLawToInts
import Derived.Test.YtiphooodijbhiabMachRes
namespace Go.Proofs.Ytiphooodijbhiab
open Go.RowKit
set_option linter.unusedVariables false

theorem eq_if {x y : Int} (h : x = y) : Ending.returned (Value.int .i64 x) = .returned (.int .i64 y) := by rw [h]

set_option maxRecDepth 100000 in
set_option maxHeartbeats 2000000 in
theorem szMachine_is (a : Option Addr) (n c l : Nat) (b e : Int) (w : World) (hl : l ≤ 1048576) (hn : n ≤ maxLen) :
    Calls Try.prog 45 #[.agg #[.slice a n c, .int .i64 b, .int .i64 e], .int .i64 l] w fun e1 w' => e1 = .returned (.int .i64 (if n ≤ l then ((l - n : Nat) : Int) else -1)) ∧ Below w.heap.size w w' := by
  have HZ := Lib.hid (fun W => szIntS_is a n c l W hl hn)
  by_cases h : n ≤ l
  · simp only [if_pos h] at HZ ⊢
    have h1 : ¬ ((l - n : Nat) : Int) < 0 := by omega
    obtain ⟨d, hd⟩ : ∃ d, d = l - n := ⟨_, rfl⟩
    rw [← hd] at HZ h1 ⊢
    clear hd
    go_enter Try.func45, Try.ntmps45
    go_wp2_with fail
    refine (HZ.out _).mono ?_
    rintro e1 w1 ⟨rfl, rfl⟩
    go_wp2
    go_ret
    exact ⟨rfl, (Below.refl _ _).alloc (Nat.le_refl _) _⟩
  · simp only [if_neg h] at HZ ⊢
    go_enter Try.func45, Try.ntmps45
    go_wp2_with fail
    refine (HZ.out _).mono ?_
    rintro e1 w1 ⟨rfl, rfl⟩
    go_wp2
    go_ret
    exact ⟨rfl, (Below.refl _ _).alloc (Nat.le_refl _) _⟩

theorem szMachine_top (a : Option Addr) (n c : Nat) (b e : Int) (w : World) (hn : n ≤ maxLen) :
    Calls Try.prog 45 #[.agg #[.slice a n c, .int .i64 b, .int .i64 e], .int .i64 1048576] w fun e1 w' => e1 = .returned (.int .i64 (if n ≤ 1048576 then ((1048576 - n : Nat) : Int) else -1)) ∧ Below w.heap.size w w' :=
  szMachine_is a n c 1048576 b e w (Nat.le_refl _) hn

def ToMach (zs : List Int) (n : Nat) (b e : Int) (w : World) (e1 : Ending) (w' : World) : Prop :=
  ∃ G, e1 = .returned (.agg #[.slice (some ⟨G, 0, none⟩) n n, .int .i64 b, .int .i64 e]) ∧ Below w.heap.size w w' ∧ w'.ownsRow w.heap.size 3 1 (.slice (some ⟨G, 0, none⟩) n n) n (ints zs)

set_option maxRecDepth 100000 in
set_option maxHeartbeats 2000000 in
theorem toMachine_is (a : Option Addr) (n c : Nat) (zs : List Int) (b e : Int) (w : World) (h : ReadsI w a n zs) (hn : n ≤ 1048576) :
    Calls Try.prog 47 #[.agg #[.slice a n c, .int .i64 b, .int .i64 e]] w (ToMach zs n b e w) := by
  have HB0 := boxM_start a n c b e w 48
  have hb1 := (Below.refl _ _).alloc (Nat.le_refl (w.alloc (.cells #[.slice a n c, .int .i64 b, .int .i64 e] 48)).heap.size) (.cells #[.slice none 0 0, .int .i64 0, .int .i64 0] 50)
  have hr1 := resM_start (w.alloc (.cells #[.slice a n c, .int .i64 b, .int .i64 e] 48))
  have hr2 := resM_start ((w.alloc (.cells #[.slice a n c, .int .i64 b, .int .i64 e] 48)).alloc (.cells #[.slice none 0 0, .int .i64 0, .int .i64 0] 50))
  have hb2 := (Below.refl _ _).alloc (Nat.le_refl ((w.alloc (.cells #[.slice a n c, .int .i64 b, .int .i64 e] 48)).alloc (.cells #[.slice none 0 0, .int .i64 0, .int .i64 0] 50)).heap.size) (.cells #[.slice none 0 0, .int .i64 0, .int .i64 0] 50)
  have HBX := Lib.hid ((HB0.step hb1).step hb2)
  have HR1 := Lib.hid (hr1.step hb2)
  have HR2 := Lib.hid hr2
  have H := Lib.hid (((h.alloc (.cells #[.slice a n c, .int .i64 b, .int .i64 e] 48)).alloc (.cells #[.slice none 0 0, .int .i64 0, .int .i64 0] 50)).alloc (.cells #[.slice none 0 0, .int .i64 0, .int .i64 0] 50))
  clear HB0 hb1 hr1 hr2 hb2 h
  simp only [World.size_alloc] at HR1 HR2
  go_enter Try.func47, Try.ntmps47
  go_wp2_with fail
  refine (toIntS_any a n c zs _ H.out hn).mono ?_
  rintro e1 w1 ⟨rfl, hb, hown⟩
  simp only [World.size_alloc] at hown ⊢
  have HX := Lib.hid (HBX.out.step hb)
  have K1 := Lib.hid (HR1.out.step hb)
  have K2 := Lib.hid (HR2.out.step hb)
  have q0 := HX.out.q0
  have q1 := HX.out.q1
  have q2 := HX.out.q2
  obtain ⟨x0, x1, x2, x3, x4, x5⟩ := K1.out.cells
  obtain ⟨y0, y1, y2, y3, y4, y5⟩ := K2.out.cells
  obtain ⟨G, hG⟩ : ∃ G, G = w.heap.size + 1 + 1 + 1 := ⟨_, rfl⟩
  rw [← hG] at hown ⊢
  have hK2 := K2.out.stored (.slice (some ⟨G, 0, none⟩) n n) (.int .i64 b) (.int .i64 e)
  have hB2 := below_three (R := w.heap.size + 1 + 1) HX.out.below (by omega) (.slice (some ⟨G, 0, none⟩) n n) (.int .i64 b) (.int .i64 e)
  have hO2 := own_three (R := w.heap.size + 1 + 1) hown (by omega) (.slice (some ⟨G, 0, none⟩) n n) (.int .i64 b) (.int .i64 e)
  have hK1 := (((K1.out.other (p := ⟨w.heap.size + 1 + 1, 0, none⟩) (by simp) (.slice (some ⟨G, 0, none⟩) n n)).other (p := ⟨w.heap.size + 1 + 1, 1, none⟩) (by simp) (.int .i64 b)).other (p := ⟨w.heap.size + 1 + 1, 2, none⟩) (by simp) (.int .i64 e)).stored (.slice (some ⟨G, 0, none⟩) n n) (.int .i64 b) (.int .i64 e)
  have HF := Lib.hid hK1
  have HFB := Lib.hid (below_three (R := w.heap.size + 1) hB2 (by omega) (.slice (some ⟨G, 0, none⟩) n n) (.int .i64 b) (.int .i64 e))
  have HFO := Lib.hid (own_three (R := w.heap.size + 1) hO2 (by omega) (.slice (some ⟨G, 0, none⟩) n n) (.int .i64 b) (.int .i64 e))
  have hGe : w.heap.size ≤ G := by omega
  clear hb hown hK1 hK2 hB2 hO2 hG
  go_wp2
  generalize ((((((w1.setCell ⟨w.heap.size + 1 + 1, 0, none⟩ (.slice (some ⟨G, 0, none⟩) n n)).setCell ⟨w.heap.size + 1 + 1, 1, none⟩ (.int .i64 b)).setCell ⟨w.heap.size + 1 + 1, 2, none⟩ (.int .i64 e)).setCell ⟨w.heap.size + 1, 0, none⟩ (.slice (some ⟨G, 0, none⟩) n n)).setCell ⟨w.heap.size + 1, 1, none⟩ (.int .i64 b)).setCell ⟨w.heap.size + 1, 2, none⟩ (.int .i64 e)) = wz at HF HFB HFO ⊢
  obtain ⟨d0, d1, d2, _⟩ := HF.out.cells
  exact bodyPost_ret (v := .agg #[.slice (some ⟨G, 0, none⟩) n n, .int .i64 b, .int .i64 e]) (by simp [results, Try.results47, go_sem, d0, d1, d2]) rfl ⟨G, rfl, HFB.out, own_base HFO.out hGe⟩

/-- toMachine in every later world. -/
theorem toMach_later (a : Option Addr) (n c : Nat) (zs : List Int) (b e : Int) (w : World) (h : ReadsI w a n zs) (hn : n ≤ 1048576) :
    ∀ W, Below w.heap.size w W → Calls Try.prog 47 #[.agg #[.slice a n c, .int .i64 b, .int .i64 e]] W fun e1 w' =>
      ∃ G, e1 = .returned (.agg #[.slice (some ⟨G, 0, none⟩) n n, .int .i64 b, .int .i64 e]) ∧ Below w.heap.size w w' ∧ ReadsI w' (some ⟨G, 0, none⟩) n zs := by
  intro W hW
  refine (toMachine_is a n c zs b e W (h.below hW (Nat.le_refl _)) hn).mono ?_
  rintro e1 w' ⟨G, rfl, hb, hown⟩
  exact ⟨G, rfl, hW.trans (hb.mono hW.size), readsI_own hown⟩

set_option maxRecDepth 100000 in
set_option maxHeartbeats 2000000 in
theorem eqMachine_same (a1 a2 : Option Addr) (n c1 c2 : Nat) (zs : List Int) (b e : Int) (w : World) (h1 : ReadsI w a1 n zs) (h2 : ReadsI w a2 n zs) (hn : n ≤ 1048576) :
    Calls Try.prog 49 #[.agg #[.slice a1 n c1, .int .i64 b, .int .i64 e], .agg #[.slice a2 n c2, .int .i64 b, .int .i64 e]] w fun e1 w' => e1 = .returned (.bool true) ∧ Below w.heap.size w w' := by
  have H : ∀ o1 o2, Hid (Calls Try.prog 90 #[.slice a1 n c1, .slice a2 n c2] ((w.alloc o1).alloc o2) fun e w' => e = .returned (.bool true) ∧ ∃ nd, w' = ((w.alloc o1).alloc o2).drewN nd) := fun o1 o2 =>
    Lib.hid (eqIntS_same a1 a2 n c1 c2 zs _ ((h1.alloc _).alloc _) ((h2.alloc _).alloc _) hn)
  clear h1 h2
  go_enter Try.func49, Try.ntmps49
  go_wp2_with fail
  refine (H _ _).out.mono ?_
  rintro e1 w1 ⟨rfl, nd, rfl⟩
  go_wp2
  go_ret
  exact ⟨rfl, below_drewN (((Below.refl _ _).alloc (Nat.le_refl _) _).alloc (by simp) _) _⟩

end Go.Proofs.Ytiphooodijbhiab
