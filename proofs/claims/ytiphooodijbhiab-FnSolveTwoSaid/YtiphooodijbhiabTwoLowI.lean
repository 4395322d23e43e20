/-
  The walks of equation.leastTwo and SolveTwo, of the program.
-/
import Derived.Test.YtiphooodijbhiabTable2I
set_option linter.unusedVariables false
set_option linter.unusedSimpArgs false
namespace Go.Proofs.Ytiphooodijbhiab
open Go.RowKit

theorem pair_set {w W : World} {T : TypeId} {a b : Value} (h : W.heap[w.heap.size]? = some (.cells #[a, b] T (0, 0))) (hb : Below w.heap.size w W) (x y : Value) :
    Below w.heap.size w ((W.setCell ⟨w.heap.size, 0, none⟩ x).setCell ⟨w.heap.size, 1, none⟩ y) ∧
    ((W.setCell ⟨w.heap.size, 0, none⟩ x).setCell ⟨w.heap.size, 1, none⟩ y).cell? ⟨w.heap.size, 0, none⟩ = some x ∧ ((W.setCell ⟨w.heap.size, 0, none⟩ x).setCell ⟨w.heap.size, 1, none⟩ y).cell? ⟨w.heap.size, 1, none⟩ = some y := by
  have h1 := heap_setCell_same W w.heap.size 0 _ _ x h
  have h2 := heap_setCell_same _ w.heap.size 1 _ _ y h1
  refine ⟨(hb.setCell (p := ⟨w.heap.size, 0, none⟩) (Nat.le_refl _) x).setCell (p := ⟨w.heap.size, 1, none⟩) (Nat.le_refl _) y, ?_, ?_⟩ <;> (rw [cell_of_row _ _ _ _ _ _ h2]; rfl)
/-- The cell of what is handed back, as it is before it is written. -/
structure ResBox (w W : World) : Prop where
  at' : W.heap[w.heap.size]? = some (.cells #[.bool false, .bool false] 108 (0, 0))
  below : Below w.heap.size w W
theorem resBox_start (w : World) : ResBox w (w.alloc (.cells #[.bool false, .bool false] 108)) := ⟨heap_alloc_new w _, (Below.refl _ _).alloc (Nat.le_refl _) _⟩
theorem ResBox.step {w W W' : World} (h : ResBox w W) (hb : Below W.heap.size W W') : ResBox w W' := by
  have hlt : w.heap.size < W.heap.size := by
    rcases Nat.lt_or_ge w.heap.size W.heap.size with k | k
    · exact k
    · have := h.at'; rw [Array.getElem?_eq_none k] at this; cases this
  exact ⟨(hb.block _ hlt).trans h.at', h.below.trans (hb.mono h.below.size)⟩

set_option maxRecDepth 100000 in
set_option maxHeartbeats 4000000 in
theorem leastTwo_next (f g : Nat → Bool) (T R T2 R2 : ByteArray) (E : Nat) (a : Option Addr) (n c : Nat) (w : World) (hE : EquBox T R T2 R2 E w) (hA : Tells f T R) (hB : Tells g T2 R2) (hr : Reads2 w a n (twoX f g) (twoY f g)) (hn : n ≤ 5000) :
    Calls Try.prog 118 #[.slice a n c, .pointer (some ⟨E, 0, none⟩)] w fun e w' => e = .returned (.agg #[.bool (twoX f g n), .bool (twoY f g n)]) ∧ Below w.heap.size w w' := by
  have hstep := twoX_step f g n
  obtain ⟨vx, hvx⟩ : ∃ v, v = twoX f g n := ⟨_, rfl⟩
  obtain ⟨vy, hvy⟩ : ∃ v, v = twoY f g n := ⟨_, rfl⟩
  rw [← hvx, ← hvy] at hstep
  rw [← hvx, ← hvy]
  have hEl := lt_of_some hE.q0
  have hb0 := (Below.refl w.heap.size w).alloc (Nat.le_refl _) (.cells #[.bool false, .bool false] 108)
  have HE := Lib.hid (hE.later hb0 hEl)
  have HR0 := Lib.hid (hr.below hb0 (Nat.le_refl _))
  have HX0 := Lib.hid (resBox_start w)
  have HB := Lib.hid hB
  have HA := Lib.hid hA
  have HST := Lib.hid hstep
  have HY : Hid (vy = (decide (0 < n) && twoX f g (n - 1))) := Lib.hid hvy
  have HAdd := Lib.hid (fun W h => adds2_any a n c n (twoX f g) (twoY f g) f T R W h hA (Nat.le_refl _) hn)
  clear hstep hvx hvy hE hA hB hb0 hr
  go_enter Try.func118, Try.ntmps118
  have rest : ∀ W : World, ResBox w W → EquBox T R T2 R2 E W → Reads2 W a n (twoX f g) (twoY f g) → True := fun _ _ _ _ => trivial
  clear rest
  obtain ⟨q0, q1, q2, q3⟩ := HE.out
  have hg := fun W => tells_has HB.out n W (by omega)
  have hf := fun W => tells_has HA.out 0 W (by omega)
  have HAt := Lib.hid HR0.out
  rcases Nat.eq_zero_or_pos n with h0 | h0
  · subst h0
    have hy0 : vy = false := by rw [HY.out]; rfl
    subst hy0
    have hsx : vx = g 0 := by
      rw [HST.out]
      show (g 0 || ((false && f 0) || false)) = g 0
      simp
    rw [← hsx] at hg
    clear hsx HST HY
    have hadd0 := HAdd.out
    rw [show someF (addT f (twoY f g) 0) 0 0 = false from rfl] at hadd0
    have HAdd0 := Lib.hid hadd0
    clear hadd0 HAdd hf
    go_wp2_with fail
    refine (hg _).mono ?_
    rintro e w1 ⟨rfl, hb1⟩
    have HX1 := Lib.hid (HX0.out.step hb1)
    cases vx
    · have hE1 := (HE.out.later hb1 (by simp; omega))
      obtain ⟨x0, x1, x2, x3⟩ := hE1
      have HR1 := Lib.hid (HR0.out.below hb1 (Nat.le_refl _))
      clear hb1 q0 q1 q2 q3 hg
      go_wp2_with fail
      refine (HAdd0.out _ HR1.out).mono ?_
      rintro e w2 ⟨rfl, hb2⟩
      have HX2 := Lib.hid (HX1.out.step hb2)
      obtain ⟨z0, z1⟩ : w2.cell? ⟨w.heap.size, 0, none⟩ = some (.bool false) ∧ w2.cell? ⟨w.heap.size, 1, none⟩ = some (.bool false) := by
        constructor <;> (rw [cell_of_row _ _ _ _ _ _ HX2.out.at']; rfl)
      have zf := fun i => frozen_of_row w2 w.heap.size i _ _ HX2.out.at'
      have HF := Lib.hid (pair_set HX2.out.at' HX2.out.below (.bool false) (.bool false))
      clear hb2 x0 x1 x2 x3
      go_wp2
      generalize (w2.setCell ⟨w.heap.size, 0, none⟩ _).setCell ⟨w.heap.size, 1, none⟩ _ = wF at HF ⊢
      obtain ⟨hBF, f0, f1⟩ := HF.out
      exact bodyPost_ret (v := .agg #[.bool false, .bool false]) (by simp [results, Try.results118, go_sem, f0, f1]) rfl ⟨rfl, hBF⟩
    · obtain ⟨z0, z1⟩ : w1.cell? ⟨w.heap.size, 0, none⟩ = some (.bool false) ∧ w1.cell? ⟨w.heap.size, 1, none⟩ = some (.bool false) := by
        constructor <;> (rw [cell_of_row _ _ _ _ _ _ HX1.out.at']; rfl)
      have zf := fun i => frozen_of_row w1 w.heap.size i _ _ HX1.out.at'
      have HF := Lib.hid (pair_set HX1.out.at' HX1.out.below (.bool true) (.bool false))
      clear hb1 q0 q1 q2 q3 hg
      go_wp2
      generalize (w1.setCell ⟨w.heap.size, 0, none⟩ _).setCell ⟨w.heap.size, 1, none⟩ _ = wF at HF ⊢
      obtain ⟨hBF, f0, f1⟩ := HF.out
      exact bodyPost_ret (v := .agg #[.bool true, .bool false]) (by simp [results, Try.results118, go_sem, f0, f1]) rfl ⟨rfl, hBF⟩
  · obtain ⟨G, o, rfl, hG, hcells⟩ := HAt.out.resolve_left (by omega)
    obtain ⟨k, rfl⟩ : ∃ k, n = k + 1 := ⟨n - 1, by omega⟩
    have c0 := (hcells k (by omega)).1
    have hvy : vy = twoX f g k := by rw [HY.out, decide_eq_true (by omega)]; rfl
    rw [← hvy] at c0
    have hki : ((k + 1 : Nat) : Int) - 1 = (k : Int) := by omega
    have hk0 : (0 : Int) < ((k + 1 : Nat) : Int) := by omega
    clear hcells hG HY hvy
    have hlater : ∀ w1, Below (w.alloc (.cells #[.bool false, .bool false] 108)).heap.size (w.alloc (.cells #[.bool false, .bool false] 108)) w1 → EquBox T R T2 R2 E w1 ∧ Reads2 w1 (some ⟨G, o, none⟩) (k + 1) (twoX f g) (twoY f g) := fun w1 h =>
      ⟨HE.out.later h (by simp; omega), HR0.out.below h (Nat.le_refl _)⟩
    have HLt := Lib.hid hlater
    clear hlater
    have hsx := HST.out
    cases hgv : g (k + 1)
    · rw [hgv] at hg hsx
      rw [Bool.false_or] at hsx
      cases vy
      · rw [Bool.false_and, Bool.false_or] at hsx
        rw [← hsx] at HAdd
        clear hgv hsx HST hf
        go_wp2_with fail
        refine (hg _).mono ?_
        rintro e w1 ⟨rfl, hb1⟩
        have HX1 := Lib.hid (HX0.out.step hb1)
        obtain ⟨⟨x0, x1, x2, x3⟩, hr1⟩ := HLt.out w1 hb1
        have HR1 := Lib.hid hr1
        clear hb1 hg q0 q1 q2 q3 c0 hr1
        go_wp2_with fail
        refine (HAdd.out _ HR1.out).mono ?_
        rintro e w2 ⟨rfl, hb2⟩
        have HX2 := Lib.hid (HX1.out.step hb2)
        clear hb2 x0 x1 x2 x3
        obtain ⟨z0, z1⟩ : w2.cell? ⟨w.heap.size, 0, none⟩ = some (.bool false) ∧ w2.cell? ⟨w.heap.size, 1, none⟩ = some (.bool false) := by
          constructor <;> (rw [cell_of_row _ _ _ _ _ _ HX2.out.at']; rfl)
        have zf := fun i => frozen_of_row w2 w.heap.size i _ _ HX2.out.at'
        have HF := Lib.hid (pair_set HX2.out.at' HX2.out.below (.bool vx) (.bool false))
        go_wp2
        generalize (w2.setCell ⟨w.heap.size, 0, none⟩ _).setCell ⟨w.heap.size, 1, none⟩ _ = wF at HF ⊢
        obtain ⟨hBF, f0, f1⟩ := HF.out
        exact bodyPost_ret (v := .agg #[.bool vx, .bool false]) (by simp [results, Try.results118, go_sem, f0, f1]) rfl ⟨rfl, hBF⟩
      · cases hfv : f 0
        · rw [hfv] at hf hsx
          rw [Bool.and_false, Bool.false_or] at hsx
          rw [← hsx] at HAdd
          clear hgv hfv hsx HST
          go_wp2_with fail
          refine (hg _).mono ?_
          rintro e w1 ⟨rfl, hb1⟩
          have HX1 := Lib.hid (HX0.out.step hb1)
          obtain ⟨⟨x0, x1, x2, x3⟩, hr1⟩ := HLt.out w1 hb1
          have HB1 := Lib.hid hb1
          clear hb1 hg q0 q1 q2 q3 c0 hr1
          go_wp2_with fail
          refine (hf _).mono ?_
          rintro e w2 ⟨rfl, hb2⟩
          have HX2 := Lib.hid (HX1.out.step hb2)
          obtain ⟨⟨y0, y1, y2, y3⟩, hr2⟩ := HLt.out w2 (below_step HB1.out hb2)
          have HR2 := Lib.hid hr2
          clear hb2 hf x0 x1 x2 x3 hr2
          go_wp2_with fail
          refine (HAdd.out _ HR2.out).mono ?_
          rintro e w3 ⟨rfl, hb3⟩
          have HX3 := Lib.hid (HX2.out.step hb3)
          clear hb3 y0 y1 y2 y3
          obtain ⟨z0, z1⟩ : w3.cell? ⟨w.heap.size, 0, none⟩ = some (.bool false) ∧ w3.cell? ⟨w.heap.size, 1, none⟩ = some (.bool false) := by
            constructor <;> (rw [cell_of_row _ _ _ _ _ _ HX3.out.at']; rfl)
          have zf := fun i => frozen_of_row w3 w.heap.size i _ _ HX3.out.at'
          have HF := Lib.hid (pair_set HX3.out.at' HX3.out.below (.bool vx) (.bool true))
          go_wp2
          generalize (w3.setCell ⟨w.heap.size, 0, none⟩ _).setCell ⟨w.heap.size, 1, none⟩ _ = wF at HF ⊢
          obtain ⟨hBF, f0, f1⟩ := HF.out
          exact bodyPost_ret (v := .agg #[.bool vx, .bool true]) (by simp [results, Try.results118, go_sem, f0, f1]) rfl ⟨rfl, hBF⟩
        · rw [hfv] at hf hsx
          rw [Bool.and_true, Bool.true_or] at hsx
          subst hsx
          clear hgv hfv HST HAdd
          go_wp2_with fail
          refine (hg _).mono ?_
          rintro e w1 ⟨rfl, hb1⟩
          have HX1 := Lib.hid (HX0.out.step hb1)
          obtain ⟨⟨x0, x1, x2, x3⟩, hr1⟩ := HLt.out w1 hb1
          clear hb1 hg q0 q1 q2 q3 c0 hr1
          go_wp2_with fail
          refine (hf _).mono ?_
          rintro e w2 ⟨rfl, hb2⟩
          have HX2 := Lib.hid (HX1.out.step hb2)
          clear hb2 hf x0 x1 x2 x3
          obtain ⟨z0, z1⟩ : w2.cell? ⟨w.heap.size, 0, none⟩ = some (.bool false) ∧ w2.cell? ⟨w.heap.size, 1, none⟩ = some (.bool false) := by
            constructor <;> (rw [cell_of_row _ _ _ _ _ _ HX2.out.at']; rfl)
          have zf := fun i => frozen_of_row w2 w.heap.size i _ _ HX2.out.at'
          have HF := Lib.hid (pair_set HX2.out.at' HX2.out.below (.bool true) (.bool true))
          go_wp2
          generalize (w2.setCell ⟨w.heap.size, 0, none⟩ _).setCell ⟨w.heap.size, 1, none⟩ _ = wF at HF ⊢
          obtain ⟨hBF, f0, f1⟩ := HF.out
          exact bodyPost_ret (v := .agg #[.bool true, .bool true]) (by simp [results, Try.results118, go_sem, f0, f1]) rfl ⟨rfl, hBF⟩
    · rw [hgv] at hg hsx
      rw [Bool.true_or] at hsx
      subst hsx
      clear hgv HST HAdd hf
      go_wp2_with fail
      refine (hg _).mono ?_
      rintro e w1 ⟨rfl, hb1⟩
      have HX1 := Lib.hid (HX0.out.step hb1)
      clear hb1 hg q0 q1 q2 q3 c0
      obtain ⟨z0, z1⟩ : w1.cell? ⟨w.heap.size, 0, none⟩ = some (.bool false) ∧ w1.cell? ⟨w.heap.size, 1, none⟩ = some (.bool false) := by
        constructor <;> (rw [cell_of_row _ _ _ _ _ _ HX1.out.at']; rfl)
      have zf := fun i => frozen_of_row w1 w.heap.size i _ _ HX1.out.at'
      have HF := Lib.hid (pair_set HX1.out.at' HX1.out.below (.bool true) (.bool vy))
      go_wp2
      generalize (w1.setCell ⟨w.heap.size, 0, none⟩ _).setCell ⟨w.heap.size, 1, none⟩ _ = wF at HF ⊢
      obtain ⟨hBF, f0, f1⟩ := HF.out
      exact bodyPost_ret (v := .agg #[.bool true, .bool vy]) (by simp [results, Try.results118, go_sem, f0, f1]) rfl ⟨rfl, hBF⟩

set_option maxRecDepth 100000 in
set_option maxHeartbeats 2000000 in
theorem leastTwo_any (f g : Nat → Bool) (T R T2 R2 : ByteArray) (N : Nat) (w : World) (hA : Tells f T R) (hB : Tells g T2 R2) (hN : N ≤ 5000) :
    Calls Try.prog 81 #[.agg #[.string T, .string R, .string T2, .string R2], .int .i64 N] w fun e w' => ∃ a c, e = .returned (.slice a N c) ∧ Reads2 w' a N (twoX f g) (twoY f g) ∧ Below w.heap.size w w' := by
  have HE := Lib.hid (equBox_new T R T2 R2 83 w)
  have HG : Hid (Next2 118 #[.pointer (some ⟨w.heap.size, 0, none⟩)] (twoX f g) (twoY f g) N (w.alloc (.cells #[.string T, .string R, .string T2, .string R2] 83))) :=
    Lib.hid ⟨fun _ _ => rfl, fun W a n c hb hn hr => leastTwo_next f g T R T2 R2 w.heap.size a n c W (HE.out.later hb (by simp)) hA hB hr (by omega)⟩
  go_enter Try.func81, Try.ntmps81
  go_wp2_with fail
  refine (tableOf2_any _ _ (twoX f g) (twoY f g) N _ HG.out hN).mono ?_
  rintro e w1 ⟨a, c, rfl, hr, hb⟩
  have HR := Lib.hid hr
  have HB := Lib.hid (((Below.refl w.heap.size w).alloc (Nat.le_refl _) (.cells #[.string T, .string R, .string T2, .string R2] 83)).trans (hb.mono (by simp)))
  clear hr hb
  go_wp2
  go_ret
  exact ⟨a, c, rfl, HR.out, HB.out⟩

theorem twoI_off {s t : ByteArray} {n : Int} {e : Ending} (h : twoOk s t n = false) (he : e = .returned (.tuple #[.int .i64 0, .bool false])) : e = .returned (.tuple #[.int .i64 (twoN s t n), .bool (twoOk s t n)]) := by
  rw [he]; unfold twoN; rw [h]; rfl
theorem twoI_on {s t : ByteArray} {n : Nat} {e : Ending} (h : twoOk s t n = true) (he : e = .returned (.tuple #[.int .i64 (countF (twoX (fS s) (fS t)) n : Nat), .bool true])) : e = .returned (.tuple #[.int .i64 (twoN s t n), .bool (twoOk s t n)]) := by
  rw [he]; unfold twoN; rw [h]; rfl

set_option maxRecDepth 100000 in
set_option maxHeartbeats 2000000 in
theorem implSolveTwo (s t : ByteArray) (n m : Int) (w : World) (hs : s.size ≤ 1048576) (ht : t.size ≤ 1048576) (hL : LibAt m w) :
    Calls Try.prog 42 #[.string s, .string t, .int .i64 n] w fun e w' => e = .returned (.tuple #[.int .i64 (twoN s t n), .bool (twoOk s t n)]) ∧ Below w.heap.size w w' := by
  go_enter Try.func42, Try.ntmps42
  go_wp2_with fail
  refine (equation_any s t m _ hs ht hL).mono ?_
  rintro e w1 ⟨⟨T, R, T2, R2, rfl, h1⟩, hb1⟩
  have HB1 := Lib.hid (hb1.alloc hb1.size (.cells #[.string T, .string R, .string T2, .string R2] 83))
  obtain ⟨q0, q1, q2, q3⟩ := equBox_new T R T2 R2 83 w1
  cases hp : (smallS s && smallS t)
  · have HO : Hid (twoOk s t n = false) := Lib.hid (by unfold twoOk; rw [hp]; rfl)
    clear hp h1 hb1
    go_wp2
    go_ret2
    exact ⟨twoI_off HO.out rfl, HB1.out⟩
  · rcases inR_cases n 0 500 with ⟨hi, h0, h5⟩ | ⟨hi, ho⟩
    · obtain ⟨k, rfl⟩ := Int.eq_ofNat_of_zero_le h0
      have HO : Hid (twoOk s t k = true) := Lib.hid (by unfold twoOk; rw [hp, hi]; rfl)
      have HI := Lib.hid hi
      have hk5 : k ≤ 500 := by omega
      rw [Bool.and_eq_true] at hp
      have hsm := h1 hp.1 hp.2
      have HL := Lib.hid (fun W => leastTwo_any (fS s) (fS t) T R T2 R2 k W hsm.1.parts hsm.2.parts (by omega))
      have HC := Lib.hid (fun a c W h => count2_any a k c (twoX (fS s) (fS t)) (twoY (fS s) (fS t)) W h (by omega))
      clear hp h1 hb1 hi hsm
      go_wp2_with fail
      refine (between_in (k : Int) 0 500 _ HI.out).mono ?_
      rintro e w2 ⟨rfl, rfl⟩
      go_wp2_with fail
      refine (HL.out _).mono ?_
      rintro e w3 ⟨a, c, rfl, hr, hb3⟩
      have HB3 := Lib.hid (below_step HB1.out hb3)
      have HR := Lib.hid hr
      clear hr hb3
      go_wp2_with fail
      refine (HC.out a c _ HR.out).mono ?_
      rintro e w4 ⟨rfl, hb4⟩
      have HB4 := Lib.hid (below_step HB3.out hb4)
      clear hb4
      go_wp2
      go_ret2
      exact ⟨twoI_on HO.out rfl, HB4.out⟩
    · have HO : Hid (twoOk s t n = false) := Lib.hid (by unfold twoOk; rw [hi, Bool.and_false])
      have HI := Lib.hid hi
      clear hp h1 hb1 hi
      go_wp2_with fail
      refine (between_out n 0 500 _ HI.out).mono ?_
      rintro e w2 ⟨rfl, rfl⟩
      go_wp2
      go_ret2
      exact ⟨twoI_off HO.out rfl, HB1.out⟩

end Go.Proofs.Ytiphooodijbhiab
