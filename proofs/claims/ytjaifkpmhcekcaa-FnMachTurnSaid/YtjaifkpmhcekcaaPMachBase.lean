/-
  The walks of the drawing of what chapter 6's functions are asked. What the walks of chapter 6's promises share.
-/
import Derived.Test.YtjaifkpmhcekcaaDrawMach
import Derived.Test.YtjaifkpmhcekcaaRowBytes
import Derived.Test.YtjaifkpmhcekcaaSameInts
set_option linter.unusedVariables false
set_option linter.unusedSimpArgs false
namespace Go.Proofs.Ytjaifkpmhcekcaa
open Go.RowKit

theorem bytes_alloc {w : World} {a : Option Addr} {n : Nat} (h : Bytes w a n) (o : Obj) : Bytes (w.alloc o) a n := by
  rcases h with h | ⟨g, o', ha, hg, hc⟩
  · exact .inl h
  · refine .inr ⟨g, o', ha, by simp; omega, fun i hi => ?_⟩
    obtain ⟨z, hz, hz2⟩ := hc i hi
    exact ⟨z, (Below.cell (p := ⟨g, o' + i, none⟩) ((Below.refl w.heap.size w).alloc (Nat.le_refl _) o) hg).trans hz, hz2⟩
def MachPicked (w : World) (e1 : Ending) (w' : World) : Prop :=
  ∃ a' m c' zs x y, e1 = .returned (.agg #[.slice a' m c', .int .i64 x, .int .i64 y]) ∧ ReadsI w' a' m zs ∧ m ≤ 12 ∧ Below w.heap.size w w'

set_option maxRecDepth 100000 in
set_option maxHeartbeats 1000000 in
theorem drawMachIn (a : Option Addr) (n c : Nat) (w : World) (h : Bytes w a n) (hn : n ≤ 1048576) (hc : n ≤ c) :
    Calls Try.prog 15 #[.slice a n c] w (MachPicked w) := by
  have HRX := Lib.hid (resM_start w)
  go_enter Try.func15, Try.ntmps15
  go_wp2_with fail
  refine (open_rd a n c _ (bytes_alloc h (.cells #[.slice none 0 0, .int .i64 0, .int .i64 0] 25)) hn hc).mono ?_
  rintro e1 w1 ⟨n', rfl, hrd, hap⟩
  rw [World.size_alloc] at hrd hap
  simp only [World.size_alloc]
  have hS1 : ResM (.slice none 0 0) (.int .i64 0) (.int .i64 0) w.heap.size w1 := (hap.below.block w.heap.size (Nat.lt_succ_self _)).trans HRX.out
  go_wp2_with fail
  refine (drawMach hrd (by omega)).mono ?_
  rintro e1 w2 ⟨a', m, c', zs, x, y, rfl, hown, hm, _, hap2⟩
  have hlt := lt_of_block hS1
  have hS2 : ResM (.slice none 0 0) (.int .i64 0) (.int .i64 0) w.heap.size w2 := (hap2.block w.heap.size hlt (by omega)).trans hS1
  have hb0 : Below w.heap.size w (w.alloc (.cells #[.slice none 0 0, .int .i64 0, .int .i64 0] 25)) := (Below.refl _ _).alloc (Nat.le_refl _) _
  have HB := Lib.hid (below_three (R := w.heap.size) ((hb0.trans (hap.below.mono (Nat.le_succ _))).trans (hap2.below.mono (Nat.le_succ _))) (Nat.le_refl _) (.slice a' m c') (.int .i64 x) (.int .i64 y))
  have HF := Lib.hid (hS2.stored (.slice a' m c') (.int .i64 x) (.int .i64 y))
  have HO := Lib.hid (own_three (R := w.heap.size) hown hlt (.slice a' m c') (.int .i64 x) (.int .i64 y))
  obtain ⟨f0, f1, f2, f3, f4, f5⟩ := hS2.cells
  clear hrd hap hap2 hS1 hown hb0 hS2
  go_wp2
  generalize (((w2.setCell ⟨w.heap.size, 0, none⟩ (.slice a' m c')).setCell ⟨w.heap.size, 1, none⟩ (.int .i64 x)).setCell ⟨w.heap.size, 2, none⟩ (.int .i64 y)) = wz at HF HB HO ⊢
  obtain ⟨e0, e1, e2, _⟩ := HF.out.cells
  exact bodyPost_ret (v := .agg #[.slice a' m c', .int .i64 x, .int .i64 y]) (by simp [results, Try.results15, go_sem, e0, e1, e2]) rfl ⟨a', m, c', zs, x, y, rfl, readsI_own HO.out, hm, HB.out⟩

set_option maxRecDepth 100000 in
set_option maxHeartbeats 1000000 in
theorem drawMachSet (a : Option Addr) (n c : Nat) (w : World) (h : Bytes w a n) (hn : n ≤ 1048576) (hc : n ≤ c) :
    Calls Try.prog 24 #[.slice a n c] w (MachPicked w) := by
  have HRX := Lib.hid (resM_start w)
  go_enter Try.func24, Try.ntmps24
  go_wp2_with fail
  refine (open_rd a n c _ (bytes_alloc h (.cells #[.slice none 0 0, .int .i64 0, .int .i64 0] 25)) hn hc).mono ?_
  rintro e1 w1 ⟨n', rfl, hrd, hap⟩
  rw [World.size_alloc] at hrd hap
  simp only [World.size_alloc]
  have hS1 : ResM (.slice none 0 0) (.int .i64 0) (.int .i64 0) w.heap.size w1 := (hap.below.block w.heap.size (Nat.lt_succ_self _)).trans HRX.out
  go_wp2_with fail
  refine (drawMach hrd (by omega)).mono ?_
  rintro e1 w2 ⟨a', m, c', zs, x, y, rfl, hown, hm, _, hap2⟩
  have hlt := lt_of_block hS1
  have hS2 : ResM (.slice none 0 0) (.int .i64 0) (.int .i64 0) w.heap.size w2 := (hap2.block w.heap.size hlt (by omega)).trans hS1
  have hb0 : Below w.heap.size w (w.alloc (.cells #[.slice none 0 0, .int .i64 0, .int .i64 0] 25)) := (Below.refl _ _).alloc (Nat.le_refl _) _
  have HB := Lib.hid (below_three (R := w.heap.size) ((hb0.trans (hap.below.mono (Nat.le_succ _))).trans (hap2.below.mono (Nat.le_succ _))) (Nat.le_refl _) (.slice a' m c') (.int .i64 x) (.int .i64 y))
  have HF := Lib.hid (hS2.stored (.slice a' m c') (.int .i64 x) (.int .i64 y))
  have HO := Lib.hid (own_three (R := w.heap.size) hown hlt (.slice a' m c') (.int .i64 x) (.int .i64 y))
  obtain ⟨f0, f1, f2, f3, f4, f5⟩ := hS2.cells
  clear hrd hap hap2 hS1 hown hb0 hS2
  go_wp2
  generalize (((w2.setCell ⟨w.heap.size, 0, none⟩ (.slice a' m c')).setCell ⟨w.heap.size, 1, none⟩ (.int .i64 x)).setCell ⟨w.heap.size, 2, none⟩ (.int .i64 y)) = wz at HF HB HO ⊢
  obtain ⟨e0, e1, e2, _⟩ := HF.out.cells
  exact bodyPost_ret (v := .agg #[.slice a' m c', .int .i64 x, .int .i64 y]) (by simp [results, Try.results24, go_sem, e0, e1, e2]) rfl ⟨a', m, c', zs, x, y, rfl, readsI_own HO.out, hm, HB.out⟩

set_option maxRecDepth 100000 in
set_option maxHeartbeats 1000000 in
theorem drawMachTurn (a : Option Addr) (n c : Nat) (w : World) (h : Bytes w a n) (hn : n ≤ 1048576) (hc : n ≤ c) :
    Calls Try.prog 28 #[.slice a n c] w (MachPicked w) := by
  have HRX := Lib.hid (resM_start w)
  go_enter Try.func28, Try.ntmps28
  go_wp2_with fail
  refine (open_rd a n c _ (bytes_alloc h (.cells #[.slice none 0 0, .int .i64 0, .int .i64 0] 25)) hn hc).mono ?_
  rintro e1 w1 ⟨n', rfl, hrd, hap⟩
  rw [World.size_alloc] at hrd hap
  simp only [World.size_alloc]
  have hS1 : ResM (.slice none 0 0) (.int .i64 0) (.int .i64 0) w.heap.size w1 := (hap.below.block w.heap.size (Nat.lt_succ_self _)).trans HRX.out
  go_wp2_with fail
  refine (drawMach hrd (by omega)).mono ?_
  rintro e1 w2 ⟨a', m, c', zs, x, y, rfl, hown, hm, _, hap2⟩
  have hlt := lt_of_block hS1
  have hS2 : ResM (.slice none 0 0) (.int .i64 0) (.int .i64 0) w.heap.size w2 := (hap2.block w.heap.size hlt (by omega)).trans hS1
  have hb0 : Below w.heap.size w (w.alloc (.cells #[.slice none 0 0, .int .i64 0, .int .i64 0] 25)) := (Below.refl _ _).alloc (Nat.le_refl _) _
  have HB := Lib.hid (below_three (R := w.heap.size) ((hb0.trans (hap.below.mono (Nat.le_succ _))).trans (hap2.below.mono (Nat.le_succ _))) (Nat.le_refl _) (.slice a' m c') (.int .i64 x) (.int .i64 y))
  have HF := Lib.hid (hS2.stored (.slice a' m c') (.int .i64 x) (.int .i64 y))
  have HO := Lib.hid (own_three (R := w.heap.size) hown hlt (.slice a' m c') (.int .i64 x) (.int .i64 y))
  obtain ⟨f0, f1, f2, f3, f4, f5⟩ := hS2.cells
  clear hrd hap hap2 hS1 hown hb0 hS2
  go_wp2
  generalize (((w2.setCell ⟨w.heap.size, 0, none⟩ (.slice a' m c')).setCell ⟨w.heap.size, 1, none⟩ (.int .i64 x)).setCell ⟨w.heap.size, 2, none⟩ (.int .i64 y)) = wz at HF HB HO ⊢
  obtain ⟨e0, e1, e2, _⟩ := HF.out.cells
  exact bodyPost_ret (v := .agg #[.slice a' m c', .int .i64 x, .int .i64 y]) (by simp [results, Try.results28, go_sem, e0, e1, e2]) rfl ⟨a', m, c', zs, x, y, rfl, readsI_own HO.out, hm, HB.out⟩

set_option maxRecDepth 100000 in
set_option maxHeartbeats 1000000 in
theorem drawMachSingle (a : Option Addr) (n c : Nat) (w : World) (h : Bytes w a n) (hn : n ≤ 1048576) (hc : n ≤ c) :
    Calls Try.prog 32 #[.slice a n c] w (MachPicked w) := by
  have HRX := Lib.hid (resM_start w)
  go_enter Try.func32, Try.ntmps32
  go_wp2_with fail
  refine (open_rd a n c _ (bytes_alloc h (.cells #[.slice none 0 0, .int .i64 0, .int .i64 0] 25)) hn hc).mono ?_
  rintro e1 w1 ⟨n', rfl, hrd, hap⟩
  rw [World.size_alloc] at hrd hap
  simp only [World.size_alloc]
  have hS1 : ResM (.slice none 0 0) (.int .i64 0) (.int .i64 0) w.heap.size w1 := (hap.below.block w.heap.size (Nat.lt_succ_self _)).trans HRX.out
  go_wp2_with fail
  refine (drawMach hrd (by omega)).mono ?_
  rintro e1 w2 ⟨a', m, c', zs, x, y, rfl, hown, hm, _, hap2⟩
  have hlt := lt_of_block hS1
  have hS2 : ResM (.slice none 0 0) (.int .i64 0) (.int .i64 0) w.heap.size w2 := (hap2.block w.heap.size hlt (by omega)).trans hS1
  have hb0 : Below w.heap.size w (w.alloc (.cells #[.slice none 0 0, .int .i64 0, .int .i64 0] 25)) := (Below.refl _ _).alloc (Nat.le_refl _) _
  have HB := Lib.hid (below_three (R := w.heap.size) ((hb0.trans (hap.below.mono (Nat.le_succ _))).trans (hap2.below.mono (Nat.le_succ _))) (Nat.le_refl _) (.slice a' m c') (.int .i64 x) (.int .i64 y))
  have HF := Lib.hid (hS2.stored (.slice a' m c') (.int .i64 x) (.int .i64 y))
  have HO := Lib.hid (own_three (R := w.heap.size) hown hlt (.slice a' m c') (.int .i64 x) (.int .i64 y))
  obtain ⟨f0, f1, f2, f3, f4, f5⟩ := hS2.cells
  clear hrd hap hap2 hS1 hown hb0 hS2
  go_wp2
  generalize (((w2.setCell ⟨w.heap.size, 0, none⟩ (.slice a' m c')).setCell ⟨w.heap.size, 1, none⟩ (.int .i64 x)).setCell ⟨w.heap.size, 2, none⟩ (.int .i64 y)) = wz at HF HB HO ⊢
  obtain ⟨e0, e1, e2, _⟩ := HF.out.cells
  exact bodyPost_ret (v := .agg #[.slice a' m c', .int .i64 x, .int .i64 y]) (by simp [results, Try.results32, go_sem, e0, e1, e2]) rfl ⟨a', m, c', zs, x, y, rfl, readsI_own HO.out, hm, HB.out⟩

set_option maxRecDepth 100000 in
set_option maxHeartbeats 1000000 in
theorem drawMachFew (a : Option Addr) (n c : Nat) (w : World) (h : Bytes w a n) (hn : n ≤ 1048576) (hc : n ≤ c) :
    Calls Try.prog 43 #[.slice a n c] w (MachPicked w) := by
  have HRX := Lib.hid (resM_start w)
  go_enter Try.func43, Try.ntmps43
  go_wp2_with fail
  refine (open_rd a n c _ (bytes_alloc h (.cells #[.slice none 0 0, .int .i64 0, .int .i64 0] 25)) hn hc).mono ?_
  rintro e1 w1 ⟨n', rfl, hrd, hap⟩
  rw [World.size_alloc] at hrd hap
  simp only [World.size_alloc]
  have hS1 : ResM (.slice none 0 0) (.int .i64 0) (.int .i64 0) w.heap.size w1 := (hap.below.block w.heap.size (Nat.lt_succ_self _)).trans HRX.out
  go_wp2_with fail
  refine (drawMach hrd (by omega)).mono ?_
  rintro e1 w2 ⟨a', m, c', zs, x, y, rfl, hown, hm, _, hap2⟩
  have hlt := lt_of_block hS1
  have hS2 : ResM (.slice none 0 0) (.int .i64 0) (.int .i64 0) w.heap.size w2 := (hap2.block w.heap.size hlt (by omega)).trans hS1
  have hb0 : Below w.heap.size w (w.alloc (.cells #[.slice none 0 0, .int .i64 0, .int .i64 0] 25)) := (Below.refl _ _).alloc (Nat.le_refl _) _
  have HB := Lib.hid (below_three (R := w.heap.size) ((hb0.trans (hap.below.mono (Nat.le_succ _))).trans (hap2.below.mono (Nat.le_succ _))) (Nat.le_refl _) (.slice a' m c') (.int .i64 x) (.int .i64 y))
  have HF := Lib.hid (hS2.stored (.slice a' m c') (.int .i64 x) (.int .i64 y))
  have HO := Lib.hid (own_three (R := w.heap.size) hown hlt (.slice a' m c') (.int .i64 x) (.int .i64 y))
  obtain ⟨f0, f1, f2, f3, f4, f5⟩ := hS2.cells
  clear hrd hap hap2 hS1 hown hb0 hS2
  go_wp2
  generalize (((w2.setCell ⟨w.heap.size, 0, none⟩ (.slice a' m c')).setCell ⟨w.heap.size, 1, none⟩ (.int .i64 x)).setCell ⟨w.heap.size, 2, none⟩ (.int .i64 y)) = wz at HF HB HO ⊢
  obtain ⟨e0, e1, e2, _⟩ := HF.out.cells
  exact bodyPost_ret (v := .agg #[.slice a' m c', .int .i64 x, .int .i64 y]) (by simp [results, Try.results43, go_sem, e0, e1, e2]) rfl ⟨a', m, c', zs, x, y, rfl, readsI_own HO.out, hm, HB.out⟩

set_option maxRecDepth 100000 in
set_option maxHeartbeats 2000000 in
theorem sameMachine_same (a1 a2 : Option Addr) (n c1 c2 : Nat) (zs : List Int) (b e : Int) (w : World) (h1 : ReadsI w a1 n zs) (h2 : ReadsI w a2 n zs) (hn : n ≤ 1048576) :
    Calls Try.prog 31 #[.agg #[.slice a1 n c1, .int .i64 b, .int .i64 e], .agg #[.slice a2 n c2, .int .i64 b, .int .i64 e]] w fun e1 w' => e1 = .returned (.bool true) ∧ Below w.heap.size w w' := by
  have H : ∀ o1 o2, Hid (Calls Try.prog 67 #[.slice a1 n c1, .slice a2 n c2] ((w.alloc o1).alloc o2) fun e w' => e = .returned (.bool true) ∧ ∃ nd, w' = ((w.alloc o1).alloc o2).drewN nd) := fun o1 o2 =>
    Lib.hid (sameInts_same a1 a2 n c1 c2 zs _ ((h1.alloc _).alloc _) ((h2.alloc _).alloc _) hn)
  clear h1 h2
  go_enter Try.func31, Try.ntmps31
  go_wp2_with fail
  refine (H _ _).out.mono ?_
  rintro e1 w1 ⟨rfl, nd, rfl⟩
  go_wp2
  go_ret
  exact ⟨rfl, below_drewN (((Below.refl _ _).alloc (Nat.le_refl _) _).alloc (by simp) _) _⟩

end Go.Proofs.Ytjaifkpmhcekcaa
