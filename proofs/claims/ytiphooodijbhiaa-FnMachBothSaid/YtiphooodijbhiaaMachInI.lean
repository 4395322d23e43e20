/-
  The walks of the program's MachIn and MachTakes.
-/
import Derived.Test.YtiphooodijbhiaaMachAtI
namespace Go.Proofs.Ytiphooodijbhiaa
open Go.RowKit
set_option linter.unusedVariables false

theorem implIn (a : Option Addr) (n c : Nat) (zs : List Int) (b e : Int) (w : World) (h : ReadsI w a n zs) (hn : n ≤ 1048576) :
    Calls Try.prog 32 #[.agg #[.slice a n c, .int .i64 b, .int .i64 e]] w fun e1 w' => e1 = .returned (.bool (okM zs b e)) ∧ Below w.heap.size w w' := by
  have H := Lib.hid (h.alloc (.cells #[.slice a n c, .int .i64 b, .int .i64 e] 25))
  clear h
  go_enter Try.func32, Try.ntmps32
  go_wp2_with fail
  refine (machFits_is a n c zs b e _ H.out hn).mono ?_
  rintro e1 w1 ⟨rfl, hb⟩
  have HB := Lib.hid (boxed hb)
  clear hb
  go_wp2
  go_ret
  exact ⟨rfl, HB.out⟩

theorem implTakes (a : Option Addr) (n c : Nat) (zs : List Int) (b e k : Int) (w : World) (h : ReadsI w a n zs) (hn : n ≤ 1048576) :
    Calls Try.prog 16 #[.agg #[.slice a n c, .int .i64 b, .int .i64 e], .int .i64 k] w fun e1 w' => e1 = .returned (.bool (takesV zs b e k)) ∧ Below w.heap.size w w' := by
  have HCALL := Lib.hid (implAt a n c zs b e k _ (h.alloc (.cells #[.slice a n c, .int .i64 b, .int .i64 e] 25)) hn)
  have HBX := Lib.hid (boxM_start a n c b e w 25)
  clear h
  cases ho : okAt zs b e k
  · have hv : takesV zs b e k = false := by unfold takesV; rw [ho]; rfl
    rw [hv]
    clear hv
    go_enter Try.func16, Try.ntmps16
    go_wp2_with fail
    refine HCALL.out.mono ?_
    rw [ho]
    rintro e1 w1 ⟨rfl, hb⟩
    have HB := Lib.hid (boxed hb)
    clear hb ho
    go_wp2
    go_ret
    exact ⟨rfl, HB.out⟩
  · have hm : okM zs b e = true := by
      unfold okAt at ho; rw [Bool.and_eq_true] at ho; exact ho.1
    obtain ⟨l, n', s, t, rfl, hl, rfl, rfl, hg⟩ := okM_good hm
    obtain ⟨V, hV⟩ : ∃ V, V = atV (castM l) s t k := ⟨_, rfl⟩
    have hVa : V = afterN l s k.toNat := by rw [hV]; unfold atV; rw [ho, if_pos rfl, natsM_cast, toNat_cast]
    have hlt : V < 2 ^ 62 := by rw [hVa]; exact lt62 (after_lt hg.good hg.starts _) (by have := hg.le; omega)
    have ht : t < 2 ^ 62 := lt62 hg.ends (by have := hg.le; omega)
    have hbit : (Go.bits .and .i64 (V : Nat) (t : Nat) != 0) = takesV (castM l) s t k := by
      rw [bit_and _ _ hlt ht]
      unfold takesV
      rw [ho, Bool.true_and]
      unfold fM takesF
      rw [natsM_cast, toNat_cast, toNat_cast, ← hVa, Bool.eq_iff_iff, bne_iff_ne, bne_iff_ne]
      omega
    rw [← hV] at HCALL
    generalize takesV (castM l) s t k = B at hbit ⊢
    clear hV hVa hlt ht hg hm hl
    go_enter Try.func16, Try.ntmps16
    go_wp2_with fail
    refine HCALL.out.mono ?_
    rw [ho]
    rintro e1 w1 ⟨rfl, hb⟩
    have HB := Lib.hid (HBX.out.step hb)
    have q2 := HB.out.q2
    clear hb ho
    go_wp2
    go_ret
    exact ⟨rfl, HB.out.below⟩

end Go.Proofs.Ytiphooodijbhiaa
