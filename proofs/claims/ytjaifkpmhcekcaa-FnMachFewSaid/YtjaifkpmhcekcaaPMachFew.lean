/-
  The walk of the law FnMachFew.
-/
import Derived.Test.YtjaifkpmhcekcaaPMachBase
import Derived.Test.YtjaifkpmhcekcaaMachFewI
import Derived.Test.YtjaifkpmhcekcaaSet6S
set_option linter.unusedVariables false
set_option linter.unusedSimpArgs false
namespace Go.Proofs.Ytjaifkpmhcekcaa
open Go.RowKit

theorem hT_ok {f : Nat → Bool} {T : ByteArray} (h : SetIs true f T) : okS T = true := (h.1 rfl).told.ok

set_option maxRecDepth 100000 in
set_option maxHeartbeats 4000000 in
theorem pMachFew (a : Option Addr) (n c : Nat) (zs : List Int) (w : World) (hr : IsRow .u8 w a n c zs) (m0 : Int) (hg : 0 < w.heap.size) (hm : w.cell? ⟨0, 0, none⟩ = some (.int .i64 m0)) :
    Calls Try.prog 11 #[.slice a n c] w fun e w' => e = .returned (.bool true) ∧ Below w.heap.size w w' := by
  by_cases hn : n ≤ 1048576
  · have hB := Lib.hid hr.bytes
    have hC := Lib.hid hr.cap
    have HLA : Hid (LibAt m0 w) := Lib.hid ⟨hg, hm⟩
    clear hg hm
    clear hr
    go_enter Try.func11, Try.ntmps11
    go_wp2_with fail
    refine (drawMachFew a n c _ hB.out hn hC.out).mono ?_
    rintro e1 w1 ⟨a', m, c', ys, x, y, rfl, hrd, hm12, hb1⟩
    have HB := Lib.hid hb1
    have RM := Lib.hid hrd
    have BX1 := Lib.hid (boxM_start a' m c' x y w1 25)
    clear hb1 hrd
    have p0 := BX1.out.q0
    have p1 := BX1.out.q1
    have p2 := BX1.out.q2
    go_wp2_with fail
    refine (implFew a' m c' ys x y m0 _ (RM.out.below BX1.out.below (Nat.le_refl _)) (by omega) (HLA.out.below (HB.out.trans (BX1.out.below.mono HB.out.size)))).mono ?_
    rintro e1 w2 ⟨⟨v, rfl, hv⟩, hx⟩
    have BX2 := Lib.hid (BX1.out.step hx)
    have HV := Lib.hid hv
    clear hv
    clear hx p0 p1 p2
    have p0 := BX2.out.q0
    have p1 := BX2.out.q1
    have p2 := BX2.out.q2
    go_wp2_with fail
    refine (specFew a' m c' ys x y _ (RM.out.below BX2.out.below (Nat.le_refl _)) (by omega)).mono ?_
    rintro e1 w3 ⟨⟨v2, rfl, hv2⟩, hx⟩
    have BX3 := Lib.hid (BX2.out.step hx)
    obtain rfl := numIs_unique many_unique HV.out hv2
    clear hv2
    clear hx p0 p1 p2
    have p0 := BX3.out.q0
    have p1 := BX3.out.q1
    have p2 := BX3.out.q2
    obtain ⟨ok, hok⟩ : ∃ ok, ok = okM ys x y := ⟨_, rfl⟩
    rw [← hok]
    cases ok
    · clear hok
      go_wp2
      go_ret
      exact ⟨rfl, (HB.out.trans (BX3.out.below.mono HB.out.size))⟩
    · have HOK := Lib.hid hok.symm
      clear hok
      go_wp2_with fail
      refine (implSet a' m c' ys x y _ (RM.out.below BX3.out.below (Nat.le_refl _)) (by omega)).mono ?_
      rintro e1 w4 ⟨⟨T, rfl, hT⟩, hx⟩
      have BX4 := Lib.hid (BX3.out.step hx)
      rw [HOK.out] at hT ⊢
      have HT := Lib.hid hT
      clear hT
      clear hx p0 p1 p2
      have p0 := BX4.out.q0
      have p1 := BX4.out.q1
      have p2 := BX4.out.q2
      go_wp2_with fail
      refine (implMany T m0 _ (setIs_size HT.out) (HLA.out.below (HB.out.trans (BX4.out.below.mono HB.out.size)))).mono ?_
      rintro e w5 ⟨hN, hx⟩
      have hN2 := few_of HT.out hN
      have hq := (hT_ok HT.out)
      obtain ⟨v3, rfl, hv3⟩ := hN
      obtain ⟨v4, he, hv4⟩ := hN2
      rw [hq] at he ⊢
      have hv := HV.out
      rw [HOK.out] at hv
      injection he with he
      injection he with he
      have hv34 : v3 = v4 := by
        have := congrArg (fun a : Array Value => a[0]?) he
        simp at this
        omega
      subst hv34
      obtain rfl := numIs_unique many_unique hv hv4
      have HE := Lib.hid ((HB.out.trans (BX4.out.below.mono HB.out.size)).trans (hx.mono (HB.out.trans (BX4.out.below.mono HB.out.size)).size))
      clear hx hq hv hv3 hv4 he
      go_wp2
      go_ret
      exact ⟨rfl, HE.out⟩
  · have hd : (1048576 : Int) < (n : Int) := by omega
    go_enter Try.func11, Try.ntmps11
    go_wp2
    go_ret
    exact ⟨rfl, Below.refl _ _⟩
end Go.Proofs.Ytjaifkpmhcekcaa
