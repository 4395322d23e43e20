/-
  The walk of the program's MachAt.
-/
import Derived.Test.YtiphooodijbhiaaAfterI
namespace Go.Proofs.Ytiphooodijbhiaa
open Go.RowKit
set_option linter.unusedVariables false

set_option maxHeartbeats 1000000 in
theorem implAt (a : Option Addr) (n c : Nat) (zs : List Int) (b e k : Int) (w : World) (h : ReadsI w a n zs) (hn : n ≤ 1048576) :
    Calls Try.prog 18 #[.agg #[.slice a n c, .int .i64 b, .int .i64 e], .int .i64 k] w fun e1 w' => e1 = .returned (.tuple #[.int .i64 (atV zs b e k), .bool (okAt zs b e k)]) ∧ Below w.heap.size w w' := by
  have H := Lib.hid (h.alloc (.cells #[.slice a n c, .int .i64 b, .int .i64 e] 25))
  have HBX := Lib.hid (boxM_start a n c b e w 25)
  clear h
  cases ho : okM zs b e
  · have ha : okAt zs b e k = false := by unfold okAt; rw [ho]; rfl
    have hv : atV zs b e k = 0 := by unfold atV; rw [ha]; rfl
    rw [ha, hv]
    clear ha hv
    go_enter Try.func18, Try.ntmps18
    go_wp2_with fail
    refine (machFits_is a n c zs b e _ H.out hn).mono ?_
    rw [ho]
    rintro e1 w1 ⟨rfl, hb⟩
    have HB := Lib.hid (boxed hb)
    clear hb ho
    go_wp2
    go_ret2
    exact ⟨rfl, HB.out⟩
  · cases hd : decide (0 ≤ k ∧ k ≤ 1000000)
    · have ha : okAt zs b e k = false := by unfold okAt; rw [ho, hd]; rfl
      have hv : atV zs b e k = 0 := by unfold atV; rw [ha]; rfl
      rw [ha, hv]
      clear ha hv
      go_enter Try.func18, Try.ntmps18
      go_wp2_with fail
      refine (machFits_is a n c zs b e _ H.out hn).mono ?_
      rw [ho]
      rintro e1 w1 ⟨rfl, hb⟩
      have HB := Lib.hid (boxed hb)
      clear hb ho
      go_wp2_with fail
      refine (btw_is k 0 1000000 _).mono ?_
      rw [hd]
      rintro e1 w2 ⟨rfl, rfl⟩
      clear hd
      go_wp2
      go_ret2
      exact ⟨rfl, HB.out⟩
    · have ha : okAt zs b e k = true := by unfold okAt; rw [ho, hd]; rfl
      obtain ⟨l, n', s, t, rfl, hl, rfl, rfl, hg⟩ := okM_good ho
      obtain ⟨p, q, hc, hpq⟩ := good_comes hg
      have hnn : n' = n := by rw [← hl]; exact H.out.len
      subst hnn
      obtain ⟨kk, rfl⟩ := Int.eq_ofNat_of_zero_le (of_decide_eq_true hd).1
      have hk := (of_decide_eq_true hd).2
      have hk2 : kk ≤ 1000000 := by omega
      have hv : atV (castM l) s t kk = afterN l s (placeM p q kk) := by
        unfold atV; rw [ha, if_pos rfl, natsM_cast, toNat_cast, toNat_cast, after_place hc]
      rw [ha, hv]
      have HPL : Hid (placeM p q kk < p + q) := Lib.hid (placeM_lt hc.pos kk)
      have hq := hc.pos
      have HC := Lib.hid hc
      have HGD := Lib.hid hg
      clear ha hv hc hg hk
      go_enter Try.func18, Try.ntmps18
      go_wp2_with fail
      refine (machFits_is a n' c (castM l) s t _ H.out hn).mono ?_
      rw [ho]
      rintro e1 w1 ⟨rfl, hb⟩
      have HB1 := Lib.hid (HBX.out.step hb)
      have H1 := Lib.hid (H.out.below hb (Nat.le_refl _))
      have q0 := HB1.out.q0
      have q1 := HB1.out.q1
      have q2 := HB1.out.q2
      clear hb ho
      go_wp2_with fail
      refine (btw_is kk 0 1000000 _).mono ?_
      rw [hd]
      rintro e1 w2 ⟨rfl, rfl⟩
      clear hd
      go_wp2_with fail
      refine (chain_is a n' c l s t p q _ H1.out HGD.out.good HGD.out.le HGD.out.starts HC.out hpq).mono ?_
      rintro e1 w3 ⟨A, rfl, hch, hb⟩
      have HCH := Lib.hid hch
      have HB3 := Lib.hid (HB1.out.step hb)
      clear hb hch q0 q1 q2
      go_wp2_with fail
      refine (chainAfter_is kk _ HCH.out hq hpq hk2).mono ?_
      rintro e1 w4 ⟨rfl, hb, hch⟩
      have HB4 := Lib.hid (HB3.out.step hb)
      have z := hch.set _ HPL.out
      clear hb hch
      go_wp2
      go_ret2
      exact ⟨rfl, HB4.out.below⟩

end Go.Proofs.Ytiphooodijbhiaa
