/-
  The walks of the program's MachSet and MachFew.
-/
import Derived.Test.YtiphooodijbhiaaMachAtI
import Derived.Test.YtiphooodijbhiaaTakenI
import Derived.Test.YtiphooodijbhiaaFirst
import Derived.Test.YtiphooodijbhiaaMachTidy
import Derived.Test.YtiphooodijbhiaaLoose
namespace Go.Proofs.Ytiphooodijbhiaa
open Go.RowKit
set_option linter.unusedVariables false

theorem split_parts {f : Nat → Bool} {p q : Nat} {T R : ByteArray} (hq : 0 < q) (hp6 : p ≤ 60) (hq6 : q ≤ 60) (hper : ∀ n, p ≤ n → f (n + q) = f n) (hT : SignsIs T (part f 0 p)) (hR : SignsIs R (part f p q)) : ∃ s, IsSplit s T R ∧ fS s = f := by
  have hit := textOf_isText (part f 0 p) (part f p q) (by rw [part_length]; exact hp6) (by rw [part_length]; exact hq6) (by rw [part_length]; exact hq)
  have e1 : setTail (textOf (part f 0 p) (part f p q)) = signsOf (part f 0 p) := text_tail hit
  have e2 : setRing (textOf (part f 0 p) (part f p q)) = signsOf (part f p q) := text_ring hit
  have hl : (⟨(textOf (part f 0 p) (part f p q)).toArray⟩ : ByteArray).data.toList = textOf (part f 0 p) (part f p q) := rfl
  have sT : setT ⟨(textOf (part f 0 p) (part f p q)).toArray⟩ = part f 0 p := by unfold setT; rw [hl, e1, sb_signsOf]
  have sR : setR ⟨(textOf (part f 0 p) (part f p q)).toArray⟩ = part f p q := by unfold setR; rw [hl, e2, sb_signsOf]
  have zT : T.size = p := by rw [← size_eq]; unfold SignsIs at hT; rw [hT, signsOf_length, part_length]
  have zR : R.size = q := by rw [← size_eq]; unfold SignsIs at hR; rw [hR, signsOf_length, part_length]
  unfold SignsIs at hT hR
  refine ⟨⟨(textOf (part f 0 p) (part f p q)).toArray⟩, ⟨by rw [sT, hT, sb_signsOf], by rw [sR, hR, sb_signsOf], by omega, by omega, by omega, by rw [hl, e2, hR]⟩, ?_⟩
  rw [fS_eq, sT, sR]
  exact hasB_part hq hper

set_option maxRecDepth 100000 in
set_option maxHeartbeats 2000000 in
theorem implSet (a : Option Addr) (n c : Nat) (zs : List Int) (b e : Int) (w : World) (h : ReadsI w a n zs) (hn : n ≤ 1048576) :
    Calls Try.prog 25 #[.agg #[.slice a n c, .int .i64 b, .int .i64 e]] w fun e1 w' => (∃ T, e1 = .returned (.tuple #[.string T, .bool (okM zs b e)]) ∧ SetIs (okM zs b e) (fM zs b e) T) ∧ Below w.heap.size w w' := by
  have H := Lib.hid (h.alloc (.cells #[.slice a n c, .int .i64 b, .int .i64 e] 25))
  have HBX := Lib.hid (boxM_start a n c b e w 25)
  clear h
  cases ho : okM zs b e
  · go_enter Try.func25, Try.ntmps25
    go_wp2_with fail
    refine (machFits_is a n c zs b e _ H.out hn).mono ?_
    rw [ho]
    rintro e1 w1 ⟨rfl, hb⟩
    have HB := Lib.hid (boxed hb)
    clear hb ho
    go_wp2
    go_ret2
    exact ⟨⟨_, rfl, And.intro (fun h => by cases h) (fun _ => rfl)⟩, HB.out⟩
  · obtain ⟨l, n', s, t, rfl, hl, rfl, rfl, hg⟩ := okM_good ho
    obtain ⟨p, q, hc, hpq⟩ := good_comes hg
    obtain ⟨m, r, ht, hm, hr⟩ := mach_tidy t hc hpq
    have hnn : n' = n := by rw [← hl]; exact H.out.len
    subst hnn
    have hf : fM (castM l) s t = takesF l s t := by unfold fM; rw [natsM_cast, toNat_cast, toNat_cast]
    rw [hf]
    have HT := Lib.hid ht
    have hq := hc.pos
    have HC := Lib.hid hc
    have HGD := Lib.hid hg
    have ht62 : t < 2 ^ 62 := lt62 hg.ends (by have := hg.le; omega)
    have HG32 : Hid (∀ i, afterN l s i < 32) := Lib.hid fun i => Nat.lt_of_lt_of_le (after_lt hg.good hg.starts i) (Nat.pow_le_pow_right (by decide) hg.le)
    clear hc hg ht hf
    go_enter Try.func25, Try.ntmps25
    go_wp2_with fail
    refine (machFits_is a n' c (castM l) s t _ H.out hn).mono ?_
    rw [ho]
    rintro e1 w1 ⟨rfl, hb⟩
    have HB1 := Lib.hid ((HBX.out.step hb).step (Below.refl _ _).drew)
    have H1 := Lib.hid ((H.out.below hb (Nat.le_refl _)).below (Below.refl w1.heap.size w1).drew (Nat.le_refl _))
    have q0 := (HBX.out.step hb).q0
    have q1 := (HBX.out.step hb).q1
    have q2 := (HBX.out.step hb).q2
    clear hb ho
    go_wp2
    go_region_with (first
      | (go_at_call 66; (with_reducible refine (chain_is a n' c l s t p q _ H1.out HGD.out.good HGD.out.le HGD.out.starts HC.out hpq).mono ?_); rintro e1 w3 ⟨A, rfl, hch, hb⟩; have HCH := Lib.hid hch; have HB3 := Lib.hid (HB1.out.step hb); have y2 := HB3.out.q2; clear hb hch)
      | (go_at_call 74; (with_reducible refine (taken_is t _ HCH.out hq hpq HG32.out ht62).mono ?_); rintro e1 w4 ⟨T, R, rfl, hT, hR, hb⟩; have HTT := Lib.hid hT; have HRR := Lib.hid hR; have HB4 := Lib.hid (HB3.out.step hb); obtain ⟨X, hX, hfX⟩ := split_parts hq (by omega) (by omega) (takes_round HC.out t) hT hR; have HX := Lib.hid hX; have HFX := Lib.hid hfX; clear hb hT hR hX hfX)
      | (go_at_call 75; (with_reducible refine (first_any X T R _ HX.out).mono ?_); rw [HFX.out]; rintro e1 w5 ⟨rfl, hb⟩; have HB5 := Lib.hid (HB4.out.step hb); clear hb)
      | (go_at_call 76; (with_reducible refine (text_any (takesF l s t) m r _ HT.out hm hr).mono ?_); rintro e1 w6 ⟨rfl, hb⟩; have HB6 := Lib.hid (HB5.out.step hb); clear hb))
    all_goals
      go_wp2
      go_ret2
      exact ⟨⟨_, rfl, And.intro (fun _ => ⟨m, r, HT.out, hm, hr, rfl⟩) (fun h => by cases h)⟩, HB6.out.below⟩

end Go.Proofs.Ytiphooodijbhiaa
