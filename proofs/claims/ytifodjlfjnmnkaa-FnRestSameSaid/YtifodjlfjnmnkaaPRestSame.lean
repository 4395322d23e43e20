/-
  The walk of the law FnRestSame.
-/
import Derived.Test.YtifodjlfjnmnkaaPRestBase
import Derived.Test.YtifodjlfjnmnkaaSpecSameRest
import Derived.Test.YtifodjlfjnmnkaaRestSameI
import Derived.Test.YtifodjlfjnmnkaaRestTextI
set_option linter.unusedVariables false
set_option linter.unusedSimpArgs false
namespace Go.Proofs.Ytifodjlfjnmnkaa
open Go.RowKit

theorem ask_same {s : ByteArray} (h : okS s = true) (i k : Nat) (b : Bool) (hb : b = true ↔ downF (fS s) i = downF (fS s) k) (m : Int) (W : World) (hs : s.size ≤ 1048576) (hi : i ≤ 1000) (hk : k ≤ 1000) (hL : LibAt m W) :
    Calls Try.prog 26 #[.string s, .int .i64 i, .int .i64 k] W fun e w' => e = .returned (.bool b) ∧ Below W.heap.size W w' := by
  obtain ⟨m1, q1, ht, hm, hq⟩ := tidy_there h
  refine (implSameRest_on s i k m1 q1 m W hs hL h ht hm hq hi hk).mono fun e w' ⟨⟨c, he, hc⟩, hb2⟩ => ⟨?_, hb2⟩
  rw [he]
  have e2 : c = true ↔ b = true := hc.trans hb.symm
  cases b <;> cases c <;> simp at e2 <;> rfl
theorem down_next {f : Nat → Bool} {i k : Nat} (h : downF f i = downF f k) : downF f (i + 1) = downF f (k + 1) := by
  funext n
  have := congrFun h (n + 1)
  unfold downF at this ⊢
  rw [show n + (i + 1) = n + 1 + i from by omega, show n + (k + 1) = n + 1 + k from by omega]
  exact this
theorem rest_both {s T U : ByteArray} {i k : Nat} {p q : Bool} (ho : okS s = true) (h1 : (okS s && inR (i : Int) 0 1000) = true) (h2 : (okS s && inR (k : Int) 0 1000) = true) (hT : MakeIs (okS s && inR (i : Int) 0 1000) (downF (fS s) ((i : Int).toNat)) T p)
    (hU : MakeIs (okS s && inR (k : Int) 0 1000) (downF (fS s) ((k : Int).toNat)) U q) (h : downF (fS s) i = downF (fS s) k) : p = true ∧ q = true ∧ T = U := by
  rw [Int.toNat_natCast] at hT hU
  obtain ⟨m, q', ht, hm, hq⟩ := tidy_there ho
  obtain ⟨rfl, rfl⟩ := made_tidy (down_tidy ht i) (by omega) hq (hT.1 h1)
  obtain ⟨rfl, rfl⟩ := made_tidy (down_tidy ht k) (by omega) hq (hU.1 h2)
  exact ⟨rfl, rfl, tidyText_same (f := downF (fS s) i) ⟨m - i, q', down_tidy ht i, by omega, hq, rfl⟩ (by rw [h]; exact ⟨m - k, q', down_tidy ht k, by omega, hq, rfl⟩)⟩
set_option maxRecDepth 100000 in
set_option maxHeartbeats 4000000 in
theorem pRestSame (a : Option Addr) (n c : Nat) (zs : List Int) (w : World) (hr : IsRow .u8 w a n c zs) (m : Int) (hg : 0 < w.heap.size) (hm : w.cell? ⟨0, 0, none⟩ = some (.int .i64 m)) :
    Calls Try.prog 6 #[.slice a n c] w fun e w' => e = .returned (.bool true) ∧ Below w.heap.size w w' := by
  by_cases hn : n ≤ 1048576
  · have hL : LibAt m w := ⟨hg, hm⟩
    clear hg hm
    have hB := Lib.hid hr.bytes
    have hC := Lib.hid hr.cap
    clear hr
    go_enter Try.func6, Try.ntmps6
    go_wp2_with fail
    refine (drawRestSame a n c _ hB.out hn hC.out).mono ?_
    rintro e w1 ⟨s, x, y, rfl, hs, hx, hy, hb1⟩
    have HB1 := Lib.hid hb1
    have HL1 := Lib.hid (hL.below hb1)
    clear hb1
    go_wp2_with fail
    refine (implSameRest s x y m _ (by omega) HL1.out).mono ?_
    rintro e w2 ⟨⟨b, rfl, hm2⟩, hx2⟩
    have HB2 := Lib.hid (below_step HB1.out hx2)
    have HL2 := Lib.hid (HL1.out.below hx2)
    have HM := Lib.hid hm2
    clear hx2 hm2
    go_wp2_with fail
    refine (specSameRest s x y _ (by omega)).mono ?_
    rintro e w3 ⟨⟨b2, rfl, hm3⟩, hx3⟩
    have HB3 := Lib.hid (below_step HB2.out hx3)
    have HL3 := Lib.hid (HL2.out.below hx3)
    obtain rfl := twinIs_unique HM.out hm3
    clear hx3 hm3
    cases b
    · go_wp2
      go_ret
      exact ⟨ret_bool (by simp), HB3.out⟩
    · have hok : (okS s && inR x 0 1000 && inR y 0 1000) = true := by
        cases h : (okS s && inR x 0 1000 && inR y 0 1000)
        · exact (HM.out.2 h).symm
        · rfl
      have hd := (HM.out.1 hok).1 rfl
      obtain ⟨h12, h3⟩ := and_both hok
      obtain ⟨h1, h2⟩ := and_both h12
      obtain ⟨i, rfl, hi⟩ := inR_nat h2
      obtain ⟨k, rfl, hk⟩ := inR_nat h3
      rw [Int.toNat_natCast, Int.toNat_natCast] at hd
      have HO := Lib.hid h1
      have HD := Lib.hid hd
      have HIN : Hid ((okS s && inR (i : Int) 0 1000) = true ∧ (okS s && inR (k : Int) 0 1000) = true) := Lib.hid ⟨by rw [h1, h2]; rfl, by rw [h1, h3]; rfl⟩
      clear HM hok h12 h1 h2 h3 hd
      go_wp2_with fail
      refine (implRest s i m _ (by omega) HL3.out).mono ?_
      rintro e w4 ⟨⟨T, p, rfl, hm4⟩, hx4⟩
      have HB4 := Lib.hid (below_step HB3.out hx4)
      have HL4 := Lib.hid (HL3.out.below hx4)
      have HT4 := Lib.hid hm4
      clear hx4 hm4
      go_wp2_with fail
      refine (implRest s k m _ (by omega) HL4.out).mono ?_
      rintro e w5 ⟨⟨U, q, rfl, hm5⟩, hx5⟩
      have HB5 := Lib.hid (below_step HB4.out hx5)
      have HL5 := Lib.hid (HL4.out.below hx5)
      have HT5 := Lib.hid hm5
      clear hx5 hm5
      obtain ⟨hp, hq, hTU⟩ := rest_both HO.out HIN.out.1 HIN.out.2 HT4.out HT5.out HD.out
      subst hp
      subst hq
      subst hTU
      clear HT4 HT5
      go_wp2_with fail
      refine (ask_same HO.out k i true ⟨fun _ => HD.out.symm, fun _ => rfl⟩ m _ (by omega) hk hi HL5.out).mono ?_
      rintro e w6 ⟨rfl, hx6⟩
      have HB6 := Lib.hid (below_step HB5.out hx6)
      have HL6 := Lib.hid (HL5.out.below hx6)
      clear hx6
      by_cases h1 : i = 1000
      · subst h1
        go_wp2
        go_ret
        exact ⟨ret_bool (by simp), HB6.out⟩
      · have h1I : ¬ (i : Int) = 1000 := by omega
        by_cases h2 : k = 1000
        · subst h2
          go_wp2
          go_ret
          exact ⟨ret_bool (by simp), HB6.out⟩
        · have h2I : ¬ (k : Int) = 1000 := by omega
          have hcall := fun W hW => ask_same (b := true) HO.out (i + 1) (k + 1) ⟨fun _ => down_next HD.out, fun _ => rfl⟩ m W (by omega) (by omega) (by omega) hW
          rw [Int.natCast_add, Int.natCast_add] at hcall
          go_wp2_with fail
          refine (hcall _ HL6.out).mono ?_
          rintro e w7 ⟨rfl, hx7⟩
          have HB7 := Lib.hid (below_step HB6.out hx7)
          have HL7 := Lib.hid (HL6.out.below hx7)
          clear hx7 hcall
          go_wp2
          go_ret
          exact ⟨ret_bool (by simp), HB7.out⟩
  · have hd : (1048576 : Int) < (n : Int) := by omega
    go_enter Try.func6, Try.ntmps6
    go_wp2
    go_ret
    exact ⟨rfl, Below.refl _ _⟩
end Go.Proofs.Ytifodjlfjnmnkaa
