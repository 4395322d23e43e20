/-
  The walk of spec.l91Said: a term that is drawn, seldom none.
-/
import Derived.Test.YtiphooodijbhiaaDrawTerm
namespace Go.Proofs.Ytiphooodijbhiaa
open Go.RowKit
set_option linter.unusedVariables false

theorem term_less {d B C : Nat} (h : TermAt d B) (hBC : B ≤ C) : TermAt d C := by
  intro R a n c p w hr hp
  refine (h hr (by omega)).mono ?_
  rintro e w' ⟨s, p', h1, h2, h3, h4, h5, h6⟩
  exact ⟨s, p', h1, h2, by omega, by omega, h5, h6⟩
theorem term_any (d : Nat) (hd : d < 4) : TermAt d 29 := by
  have t0 : TermAt 0 1 := term_zero
  have t1 : TermAt 1 5 := @term_step 0 1 1 (by decide) (by decide) rfl @t0
  have t2 : TermAt 2 13 := @term_step 1 5 2 (by decide) (by decide) rfl @t1
  have t3 : TermAt 3 29 := @term_step 2 13 3 (by decide) (by decide) rfl @t2
  have : d = 0 ∨ d = 1 ∨ d = 2 ∨ d = 3 := by omega
  rcases this with rfl | rfl | rfl | rfl
  · exact @term_less 0 1 29 @t0 (by omega)
  · exact @term_less 1 5 29 @t1 (by omega)
  · exact @term_less 2 13 29 @t2 (by omega)
  · exact @t3
theorem five_str (v : Nat) (hv : v < 5) : ∃ s : ByteArray, s.size ≤ 1 ∧ (#[Value.string ⟨#[]⟩, Value.string ⟨#[98]⟩, Value.string ⟨#[40]⟩, Value.string ⟨#[41]⟩, Value.string ⟨#[43]⟩] : Array Value)[v]? = some (.string s) := by
  have : v = 0 ∨ v = 1 ∨ v = 2 ∨ v = 3 ∨ v = 4 := by omega
  rcases this with rfl | rfl | rfl | rfl | rfl
  · exact ⟨⟨#[]⟩, by decide, rfl⟩
  · exact ⟨⟨#[98]⟩, by decide, rfl⟩
  · exact ⟨⟨#[40]⟩, by decide, rfl⟩
  · exact ⟨⟨#[41]⟩, by decide, rfl⟩
  · exact ⟨⟨#[43]⟩, by decide, rfl⟩

def SaidEnds (R : Nat) (a : Option Addr) (n c p : Nat) (w : World) (e : Ending) (w' : World) : Prop :=
  ∃ (s : ByteArray) (p' : Nat), e = .returned (.string s) ∧ s.size ≤ 30 ∧ p' ≤ p + 40 ∧ Rd R a n c p' w' ∧ Apart R w w'

set_option maxRecDepth 100000 in
set_option maxHeartbeats 4000000 in
theorem said_rd {R : Nat} {a : Option Addr} {n c p : Nat} {w : World} (h : Rd R a n c p w) (hp : p ≤ 1000) :
    Calls Try.prog 83 #[.pointer (some ⟨R, 0, none⟩)] w (SaidEnds R a n c p w) := by
  have hR := h.lt
  go_enter Try.func83, Try.ntmps83
  go_wp2_with fail
  refine (pick_rd h 4 (by omega) (by omega) (by omega)).mono ?_
  rintro e w1 ⟨d, rfl, hd, hrd1, hap1, hz1⟩
  clear hz1
  go_wp2_with fail
  refine (term_any d hd hrd1 (by omega)).mono ?_
  rintro e w2 ⟨s, p2, rfl, hs1, hs2, hp2, hrd2, hap2⟩
  have HA2 := Lib.hid (hap1.trans hap2)
  clear hap1 hap2 hrd1
  go_wp2_with fail
  refine (pick_rd hrd2 16 (by omega) (by omega) (by omega)).mono ?_
  rintro e w3 ⟨z, rfl, hz, hrd3, hap3, hz3⟩
  clear hz3
  have HA3 := Lib.hid (HA2.out.trans hap3)
  clear hap3 hrd2 HA2
  by_cases h0 : z = 0
  · subst h0
    go_wp2_with fail
    refine (pick_rdi hrd3 ((s.size : Int) + 1) (s.size + 1) (by omega) (by omega) (by omega) (by omega)).mono ?_
    rintro e w4 ⟨k, rfl, hk, hrd4, hap4, hz4⟩
    clear hz4
    have hR4 := hrd4.lt
    have HA4 := Lib.hid (HA3.out.trans hap4)
    have HR4 := Lib.hid hrd4
    have hk1 : (k : Int) ≤ (s.size : Int) := by omega
    have hk2 : k ≤ s.size := by omega
    have hk0 : (0 : Int) ≤ (k : Int) := by omega
    have hk3 : ¬ (k : Int) < 0 := by omega
    have hk4 : ¬ (s.size : Int) < (k : Int) := by omega
    clear hap4 hrd3 hrd4 HA3
    go_wp2
    go_region_with (first
      | (go_at_call 60; (with_reducible refine (pick_rdi (a := a) (n := n) (c := c) (p := p2 + 1 + 1) ?_ (5 : Int) 5 rfl (by omega) (by omega) (by omega)).mono ?_); rdt HR4; rintro e w5 ⟨v, rfl, hv, hrd5, hap5, hsz5⟩; have hR5 := hrd5.lt; have HR5 := Lib.hid hrd5; have HA5 := Lib.hid (show Apart R w w5 from (by refine Apart.trans ?_ hap5; apt HA4)); obtain ⟨t, ht1, ht⟩ := five_str v hv; have ht2 := fun T W => four_new (T := T) ht W; have hv5 : (v : Int) < 5 := (by omega); (first | (with_reducible have htab5 := table_new hap5 hR4) | (with_reducible have htab5 := table_newD hap5 hR4) | (with_reducible have htab5 := table_newM hap5 hR4) | (with_reducible have htab5 := table_newN hap5 hR4) | skip); (first | have hcell5 := table_at htab5 ht | skip); clear hrd5 hsz5))
    all_goals
      go_wp2
      go_ret
      refine ⟨_, p2 + 1 + 1 + 1, rfl, ?_, ?_, ?_, ?_⟩
      · rw [ByteArray.size_append, ByteArray.size_append, ByteArray.size_extract, ByteArray.size_extract]; omega
      · omega
      · rdt HR5
      · apt HA5
  · have z0 : ((z : Int) == 0) = false := by rw [beq_eq_false_iff_ne]; omega
    go_wp2
    go_ret
    exact ⟨s, _, rfl, by omega, by omega, hrd3, HA3.out⟩

end Go.Proofs.Ytiphooodijbhiaa
