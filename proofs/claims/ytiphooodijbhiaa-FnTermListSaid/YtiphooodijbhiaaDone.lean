/-
  The walk of spec.l1Done.
-/
import Derived.Test.YtiphooodijbhiaaWrite
import Derived.Test.YtiphooodijbhiaaTidyText
namespace Go.Proofs.Ytiphooodijbhiaa
open Go.RowKit

set_option maxHeartbeats 400000 in
theorem done_gen (t r : List Bool) (a1 : Option Addr) (n1 c1 : Nat) (a2 : Option Addr) (n2 c2 : Nat) (w : World) (h : LessIn w t r a1 n1 c1 a2 n2 c2) :
    Calls Try.prog 149 #[.agg #[.slice a1 n1 c1, .slice a2 n2 c2]] w fun e w' => MadeEnd (hasB t r) e ∧ Below w.heap.size w w' := by
  have HIn := Lib.hid (h.below (B := w.heap.size) ((Below.refl _ _).alloc (Nat.le_refl _) (.cells #[.slice a1 n1 c1, .slice a2 n2 c2] 75)) (Nat.le_refl _))
  clear h
  go_enter Try.func149, Try.ntmps149
  go_wp2_with fail
  refine (less_any _ t r a1 n1 c1 a2 n2 c2 _ rfl HIn.out).mono ?_
  rintro e w2 ⟨b1, m, e1, b2, q, e2, rfl, hb2, hout⟩
  have HT := Lib.hid hout.tidy
  have HL := Lib.hid (hout.lies.below (B := w2.heap.size) ((Below.refl _ _).alloc (Nat.le_refl _) (.cells #[.slice b1 m e1, .slice b2 q e2] 75)) (Nat.le_refl _))
  have HB := Lib.hid (((Below.refl w.heap.size w).alloc (Nat.le_refl _) (.cells #[.slice a1 n1 c1, .slice a2 n2 c2] 75)).trans (hb2.mono (by simp)))
  clear hout hb2
  by_cases hm : m ≤ 60
  · by_cases hq : q ≤ 60
    · go_wp2_with fail
      refine (write_any _ _ b1 m e1 b2 q e2 _ HL.out).mono ?_
      rintro e w3 ⟨rfl, hb3⟩
      have HB3 := Lib.hid ((HB.out.alloc HB.out.size _).trans (hb3.mono (by have := HB.out.size; simp; omega)))
      clear hb3
      go_wp2
      go_ret2
      exact ⟨⟨_, _, rfl, .inl ⟨rfl, m, q, HT.out, hm, hq, rfl⟩⟩, HB3.out⟩
    · go_wp2
      go_ret2
      exact ⟨⟨_, _, rfl, .inr ⟨rfl, rfl, m, q, HT.out, fun h => hq h.2⟩⟩, HB.out.alloc HB.out.size _⟩
  · go_wp2
    go_ret2
    exact ⟨⟨_, _, rfl, .inr ⟨rfl, rfl, m, q, HT.out, fun h => hm h.1⟩⟩, HB.out.alloc HB.out.size _⟩

theorem done_any (t r : List Bool) (a1 : Option Addr) (n1 c1 : Nat) (a2 : Option Addr) (n2 c2 : Nat) (w : World) (h : LessIn w t r a1 n1 c1 a2 n2 c2) (h1 : n1 ≤ 60) (h2 : n2 ≤ 60) :
    Calls Try.prog 149 #[.agg #[.slice a1 n1 c1, .slice a2 n2 c2]] w fun e w' => ∃ T, e = .returned (.tuple #[.string T, .bool true]) ∧ TidyText (hasB t r) T ∧ Below w.heap.size w w' := by
  refine (done_gen t r a1 n1 c1 a2 n2 c2 w h).mono ?_
  rintro e w' ⟨⟨T, b, rfl, hm⟩, hb⟩
  rcases hm with ⟨rfl, hT⟩ | ⟨_, _, m, q, ht, hn⟩
  · exact ⟨T, rfl, hT, hb⟩
  · obtain ⟨k1, k2⟩ := tidy_le_any (by rw [h.ring.len]; exact h.pos) ht
    rw [h.tail.len] at k1
    rw [h.ring.len] at k2
    exact (hn ⟨by omega, by omega⟩).elim

end Go.Proofs.Ytiphooodijbhiaa
