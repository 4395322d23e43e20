/-
  row.meet: its contract, where two rows have a number in common and where they have none.
-/
import Derived.Test.YtdcedkjoligekabRowMeetI
namespace Go.Proofs.Ytdcedkjoligekab
open Go.RowKit
set_option linter.unusedVariables false

theorem least_begin {r q : Rw} {m : Nat} (h : Least r q m) (hq : q.s = 0) : m = q.b ∧ r.has q.b = true := by
  have := (has_zero hq m).1 h.2.1
  subst this
  exact ⟨rfl, h.1⟩

/-- Two rows that have a number in common. -/
theorem meet_on (r q : Rw) (m : Nat) (w : World) (hb : r.b ≤ 200) (hs : r.s ≤ 60) (hp : q.b ≤ 200) (hq : q.s ≤ 60) (h : Least r q m) :
    Calls Try.prog 26 #[rwV r, rwV q] w fun e w' => e = .returned (.tuple #[rwV ⟨m, stepOf r q⟩, .bool true]) ∧ Below w.heap.size w w' := by
  obtain ⟨b, s⟩ := r
  obtain ⟨p, q⟩ := q
  have hb : b ≤ 200 := hb
  have hs : s ≤ 60 := hs
  have hp : p ≤ 200 := hp
  have hq : q ≤ 60 := hq
  rcases Nat.lt_or_ge s q with k | k
  · rcases Nat.eq_zero_or_pos s with z | z
    · subst z
      obtain ⟨e1, e2⟩ := least_begin (least_comm h) rfl
      subst e1
      have e3 : stepOf ⟨m, 0⟩ ⟨p, q⟩ = 0 := by unfold stepOf; rw [if_pos (.inl rfl)]
      rw [e3]
      refine (meet_zero_b _ p q w (by assumption) hp hq k).mono ?_
      rintro e w' ⟨rfl, hB⟩
      exact ⟨by rw [e2]; rfl, hB⟩
    · have e3 : stepOf ⟨b, s⟩ ⟨p, q⟩ = Nat.lcm q s := by unfold stepOf; rw [if_neg (by show ¬ (s = 0 ∨ q = 0); omega), Nat.lcm_comm]
      rw [e3]
      exact meet_some_b b s p q m w hb hs hp hq k (by omega) (least_comm h)
  · rcases Nat.eq_zero_or_pos q with z | z
    · subst z
      obtain ⟨e1, e2⟩ := least_begin h rfl
      subst e1
      have e3 : stepOf ⟨b, s⟩ ⟨m, 0⟩ = 0 := by unfold stepOf; rw [if_pos (.inr rfl)]
      rw [e3]
      refine (meet_zero_a b s _ w hb hs (by assumption)).mono ?_
      rintro e w' ⟨rfl, hB⟩
      exact ⟨by rw [e2]; rfl, hB⟩
    · have e3 : stepOf ⟨b, s⟩ ⟨p, q⟩ = Nat.lcm s q := by unfold stepOf; rw [if_neg (by show ¬ (s = 0 ∨ q = 0); omega)]
      rw [e3]
      exact meet_some_a b s p q m w hb hs hp hq k (by omega) h

/-- Two rows that have none. -/
theorem meet_off (r q : Rw) (w : World) (hb : r.b ≤ 200) (hs : r.s ≤ 60) (hp : q.b ≤ 200) (hq : q.s ≤ 60) (h : ∀ n, ¬ (r.has n = true ∧ q.has n = true)) :
    Calls Try.prog 26 #[rwV r, rwV q] w fun e w' => (∃ p : Rw, e = .returned (.tuple #[rwV p, .bool false])) ∧ Below w.heap.size w w' := by
  obtain ⟨b, s⟩ := r
  obtain ⟨p, q⟩ := q
  have hb : b ≤ 200 := hb
  have hs : s ≤ 60 := hs
  have hp : p ≤ 200 := hp
  have hq : q ≤ 60 := hq
  rcases Nat.lt_or_ge s q with k | k
  · rcases Nat.eq_zero_or_pos s with z | z
    · subst z
      have e2 : (Rw.mk p q).has b = false := by
        cases e : (Rw.mk p q).has b
        · rfl
        · exact (h b ⟨has_begin ⟨b, 0⟩, e⟩).elim
      refine (meet_zero_b b p q w hb hp hq k).mono ?_
      rintro e w' ⟨rfl, hB⟩
      exact ⟨⟨⟨b, 0⟩, by rw [e2]; rfl⟩, hB⟩
    · refine (meet_none_b b s p q w hb hs hp hq k (by omega) (fun n hn => h n hn.symm)).mono ?_
      rintro e w' ⟨rfl, hB⟩
      exact ⟨⟨⟨0, 0⟩, rfl⟩, hB⟩
  · rcases Nat.eq_zero_or_pos q with z | z
    · subst z
      have e2 : (Rw.mk b s).has p = false := by
        cases e : (Rw.mk b s).has p
        · rfl
        · exact (h p ⟨e, has_begin ⟨p, 0⟩⟩).elim
      refine (meet_zero_a b s p w hb hs hp).mono ?_
      rintro e w' ⟨rfl, hB⟩
      exact ⟨⟨⟨p, 0⟩, by rw [e2]; rfl⟩, hB⟩
    · refine (meet_none_a b s p q w hb hs hp hq k (by omega) h).mono ?_
      rintro e w' ⟨rfl, hB⟩
      exact ⟨⟨⟨0, 0⟩, rfl⟩, hB⟩

end Go.Proofs.Ytdcedkjoligekab
