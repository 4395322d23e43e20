/-
  What StarGap answers: plain facts.
-/
import Derived.Test.YtcacdgojibojgacStarRound
set_option linter.unusedVariables false
set_option linter.unusedSimpArgs false
namespace Go.Proofs.Ytcacdgojibojgac

/-- What StarGap answers. -/
def GapOut (s : ByteArray) (v : Int) (b : Bool) : Prop := (b = true ∧ smallS s = true ∧ ∃ n : Nat, v = n ∧ GapIs (fS s) n) ∨ (b = false ∧ v = 0 ∧ (smallS s = true → ¬ ∃ n, GapIs (fS s) n))
theorem gapOut_unique {s : ByteArray} {v u : Int} {b c : Bool} (h : GapOut s v b) (h2 : GapOut s u c) : v = u ∧ b = c := by
  rcases h with ⟨rfl, h3, n, rfl, h4⟩ | ⟨rfl, rfl, h3⟩ <;> rcases h2 with ⟨rfl, k3, k, rfl, k4⟩ | ⟨rfl, rfl, k3⟩
  · obtain rfl := h4.unique k4; exact ⟨rfl, rfl⟩
  · exact (k3 h3 ⟨n, h4⟩).elim
  · exact (h3 k3 ⟨k, k4⟩).elim
  · exact ⟨rfl, rfl⟩
def GapEnd (s : ByteArray) (e : Ending) : Prop := ∃ v b, e = .returned (.tuple #[.int .i64 v, .bool b]) ∧ GapOut s v b
theorem gap_off {s : ByteArray} (h : smallS s = false) : GapEnd s (.returned (.tuple #[.int .i64 0, .bool false])) := ⟨_, _, rfl, .inr ⟨rfl, rfl, fun x => by rw [h] at x; cases x⟩⟩
theorem gap_none {s : ByteArray} (h : ¬ ∃ n, GapIs (fS s) n) : GapEnd s (.returned (.tuple #[.int .i64 0, .bool false])) := ⟨_, _, rfl, .inr ⟨rfl, rfl, fun _ => h⟩⟩
theorem gap_some {s : ByteArray} {n : Nat} (h : smallS s = true) (h2 : GapIs (fS s) n) : GapEnd s (.returned (.tuple #[.int .i64 n, .bool true])) := ⟨_, _, rfl, .inl ⟨rfl, h, n, rfl, h2⟩⟩
/-- All numbers from n + 1 up to m are there. -/
def Full (f : Nat → Bool) (n m : Nat) : Prop := ∀ k, n < k → k < m → starB f k = true
theorem Full.all {f : Nat → Bool} (hs : Small f) {n m : Nat} (h : Full f n m) (hn : n < m) (hm : max 1792 (n + 1) + 15 ≤ m) (k : Nat) (hk : n < k) : starB f k = true := by
  rcases Nat.lt_or_ge k (max 1792 (n + 1)) with e | e
  · exact h k hk (by omega)
  · exact star_all hs (a := max 1792 (n + 1)) (by omega) (fun j h1 h2 => h j (by omega) (by omega)) k e
theorem Full.gap {f : Nat → Bool} (hs : Small f) {n m : Nat} (h : Full f n m) (hn : n < m) (hm : max 1792 (n + 1) + 15 ≤ m) (h1 : 1 ≤ n) (h0 : starB f n = false) : GapIs f n := ⟨h1, h0, h.all hs hn hm⟩
theorem Full.none {f : Nat → Bool} (hs : Small f) {m : Nat} (h : Full f 0 m) (hm : 1807 ≤ m) : ¬ ∃ n, GapIs f n := by
  rintro ⟨n, h1, h2, _⟩
  rw [h.all hs (by omega) (by omega) n (by omega)] at h2; cases h2
theorem Full.step {f : Nat → Bool} {n m : Nat} (h : Full f (n + 1) m) (h2 : starB f (n + 1) = true) : Full f n m := fun k h1 h3 => by
  by_cases e : k = n + 1
  · rw [e]; exact h2
  · exact h k (by omega) h3

end Go.Proofs.Ytcacdgojibojgac
