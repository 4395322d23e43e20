/-
  What the walks of chapter 7's promises share.
-/
import Derived.Test.YtiphooodijbhiaaDrawSaid
import Derived.Test.YtiphooodijbhiaaRowBytes
import Derived.Test.YtiphooodijbhiaaTermSem
set_option linter.unusedVariables false
set_option linter.unusedSimpArgs false
namespace Go.Proofs.Ytiphooodijbhiaa
open Go.RowKit

/-- A number is drawn from a row of five. -/
theorem pick_at {R : Nat} {a : Option Addr} {n c p : Nat} {w w0 : World} (h : Rd R a n c p w) (hp : p ≤ 1000) (hR : R < w.heap.size) (hb : Below w.heap.size w w0) (M : Int) (m : Nat) (hM : M = (m : Int)) (hm0 : 0 < m) (hm : m ≤ 1000000) :
    Calls Try.prog 60 #[.pointer (some ⟨R, 0, none⟩), .int .i64 M] w0 fun e w' =>
      ∃ v : Nat, e = .returned (.int .i64 v) ∧ v < m ∧ Rd R a n c (p + 1) w' ∧ Apart R w0 w' ∧ Apart R w w' := by
  subst hM
  refine (pick_rd (h.below hb hR) m (by omega) hm0 hm).mono ?_
  rintro e w' ⟨v, h1, h2, h3, h4, _⟩
  exact ⟨v, h1, h2, h3, h4, (Apart.of_below (Nat.le_of_lt hR) hb).trans h4⟩
theorem five_at (y1 y2 v : Nat) (h1 : y1 < 30) (h2 : y2 < 201) (hv : v < 5) : ∃ x : Int, (-1 ≤ x ∧ x ≤ 201) ∧ (#[.int .i64 y1, .int .i64 y2, .int .i64 200, .int .i64 201, .int .i64 (-1)] : Array Value)[v]? = some (.int .i64 x) ∧
    ∀ W : World, (W.alloc (.cells #[.int .i64 y1, .int .i64 y2, .int .i64 200, .int .i64 201, .int .i64 (-1)] 3)).cell? ⟨W.heap.size, v, none⟩ = some (.int .i64 x) := by
  have key : ∀ x : Int, (#[.int .i64 y1, .int .i64 y2, .int .i64 200, .int .i64 201, .int .i64 (-1)] : Array Value)[v]? = some (.int .i64 x) → ∀ W : World, (W.alloc (.cells #[.int .i64 y1, .int .i64 y2, .int .i64 200, .int .i64 201, .int .i64 (-1)] 3)).cell? ⟨W.heap.size, v, none⟩ = some (.int .i64 x) := fun x h W => by
    rw [World.cell?_alloc_at _ _ _ _ rfl]; exact h
  have : v = 0 ∨ v = 1 ∨ v = 2 ∨ v = 3 ∨ v = 4 := by omega
  rcases this with rfl | rfl | rfl | rfl | rfl
  · exact ⟨y1, by omega, rfl, key _ rfl⟩
  · exact ⟨y2, by omega, rfl, key _ rfl⟩
  · exact ⟨200, by omega, rfl, key _ rfl⟩
  · exact ⟨201, by omega, rfl, key _ rfl⟩
  · exact ⟨-1, by omega, rfl, key _ rfl⟩
/-- What the text of a set that a term tells says. -/
theorem text_says {s T : ByteArray} (h : TextOf s T true) : ∃ t, termOf s.data.toList = some t ∧ tmOk t = true ∧ TidyText (tmF t) T := by
  unfold TextOf at h
  cases e : termOf s.data.toList with
  | none => rw [e] at h; exact absurd h.2 (by decide)
  | some t =>
    rw [e] at h
    obtain ⟨_, ho, _⟩ := termOf_some e
    exact ⟨t, rfl, ho, termText_told ho h⟩
theorem told_size {T : ByteArray} (h : okS T = true) : T.size ≤ 1048576 := by
  rw [set_size h]
  have h1 := setT_le h
  have h2 := setR_le h
  omega
theorem textOf_size {s T : ByteArray} {b : Bool} (h : TextOf s T b) : T.size ≤ 1048576 := by
  unfold TextOf at h
  cases e : termOf s.data.toList with
  | none => rw [e] at h; rw [h.1]; decide
  | some t =>
    rw [e] at h
    exact termText_size (termOf_some e).2.1 h

end Go.Proofs.Ytiphooodijbhiaa
