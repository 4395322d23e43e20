/-
  What chapter 9's functions answer: plain facts.
-/
import Derived.Test.YtojjfkabepkhdaaWayRow
import Derived.Test.YtojjfkabepkhdaaStarRound
set_option linter.unusedVariables false
set_option linter.unusedSimpArgs false
namespace Go.Proofs.Ytojjfkabepkhdaa
open Go.RowKit

/-- May a set and a number be asked? -/
noncomputable def okW (s : ByteArray) (n N : Int) : Bool := smallS s && inR n 0 N
theorem okW_nat {s : ByteArray} {n N : Int} (h : okW s n N = true) : smallS s = true ∧ ∃ k : Nat, n = k ∧ (k : Int) ≤ N := by
  unfold okW at h
  rw [Bool.and_eq_true] at h
  rcases inR_cases n 0 N with ⟨_, h1, h2⟩ | ⟨h3, _⟩
  · exact ⟨h.1, n.toNat, by omega, by omega⟩
  · rw [h.2] at h3; cases h3
/-- A value, where one may ask, and 0. -/
noncomputable def valW (s : ByteArray) (n N : Int) (F : (Nat → Bool) → Nat → Int) : Int := if okW s n N then F (fS s) n.toNat else 0
theorem valW_on {s : ByteArray} {n N : Int} {F : (Nat → Bool) → Nat → Int} (h : okW s n N = true) : valW s n N F = F (fS s) n.toNat := if_pos h
theorem valW_off {s : ByteArray} {n N : Int} {F : (Nat → Bool) → Nat → Int} (h : okW s n N = false) : valW s n N F = 0 := by unfold valW; rw [h]; rfl
/-- What such a function answers. -/
def TellsW (s : ByteArray) (n N : Int) (F : (Nat → Bool) → Nat → Int) (e : Ending) : Prop := e = .returned (.tuple #[.int .i64 (valW s n N F), .bool (okW s n N)])
theorem tellsW_off {s : ByteArray} {n N : Int} {F : (Nat → Bool) → Nat → Int} (h : okW s n N = false) : TellsW s n N F (.returned (.tuple #[.int .i64 0, .bool false])) := by unfold TellsW; rw [valW_off h, h]
theorem tellsW_on {s : ByteArray} {k : Nat} {N : Int} {F : (Nat → Bool) → Nat → Int} {v : Int} (h : okW s (k : Int) N = true) (hv : v = F (fS s) k) : TellsW s (k : Int) N F (.returned (.tuple #[.int .i64 v, .bool true])) := by
  unfold TellsW; rw [valW_on h, h, hv]; rfl

def bagI (f : Nat → Bool) (n : Nat) : Int := (bagF f n n : Int)
def apartI (f : Nat → Bool) (n : Nat) : Int := (apartF f n n : Int)
def oddI (f : Nat → Bool) (n : Nat) : Int := (oddF f n : Int)
def backI (f : Nat → Bool) (n : Nat) : Int := (backF f n : Int)

end Go.Proofs.Ytojjfkabepkhdaa
