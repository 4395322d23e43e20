/-
  The walk of impl.numbers.sumWith.
-/
import Derived.Test.YtojjfkabepkhdaaNumTextI
set_option linter.unusedVariables false
set_option linter.unusedSimpArgs false
namespace Go.Proofs.Ytojjfkabepkhdaa
open Go.RowKit

/-- The sums by numbers less than k. -/
def accF (f g : Nat → Bool) (k i : Nat) : Bool := someF (fun x => f x && (decide (x ≤ i) && g (i - x))) 0 k
theorem accF_next (f g : Nat → Bool) (k i : Nat) : accF f g (k + 1) i = (accF f g k i || (f k && (decide (k ≤ i) && g (i - k)))) := by
  unfold accF
  rw [show someF (fun x => f x && (decide (x ≤ i) && g (i - x))) 0 (k + 1) = (someF (fun x => f x && (decide (x ≤ i) && g (i - x))) 0 k || (f (0 + k) && (decide (0 + k ≤ i) && g (i - (0 + k))))) from rfl, Nat.zero_add]
theorem accF_done (f g : Nat → Bool) (N i : Nat) (h : i < N) : accF f g N i = sumG false f g i := by
  apply bool_iff
  unfold accF
  rw [someF_iff, sumG_iff]
  constructor
  · rintro ⟨x, hx, h1⟩
    rw [Nat.zero_add, Bool.and_eq_true, Bool.and_eq_true, decide_eq_true_iff] at h1
    exact ⟨x, i - x, by omega, h1.1, h1.2.2, by simp⟩
  · rintro ⟨x, y, rfl, h1, h2, _⟩
    refine ⟨x, by omega, ?_⟩
    rw [Nat.zero_add, Bool.and_eq_true, Bool.and_eq_true, decide_eq_true_iff, show x + y - x = y from by omega]
    exact ⟨h1, by omega, h2⟩
theorem behind_up {g : Nat → Bool} {N k j : Nat} (hk : k ≤ N) : behind N g (N - k + j) = (decide (k ≤ j) && g (j - k)) := by
  unfold behind
  by_cases h : k ≤ j
  · rw [decide_eq_true h, decide_eq_true (by omega), show N - k + j - N = j - k from by omega]
  · rw [decide_eq_false h, decide_eq_false (by omega)]; rfl

/-- A value is the first N numbers of f, as a slice. -/
def NumAt (w : World) (g o N M : Nat) (f : Nat → Bool) : Prop := ∃ F, BRow w g M F ∧ o + N ≤ M ∧ ∀ n, n < N → F (o + n) = f n
theorem NumAt.lt {w : World} {g o N M : Nat} {f : Nat → Bool} (h : NumAt w g o N M f) : g < w.heap.size := by obtain ⟨F, h, _⟩ := h; exact h.lt
theorem NumAt.below {w w' : World} {g o N M B : Nat} {f : Nat → Bool} (h : NumAt w g o N M f) (hb : Below B w w') (hg : g < B) : NumAt w' g o N M f := by
  obtain ⟨F, h, h2⟩ := h; exact ⟨F, h.below hb hg, h2⟩
theorem NumAt.step {w w' : World} {g o N M : Nat} {f : Nat → Bool} (h : NumAt w g o N M f) (hb : Below w.heap.size w w') : NumAt w' g o N M f := h.below hb h.lt
theorem NumAt.cell {w : World} {g o N M : Nat} {f : Nat → Bool} (h : NumAt w g o N M f) {i : Nat} (hi : i < N) : w.cell? ⟨g, o + i, none⟩ = some (.bool (f i)) := by
  obtain ⟨F, h, h2, h3⟩ := h; rw [← h3 i hi]; exact h.cell (by omega)
theorem NumAt.else {w w' : World} {g o N M k : Nat} {f : Nat → Bool} (h : NumAt w g o N M f) (he : Else k w w') (hn : g ≠ k) : NumAt w' g o N M f := by
  obtain ⟨F, h, h2⟩ := h; exact ⟨F, h.else he hn, h2⟩
theorem NumAt.congr {w : World} {g o N M : Nat} {f f2 : Nat → Bool} (h : NumAt w g o N M f) (hf : ∀ n, n < N → f n = f2 n) : NumAt w g o N M f2 := by
  obtain ⟨F, h, h2, h3⟩ := h; exact ⟨F, h, h2, fun n hn => (h3 n hn).trans (hf n hn)⟩
theorem BRow.num {w : World} {g N : Nat} {f : Nat → Bool} (h : BRow w g N f) : NumAt w g 0 N N f := ⟨f, h, by omega, fun n _ => by rw [Nat.zero_add]⟩

/-- The world of sumWith's loop. -/
structure SumLoop (f g : Nat → Bool) (GS G1 o1 M1 G2 N k : Nat) (w wr : World) : Prop where
  row : BRow wr GS N (accF f g k)
  first : NumAt wr G1 o1 N M1 f
  second : BRow wr G2 (2 * N) (behind N g)
  n1 : G1 ≠ GS
  n2 : G2 ≠ GS
  le : w.heap.size ≤ GS
  below : Below w.heap.size w wr
theorem SumLoop.skip {f g : Nat → Bool} {GS G1 o1 M1 G2 N k : Nat} {w wr : World} (h : SumLoop f g GS G1 o1 M1 G2 N k w wr) (hf : f k = false) : SumLoop f g GS G1 o1 M1 G2 N (k + 1) w wr :=
  ⟨h.row.congr fun j _ => by rw [accF_next, hf]; simp, h.first, h.second, h.n1, h.n2, h.le, h.below⟩
theorem SumLoop.added {f g : Nat → Bool} {GS G1 o1 M1 G2 N k : Nat} {w wr w' : World} (h : SumLoop f g GS G1 o1 M1 G2 N k w wr) (hr : BRow w' GS N (mix (accF f g k) (accF f g (k + 1)) 0 N)) (he : Else GS wr w') :
    SumLoop f g GS G1 o1 M1 G2 N (k + 1) w w' :=
  ⟨hr.congr fun j hj => by unfold mix; rw [if_pos (by omega)], h.first.else he h.n1, h.second.else he h.n2, h.n1, h.n2, h.le, he.below h.below h.le h.row.lt⟩
/-- What add wants where a set is added, k greater. -/
theorem SumLoop.add {f g : Nat → Bool} {GS G1 o1 M1 G2 N k : Nat} {w wr : World} (h : SumLoop f g GS G1 o1 M1 G2 N k w wr) (hk : k < N) (hN : N ≤ 100000) (hf : f k = true) :
    Calls Try.prog 86 #[.slice (some ⟨GS, 0, none⟩) N N, .slice (some ⟨G2, N - k, none⟩) N N] wr fun e w' =>
      e = .returned (.tuple #[]) ∧ SumLoop f g GS G1 o1 M1 G2 N (k + 1) w w' := by
  refine (add_any GS 0 G2 (N - k) N N N N (accF f g k) (accF f g (k + 1)) (fun j => decide (k ≤ j) && g (j - k)) wr h.row (by omega) hN (fun j hj => absurd hj (Nat.not_lt_zero _)) (fun i hi => by rw [Nat.zero_add, accF_next, hf, Bool.true_and]) ?_).mono ?_
  · intro j w' hj _ he
    rw [(h.second.else he h.n2).cell (i := N - k + j) (by omega), behind_up (by omega)]
  · rintro e w' ⟨rfl, hr, he⟩
    exact ⟨rfl, h.added hr he⟩

end Go.Proofs.Ytojjfkabepkhdaa
