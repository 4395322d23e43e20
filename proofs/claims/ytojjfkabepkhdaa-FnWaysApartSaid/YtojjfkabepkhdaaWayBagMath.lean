/-
  Bags, as they are counted in place: plain facts.
-/
import Derived.Test.YtojjfkabepkhdaaWayVal
set_option linter.unusedVariables false
set_option linter.unusedSimpArgs false
namespace Go.Proofs.Ytojjfkabepkhdaa
open Go.RowKit

def bagsI (f : Nat → Bool) (k i : Nat) : Int := (bagF f k i : Int)
def apartsI (f : Nat → Bool) (k i : Nat) : Int := (apartF f k i : Int)
theorem bag_le60 (f : Nat → Bool) (k : Nat) {i : Nat} (h : i ≤ 60) : bagF f k i ≤ 1152921504606846976 :=
  Nat.le_trans (bag_many f k i) (Nat.le_trans (manyF_pow f i) (Nat.le_trans (Nat.pow_le_pow_right (by decide) h) (by decide)))
theorem apart_le60 (f : Nat → Bool) (k : Nat) {i : Nat} (h : i ≤ 60) : apartF f k i ≤ 1152921504606846976 := Nat.le_trans (apart_bag f k i) (bag_le60 f k h)
theorem oneAt0_bags (f : Nat → Bool) : oneAt0 = bagsI f 0 := by
  funext i
  unfold oneAt0 bagsI
  rw [bagF_zero]
  split <;> rfl
theorem oneAt0_aparts (f : Nat → Bool) : oneAt0 = apartsI f 0 := by
  funext i
  unfold oneAt0 apartsI apartF
  split <;> rfl
theorem bags_no {f : Nat → Bool} {k : Nat} (h : f (k + 1) = false) (i : Nat) : bagsI f (k + 1) i = bagsI f k i := by
  unfold bagsI; rw [bagF_step, if_neg (by simp [h])]; rfl
theorem aparts_no {f : Nat → Bool} {k : Nat} (h : f (k + 1) = false) (i : Nat) : apartsI f (k + 1) i = apartsI f k i := by
  unfold apartsI; rw [apartF, if_neg (by simp [h])]; rfl
/-- The next number is put to the first x. -/
def mixB (f : Nat → Bool) (k x i : Nat) : Int := if i < x then bagsI f (k + 1) i else bagsI f k i
theorem mixB_start (f : Nat → Bool) (k i : Nat) : bagsI f k i = mixB f k (k + 1) i := by
  unfold mixB
  split
  · unfold bagsI; rw [bagF_step, if_neg (by omega)]; rfl
  · rfl
theorem mixB_put (f : Nat → Bool) (k x i : Nat) (hf : f (k + 1) = true) (hx : k + 1 ≤ x) : putI (mixB f k x) x (mixB f k x x + mixB f k x (x - (k + 1))) i = mixB f k (x + 1) i := by
  unfold putI
  by_cases e : i = x
  · rw [if_pos e, e]
    unfold mixB
    rw [if_neg (Nat.lt_irrefl _), if_pos (by omega), if_pos (by omega)]
    unfold bagsI
    rw [bagF_step f k x, if_pos ⟨hf, hx⟩]; simp
  · rw [if_neg e]
    unfold mixB
    by_cases h : i < x
    · rw [if_pos h, if_pos (by omega)]
    · rw [if_neg h, if_neg (by omega)]
theorem mixB_end (f : Nat → Bool) (k x i : Nat) (h : i < x) : mixB f k x i = bagsI f (k + 1) i := by unfold mixB; rw [if_pos h]
theorem mixB_bounds (f : Nat → Bool) (k x : Nat) {i : Nat} (h : i ≤ 60) : ∃ v : Nat, mixB f k x i = v ∧ v ≤ 1152921504606846976 := by
  unfold mixB
  split
  · exact ⟨_, rfl, bag_le60 f _ h⟩
  · exact ⟨_, rfl, bag_le60 f _ h⟩
/-- .. each once at most: from above, to those from x on. -/
def mixA (f : Nat → Bool) (k x i : Nat) : Int := if x ≤ i then apartsI f (k + 1) i else apartsI f k i
theorem mixA_start (f : Nat → Bool) (n k i : Nat) (h : i < n + 1) : apartsI f k i = mixA f k (n + 1) i := by unfold mixA; rw [if_neg (by omega)]
theorem mixA_put (f : Nat → Bool) (k x i : Nat) (hf : f (k + 1) = true) (hx : k + 1 ≤ x) : putI (mixA f k (x + 1)) x (mixA f k (x + 1) x + mixA f k (x + 1) (x - (k + 1))) i = mixA f k x i := by
  unfold putI
  by_cases e : i = x
  · rw [if_pos e, e]
    unfold mixA
    rw [if_neg (by omega), if_neg (by omega), if_pos (Nat.le_refl _)]
    unfold apartsI
    rw [apartF, if_pos ⟨hf, hx⟩]; simp
  · rw [if_neg e]
    unfold mixA
    by_cases h : x + 1 ≤ i
    · rw [if_pos h, if_pos (by omega)]
    · rw [if_neg h, if_neg (by omega)]
theorem mixA_end (f : Nat → Bool) (k i : Nat) : mixA f k (k + 1) i = apartsI f (k + 1) i := by
  unfold mixA
  split
  · rfl
  · unfold apartsI; rw [apartF, if_neg (by omega)]; rfl
theorem mixA_bounds (f : Nat → Bool) (k x : Nat) {i : Nat} (h : i ≤ 60) : ∃ v : Nat, mixA f k x i = v ∧ v ≤ 1152921504606846976 := by
  unfold mixA
  split
  · exact ⟨_, rfl, apart_le60 f _ h⟩
  · exact ⟨_, rfl, apart_le60 f _ h⟩

end Go.Proofs.Ytojjfkabepkhdaa
