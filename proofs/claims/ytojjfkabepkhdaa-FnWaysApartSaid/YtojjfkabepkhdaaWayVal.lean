/-
  What chapter 9's functions answer: plain facts.
-/
import Derived.Test.YtojjfkabepkhdaaWayRow
import Derived.Test.YtojjfkabepkhdaaStarRound
set_option linter.unusedVariables false
set_option linter.unusedSimpArgs false
namespace Go.Proofs.Ytojjfkabepkhdaa
open Go.RowKit

/-- May a set and a number be asked? -/
noncomputable def okW (s : ByteArray) (n N : Int) : Bool := smallS s && inR n 0 N
theorem okW_nat {s : ByteArray} {n N : Int} (h : okW s n N = true) : smallS s = true ∧ ∃ k : Nat, n = k ∧ (k : Int) ≤ N := by
  unfold okW at h
  rw [Bool.and_eq_true] at h
  rcases inR_cases n 0 N with ⟨_, h1, h2⟩ | ⟨h3, _⟩
  · exact ⟨h.1, n.toNat, by omega, by omega⟩
  · rw [h.2] at h3; cases h3
/-- A value, where one may ask, and 0. -/
noncomputable def valW (s : ByteArray) (n N : Int) (F : (Nat → Bool) → Nat → Int) : Int := if okW s n N then F (fS s) n.toNat else 0
theorem valW_on {s : ByteArray} {n N : Int} {F : (Nat → Bool) → Nat → Int} (h : okW s n N = true) : valW s n N F = F (fS s) n.toNat := if_pos h
theorem valW_off {s : ByteArray} {n N : Int} {F : (Nat → Bool) → Nat → Int} (h : okW s n N = false) : valW s n N F = 0 := by unfold valW; rw [h]; rfl
/-- What such a function answers. -/
def TellsW (s : ByteArray) (n N : Int) (F : (Nat → Bool) → Nat → Int) (e : Ending) : Prop := e = .returned (.tuple #[.int .i64 (valW s n N F), .bool (okW s n N)])
theorem tellsW_off {s : ByteArray} {n N : Int} {F : (Nat → Bool) → Nat → Int} (h : okW s n N = false) : TellsW s n N F (.returned (.tuple #[.int .i64 0, .bool false])) := by unfold TellsW; rw [valW_off h, h]
theorem tellsW_on {s : ByteArray} {k : Nat} {N : Int} {F : (Nat → Bool) → Nat → Int} {v : Int} (h : okW s (k : Int) N = true) (hv : v = F (fS s) k) : TellsW s (k : Int) N F (.returned (.tuple #[.int .i64 v, .bool true])) := by
  unfold TellsW; rw [valW_on h, h, hv]; rfl

def partI (f : Nat → Bool) (k i : Nat) : Int := (partF f k i : Int)
theorem partF_le40 (f : Nat → Bool) (k : Nat) {i : Nat} (h : i ≤ 40) : partF f k i ≤ 1099511627776 :=
  Nat.le_trans (partF_pow f k i) (Nat.le_trans (Nat.pow_le_pow_right (by decide) h) (by decide))
theorem oneAt0_part (f : Nat → Bool) : oneAt0 = partI f 0 := by
  funext i
  unfold oneAt0 partI partF
  split <;> rfl
def bagI (f : Nat → Bool) (n : Nat) : Int := (bagF f n n : Int)
def apartI (f : Nat → Bool) (n : Nat) : Int := (apartF f n n : Int)
def oddI (f : Nat → Bool) (n : Nat) : Int := (oddF f n : Int)
def backI (f : Nat → Bool) (n : Nat) : Int := (backF f n : Int)

/-- Ways that are the same backwards, by the number in the middle, as the model counts them. -/
def backY (f : Nat → Bool) (n y : Nat) : Nat := if y % 2 = n % 2 ∧ (y = 0 ∨ f y = true) then manyF f ((n - y) / 2) else 0
def backP (f : Nat → Bool) (n : Nat) : Nat → Nat
  | 0 => 0
  | k + 1 => backP f n k + backY f n k
theorem backP_sum (f : Nat → Bool) (n : Nat) : ∀ k, k ≤ n → backP f n (k + 1) = halfF f n + sumP f (halfF f) n k
  | 0, _ => by
    show 0 + backY f n 0 = halfF f n + 0
    unfold backY halfF
    by_cases h : n % 2 = 0
    · rw [if_pos ⟨h.symm, .inl rfl⟩, if_pos h, Nat.sub_zero]; omega
    · rw [if_neg (fun x => h x.1.symm), if_neg h]
  | k + 1, hk => by
    rw [backP, backP_sum f n k (by omega), sumP, Nat.add_assoc]
    congr 1
    congr 1
    unfold backY halfF
    by_cases hf : f (k + 1) = true
    · rw [if_pos hf]
      by_cases h : (k + 1) % 2 = n % 2
      · rw [if_pos ⟨h, .inr hf⟩, if_pos (by omega)]
      · rw [if_neg (fun x => h x.1), if_neg (by omega)]
    · rw [if_neg hf, if_neg (fun x => x.2.elim (fun e => by omega) (fun e => hf e))]
theorem backP_all (f : Nat → Bool) (n : Nat) : backP f n (n + 1) = backF f n := backP_sum f n n (Nat.le_refl _)
theorem backP_two (f : Nat → Bool) (n y : Nat) (h : y % 2 = n % 2) : backP f n (y + 2) = backP f n y + (if y = 0 ∨ f y = true then manyF f ((n - y) / 2) else 0) := by
  show backP f n y + backY f n y + backY f n (y + 1) = _
  have h2 : backY f n (y + 1) = 0 := if_neg (fun x => by have := x.1; omega)
  rw [h2, Nat.add_zero]
  congr 1
  unfold backY
  by_cases hc : y = 0 ∨ f y = true
  · rw [if_pos ⟨h, hc⟩, if_pos hc]
  · rw [if_neg (fun x => hc x.2), if_neg hc]
theorem backP_end (f : Nat → Bool) (n : Nat) : backP f n (n + 2) = backF f n := by
  show backP f n (n + 1) + backY f n (n + 1) = _
  have h2 : backY f n (n + 1) = 0 := if_neg (fun x => by have := x.1; omega)
  rw [h2, backP_all]; rfl
theorem backP_mono (f : Nat → Bool) (n k : Nat) : ∀ m, backP f n k ≤ backP f n (k + m)
  | 0 => Nat.le_refl _
  | m + 1 => Nat.le_trans (backP_mono f n k m) (Nat.le_add_right _ _)

/-- The ways with one number more, as the model counts them: by what they had. -/
def accT (f : Nat → Bool) (h : Nat → Nat) (i x : Nat) : Nat := if x < i ∧ f (i - x) = true then h x else 0
def accX (f : Nat → Bool) (h : Nat → Nat) (i : Nat) : Nat → Nat
  | 0 => 0
  | x + 1 => accX f h i x + accT f h i x
theorem accX_sum (f : Nat → Bool) (h : Nat → Nat) (i : Nat) : ∀ k, k ≤ i → accX f h i (i - k) + sumP f h i k = accX f h i i
  | 0, _ => rfl
  | k + 1, hk => by
    rw [← accX_sum f h i k (by omega), show i - k = (i - (k + 1)) + 1 from by omega, accX, sumP]
    have : accT f h i (i - (k + 1)) = if f (k + 1) = true then h (i - (k + 1)) else 0 := by
      unfold accT
      rw [show i - (i - (k + 1)) = k + 1 from by omega]
      by_cases hf : f (k + 1) = true
      · rw [if_pos ⟨by omega, hf⟩, if_pos hf]
      · rw [if_neg (fun x => hf x.2), if_neg hf]
    rw [this]
    omega
theorem accX_all (f : Nat → Bool) (h : Nat → Nat) (i : Nat) : ∀ m, accX f h i (i + m) = sumP f h i i
  | 0 => by
    have := accX_sum f h i i (Nat.le_refl _)
    rw [Nat.sub_self] at this
    have e : accX f h i 0 = 0 := rfl
    rw [e, Nat.zero_add] at this
    exact this.symm
  | m + 1 => by
    rw [show i + (m + 1) = (i + m) + 1 from by omega, accX, accX_all f h i m]
    unfold accT
    rw [if_neg (fun x => by have := x.1; omega)]; rfl
theorem accX_le (f : Nat → Bool) (h : Nat → Nat) (i x : Nat) : accX f h i x ≤ sumP f h i i := by
  have mono : ∀ m, accX f h i x ≤ accX f h i (x + m) := by
    intro m
    induction m with
    | zero => exact Nat.le_refl _
    | succ m ih => exact Nat.le_trans ih (Nat.le_add_right _ _)
  have := mono i
  rw [show x + i = i + x from by omega, accX_all] at this
  exact this
/-- In the midst of x's turn, y of its sums are there. -/
def accM (f : Nat → Bool) (h : Nat → Nat) (x y i : Nat) : Nat := accX f h i x + (if i ≤ x + y then accT f h i x else 0)
theorem accM_start (f : Nat → Bool) (h : Nat → Nat) (x i : Nat) : accM f h x 0 i = accX f h i x := by
  unfold accM accT
  by_cases hi : i ≤ x + 0
  · rw [if_pos hi, if_neg (fun e => by omega)]; rfl
  · rw [if_neg hi]; rfl
theorem accM_end (f : Nat → Bool) (h : Nat → Nat) (x y i : Nat) (hi : i ≤ x + y) : accM f h x y i = accX f h i (x + 1) := by
  unfold accM
  rw [if_pos hi]; rfl
theorem accM_other (f : Nat → Bool) (h : Nat → Nat) (x y i : Nat) (hi : i ≠ x + (y + 1)) : accM f h x (y + 1) i = accM f h x y i := by
  unfold accM
  by_cases h1 : i ≤ x + y
  · rw [if_pos h1, if_pos (by omega)]
  · rw [if_neg h1, if_neg (by omega)]
theorem accM_put (f : Nat → Bool) (h : Nat → Nat) (x y : Nat) : accM f h x (y + 1) (x + (y + 1)) = accM f h x y (x + (y + 1)) + (if f (y + 1) = true then h x else 0) := by
  unfold accM
  rw [if_pos (Nat.le_refl _), if_neg (by omega)]
  unfold accT
  rw [show x + (y + 1) - x = y + 1 from by omega]
  by_cases hf : f (y + 1) = true
  · rw [if_pos ⟨by omega, hf⟩, if_pos hf]; rfl
  · rw [if_neg (fun e => hf e.2), if_neg hf]
theorem accM_le (f : Nat → Bool) (h : Nat → Nat) (x y i : Nat) : accM f h x y i ≤ sumP f h i i := by
  have h1 := accX_le f h i x
  have h2 := accX_le f h i (x + 1)
  have h3 : accX f h i (x + 1) = accX f h i x + accT f h i x := rfl
  unfold accM
  split <;> omega

/-- What WaysPart and WaysFew answer. -/
noncomputable def partOk (s : ByteArray) (n k : Int) : Bool := okW s n 40 && inR k 0 40
noncomputable def partV (s : ByteArray) (n k : Int) : Int := if partOk s n k then (partF (fS s) k.toNat n.toNat : Int) else 0
def TellsPart (s : ByteArray) (n k : Int) (e : Ending) : Prop := e = .returned (.tuple #[.int .i64 (partV s n k), .bool (partOk s n k)])
theorem tellsPart_off {s : ByteArray} {n k : Int} (h : partOk s n k = false) : TellsPart s n k (.returned (.tuple #[.int .i64 0, .bool false])) := by unfold TellsPart partV; rw [h]; rfl
theorem tellsPart_on {s : ByteArray} {n k : Nat} {v : Int} (h : partOk s n k = true) (hv : v = (partF (fS s) k n : Int)) : TellsPart s (n : Int) (k : Int) (.returned (.tuple #[.int .i64 v, .bool true])) := by
  unfold TellsPart partV; rw [h, hv]; rfl
noncomputable def fewOk (s : ByteArray) (n : Int) : Bool := okW s n 200 && !decide (fewF (fS s) n.toNat = -1)
noncomputable def fewV (s : ByteArray) (n : Int) : Int := if fewOk s n then fewF (fS s) n.toNat else 0
def TellsFew (s : ByteArray) (n : Int) (e : Ending) : Prop := e = .returned (.tuple #[.int .i64 (fewV s n), .bool (fewOk s n)])
theorem tellsFew_off {s : ByteArray} {n : Int} (h : fewOk s n = false) : TellsFew s n (.returned (.tuple #[.int .i64 0, .bool false])) := by unfold TellsFew fewV; rw [h]; rfl
theorem tellsFew_on {s : ByteArray} {n : Nat} {v : Int} (h : fewOk s n = true) (hv : v = fewF (fS s) n) : TellsFew s (n : Int) (.returned (.tuple #[.int .i64 v, .bool true])) := by
  unfold TellsFew fewV; rw [h, hv]; rfl

end Go.Proofs.Ytojjfkabepkhdaa
