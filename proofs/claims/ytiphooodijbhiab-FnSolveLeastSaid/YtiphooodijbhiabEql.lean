/-
  Two arrays of 180 truths, held against each other; sets that agree on their first 180 numbers.
-/
import Derived.Test.YtiphooodijbhiabFirst
import Derived.Test.YtiphooodijbhiabText
import Derived.ChangeKeysEq
namespace Go.Proofs.Ytiphooodijbhiab
open Go.RowKit

theorem Try.cellsBool : Try.prog.cellsOf 4 = 1 := by kernel_rfl
theorem run_part_bool (f : Nat → Bool) (i : Nat) (w : World) (h : i < 180) : (_root_.Go.part 4 (firstV f) (i * 1)).run Try.prog w = .ok (.bool (f i)) w := by
  have e := firstV_at f i h
  simp [_root_.Go.part, e]
/-- Do f and g agree on the first 180 numbers? -/
def agreeB (f g : Nat → Bool) : Bool := (List.range 180).all fun i => f i == g i
theorem run_items (d : Nat) (f g : Nat → Bool) (w : World) : ∀ is : List Nat, (∀ i ∈ is, i < 180) → (Op.eqItems (d + 1) 4 1 (firstV f) (firstV g) is).run Try.prog w = .ok (is.all fun i => f i == g i) w
  | [], _ => by simp [Op.eqItems]
  | i :: is, h => by
    have hi := h i (by simp)
    have ih := run_items d f g w is (fun j hj => h j (by simp [hj]))
    simp only [Op.eqItems, Sem.run_bind, run_part_bool f i w hi, run_part_bool g i w hi, Result.andThen_ok, run_equalIn_bool' w d 4 (f i) (g i) Try.underlying4, List.all_cons]
    cases hfg : (f i == g i)
    · simp
    · simp [ih]
theorem run_equalIn_first (f g : Nat → Bool) (w : World) : (Op.equalIn 10000 90 (.agg (firstV f)) (.agg (firstV g))).run Try.prog w = .ok (agreeB f g) w := by
  obtain ⟨i, hi, _⟩ := info_parts Try.infoBool
  rw [run_equalIn_array (P := Try.prog) (w := w) 9999 (n := 180) (e := 4) (firstV f) (firstV g) Try.underlying90 hi, Try.cellsBool]
  rw [run_items 9998 f g w (List.range 180) (fun j hj => List.mem_range.1 hj)]
  rfl
theorem run_eql_first (f g : Nat → Bool) (w : World) : (binOp .eql 90 (.agg (firstV f)) (.agg (firstV g))).run Try.prog w = .ok (.bool (agreeB f g)) w := by
  obtain ⟨i, hi, _⟩ := info_parts Try.infoBool
  rw [run_eql_struct, run_equalIn_array (P := Try.prog) (w := w) 9999 (n := 180) (e := 4) (firstV f) (firstV g) Try.underlying90 hi, Try.cellsBool]
  rw [run_items 9998 f g w (List.range 180) (fun j hj => List.mem_range.1 hj)]
  rfl

theorem agree_of {f g : Nat → Bool} (h : agreeB f g = true) (i : Nat) (hi : i < 180) : f i = g i := by
  unfold agreeB at h
  exact eq_of_beq (List.all_eq_true.1 h i (List.mem_range.2 hi))
theorem agree_eq {f : Nat → Bool} {g : Nat → Bool} (h : f = g) : agreeB f g = true := by
  subst h
  unfold agreeB
  rw [List.all_eq_true]
  intro i _
  simp
/-- Sets with short tails and rings that agree on the first 180 numbers are the same. -/
theorem agree_all {f g : Nat → Bool} {m q m' q' : Nat} (hf : Tidy f m q) (hg : Tidy g m' q') (hm : m ≤ 60) (hq : q ≤ 60) (hm' : m' ≤ 60) (hq' : q' ≤ 60) (h : agreeB f g = true) : f = g := by
  funext n
  induction n using Nat.strongRecOn with
  | ind n ih =>
    rcases Nat.lt_or_ge n 180 with k | k
    · exact agree_of h n k
    · have p0 := hf.pos
      have p1 := hg.pos
      have a1 := hf.per (n - q) (by omega)
      have a2 := hg.per (n - q') (by omega)
      have a3 := hg.per (n - q - q') (by omega)
      have a4 := hf.per (n - q - q') (by omega)
      rw [show n - q + q = n from by omega] at a1
      rw [show n - q' + q' = n from by omega] at a2
      rw [show n - q - q' + q' = n - q from by omega] at a3
      rw [show n - q - q' + q = n - q' from by omega] at a4
      rw [a1, a2, ih (n - q) (by omega), a3, ← ih (n - q - q') (by omega), ← a4, ih (n - q') (by omega)]

theorem signsOf_inj {t t' : List Bool} (h : signsOf t = signsOf t') : t = t' := by
  unfold signsOf at h
  exact (List.map_inj_right (fun a b hab => by revert hab; cases a <;> cases b <;> decide)).1 h
theorem signsOf_no (t : List Bool) : ∀ x ∈ signsOf t, x ≠ 40 ∧ x ≠ 41 := by
  intro x hx
  unfold signsOf at hx
  obtain ⟨b, _, rfl⟩ := List.mem_map.1 hx
  cases b <;> decide
/-- The text tells tail and ring. -/
theorem textOf_inj {t r t' r' : List Bool} (h : textOf t r = textOf t' r') : t = t' ∧ r = r' := by
  unfold textOf at h
  have h1 := cut1_free 40 (signsOf t) (signsOf r ++ [41]) (fun x hx => (signsOf_no t x hx).1)
  have h2 := cut1_free 40 (signsOf t') (signsOf r' ++ [41]) (fun x hx => (signsOf_no t' x hx).1)
  rw [h, h2] at h1
  injection h1 with e1 e2
  injection e2 with e2 _
  have e3 : signsOf r' = signsOf r := List.append_cancel_right e2
  exact ⟨(signsOf_inj e1).symm, (signsOf_inj e3).symm⟩
/-- Tidy texts agree just if the sets do. -/
theorem tidyText_eq {f g : Nat → Bool} {m q m' q' : Nat} (hf : Tidy f m q) (hg : Tidy g m' q') (h : textOf (part f 0 m) (part f m q) = textOf (part g 0 m') (part g m' q')) : f = g := by
  obtain ⟨h1, h2⟩ := textOf_inj h
  have e1 : m = m' := by have := congrArg List.length h1; rw [part_length, part_length] at this; exact this
  have e2 : q = q' := by have := congrArg List.length h2; rw [part_length, part_length] at this; exact this
  subst e1; subst e2
  funext n
  rcases Nat.lt_or_ge n m with k | k
  · have := congrArg (fun l => l.getD n false) h1
    simp only [part_getD f 0 m n k, part_getD g 0 m n k, Nat.zero_add] at this
    exact this
  · have hp := hf.pos
    have hmod := Nat.mod_lt (n - m) hp
    have e : n = (m + (n - m) % q) + (n - m) / q * q := by
      have : (n - m) % q + (n - m) / q * q = n - m := by rw [Nat.mul_comm]; exact Nat.mod_add_div (n - m) q
      omega
    rw [e, per_rounds hf.per _ _ (by omega), per_rounds hg.per _ _ (by omega)]
    have := congrArg (fun l => l.getD ((n - m) % q) false) h2
    simp only [part_getD f m q _ hmod, part_getD g m q _ hmod] at this
    exact this
end Go.Proofs.Ytiphooodijbhiab
