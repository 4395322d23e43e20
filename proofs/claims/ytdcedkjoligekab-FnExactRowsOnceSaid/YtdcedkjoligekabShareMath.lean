/-
  The least common multiple of the steps of rows, and the sum of one over them, as plain facts.
-/
import Derived.Test.YtdcedkjoligekabRowMath
namespace Go.Proofs.Ytdcedkjoligekab
set_option linter.unusedVariables false

/-- The least common multiple of the steps that are not 0. -/
def lcmAll (l : List Rw) : Nat := l.foldl (fun m r => if 0 < r.s then Nat.lcm m r.s else m) 1
theorem lcmAll_snoc (l : List Rw) (r : Rw) : lcmAll (l ++ [r]) = if 0 < r.s then Nat.lcm (lcmAll l) r.s else lcmAll l := by
  unfold lcmAll; rw [List.foldl_append]; rfl
theorem take_getD (l : List Rw) (k : Nat) (h : k < l.length) : l.take (k + 1) = l.take k ++ [l.getD k default] := by
  rw [List.take_succ_eq_append_getElem h, List.getD_eq_getElem?_getD, List.getElem?_eq_getElem h]; rfl
theorem lcmAll_take (l : List Rw) (k : Nat) (h : k < l.length) : lcmAll (l.take (k + 1)) = if 0 < (l.getD k default).s then Nat.lcm (lcmAll (l.take k)) (l.getD k default).s else lcmAll (l.take k) := by
  rw [take_getD l k h, lcmAll_snoc]
theorem lcmAll_pos (l : List Rw) : 0 < lcmAll l := by
  have : ∀ (l : List Rw) m, 0 < m → 0 < l.foldl (fun m r => if 0 < r.s then Nat.lcm m r.s else m) m := by
    intro l
    induction l with
    | nil => intro m h; exact h
    | cons r l ih =>
      intro m h
      rw [List.foldl_cons]
      apply ih
      by_cases h0 : 0 < r.s
      · rw [if_pos h0]; exact lcm_pos h h0
      · rw [if_neg h0]; exact h
  exact this l 1 (by decide)
theorem foldl_dvd (l : List Rw) : ∀ m, m ∣ l.foldl (fun m r => if 0 < r.s then Nat.lcm m r.s else m) m := by
  induction l with
  | nil => intro m; exact Nat.dvd_refl _
  | cons r l ih =>
    intro m
    rw [List.foldl_cons]
    refine Nat.dvd_trans ?_ (ih _)
    by_cases h0 : 0 < r.s
    · rw [if_pos h0]; exact Nat.dvd_lcm_left _ _
    · rw [if_neg h0]; exact Nat.dvd_refl _
theorem lcmAll_append_dvd (l l' : List Rw) : lcmAll l ∣ lcmAll (l ++ l') := by
  unfold lcmAll; rw [List.foldl_append]; exact foldl_dvd _ _
theorem lcmAll_take_dvd (l : List Rw) (k : Nat) : lcmAll (l.take k) ∣ lcmAll l := by
  have := lcmAll_append_dvd (l.take k) (l.drop k)
  rwa [List.take_append_drop] at this
theorem lcmAll_take_le (l : List Rw) (k : Nat) : lcmAll (l.take k) ≤ lcmAll l := Nat.le_of_dvd (lcmAll_pos _) (lcmAll_take_dvd _ _)
theorem step_dvd {l : List Rw} {r : Rw} (h : r ∈ l) (h0 : 0 < r.s) : r.s ∣ lcmAll l := by
  obtain ⟨a, b, rfl⟩ := List.append_of_mem h
  have e : a ++ r :: b = (a ++ [r]) ++ b := by simp
  rw [e]
  refine Nat.dvd_trans ?_ (lcmAll_append_dvd _ _)
  rw [lcmAll_snoc, if_pos h0]
  exact Nat.dvd_lcm_right _ _
/-- What all steps divide, their least common multiple divides. -/
theorem lcmAll_least {l : List Rw} {M : Nat} (h : ∀ r ∈ l, 0 < r.s → r.s ∣ M) : lcmAll l ∣ M := by
  have : ∀ (l : List Rw) m, m ∣ M → (∀ r ∈ l, 0 < r.s → r.s ∣ M) → l.foldl (fun m r => if 0 < r.s then Nat.lcm m r.s else m) m ∣ M := by
    intro l
    induction l with
    | nil => intro m hm _; exact hm
    | cons r l ih =>
      intro m hm hl
      rw [List.foldl_cons]
      apply ih
      · by_cases h0 : 0 < r.s
        · rw [if_pos h0]; exact Nat.lcm_dvd hm (hl r (List.mem_cons_self ..) h0)
        · rw [if_neg h0]; exact hm
      · exact fun q hq => hl q (List.mem_cons_of_mem _ hq)
  exact this l 1 (Nat.one_dvd _) h

/-- The sum of M over the steps that are not 0. -/
def sumOver (M : Nat) (l : List Rw) : Nat := (l.map fun r => if 0 < r.s then M / r.s else 0).sum
theorem sumOver_snoc (M : Nat) (l : List Rw) (r : Rw) : sumOver M (l ++ [r]) = sumOver M l + (if 0 < r.s then M / r.s else 0) := by
  unfold sumOver; rw [List.map_append, List.sum_append]; simp
theorem sumOver_take (M : Nat) (l : List Rw) (k : Nat) (h : k < l.length) : sumOver M (l.take (k + 1)) = sumOver M (l.take k) + (if 0 < (l.getD k default).s then M / (l.getD k default).s else 0) := by
  rw [take_getD l k h, sumOver_snoc]
theorem sumOver_le (M : Nat) (l : List Rw) : sumOver M l ≤ l.length * M := by
  induction l with
  | nil => exact Nat.zero_le _
  | cons r l ih =>
    have e : sumOver M (r :: l) = (if 0 < r.s then M / r.s else 0) + sumOver M l := by unfold sumOver; rfl
    have h1 : (if 0 < r.s then M / r.s else 0) ≤ M := by split; exact Nat.div_le_self _ _; exact Nat.zero_le _
    rw [e, List.length_cons, Nat.succ_mul]
    omega
theorem sumOver_scale {M L : Nat} {l : List Rw} (h : ∀ r ∈ l, 0 < r.s → r.s ∣ L) (hL : 0 < L) (hM : L ∣ M) : sumOver M l = sumOver L l * (M / L) := by
  induction l with
  | nil => simp [sumOver]
  | cons r l ih =>
    have e : ∀ X, sumOver X (r :: l) = (if 0 < r.s then X / r.s else 0) + sumOver X l := fun X => by unfold sumOver; rfl
    rw [e, e, ih (fun q hq => h q (List.mem_cons_of_mem _ hq)), Nat.add_mul]
    congr 1
    by_cases h0 : 0 < r.s
    · rw [if_pos h0, if_pos h0]
      obtain ⟨d, hd⟩ := h r (List.mem_cons_self ..) h0
      obtain ⟨f, rfl⟩ := hM
      rw [Nat.mul_div_cancel_left f hL, hd, Nat.mul_div_cancel_left d h0, Nat.mul_assoc, Nat.mul_div_cancel_left _ h0]
    · rw [if_neg h0, if_neg h0, Nat.zero_mul]

/-- What RowsShare answers. -/
def shareB (rs : List (List Int)) : Bool := goodRows rs && decide (lcmAll (theRows rs) ≤ 1000000)
def shareG (l : List Rw) : Nat := Nat.gcd (sumOver (lcmAll l) l) (lcmAll l)
def shareX (rs : List (List Int)) : Nat := if shareB rs = true then sumOver (lcmAll (theRows rs)) (theRows rs) / shareG (theRows rs) else 0
def shareY (rs : List (List Int)) : Nat := if shareB rs = true then lcmAll (theRows rs) / shareG (theRows rs) else 0
theorem shareG_pos (l : List Rw) : 0 < shareG l := Nat.gcd_pos_of_pos_right _ (lcmAll_pos l)

end Go.Proofs.Ytdcedkjoligekab
