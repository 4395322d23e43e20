/-
  How often a number is in rows that go on: plain facts.
-/
import Derived.Test.YtdcedkjoligekaaCoverMath
namespace Go.Proofs.Ytdcedkjoligekaa
set_option linter.unusedVariables false

theorem cnt_getD (l : List Rw) (n k : Nat) (h : k < l.length) : cnt (l.take (k + 1)) n = cnt (l.take k) n + (if (l.getD k default).has n then 1 else 0) := by
  rw [cnt_take l n k h, List.getD_eq_getElem?_getD, List.getElem?_eq_getElem h]; rfl
theorem cnt_mono (l : List Rw) (n : Nat) {i j : Nat} (h : i ≤ j) : cnt (l.take i) n ≤ cnt (l.take j) n := by
  unfold cnt
  have e : l.take i = (l.take j).take i := by rw [List.take_take, Nat.min_eq_left h]
  rw [e]
  exact List.Sublist.countP_le (List.take_sublist _ _)

/-- No two rows, told at different places, have a number in common. -/
def Disjoint (g : List Rw) (k : Nat) : Prop := ∀ i, i < k → ∀ j, j < i → ∀ n, ¬ ((g.getD i default).has n = true ∧ (g.getD j default).has n = true)
theorem cnt_zero {g : List Rw} {k n : Nat} (hk : k ≤ g.length) (h : ∀ j, j < k → (g.getD j default).has n = false) : cnt (g.take k) n = 0 := by
  induction k with
  | zero => rfl
  | succ k ih => rw [cnt_getD g n k (by omega), ih (by omega) (fun j hj => h j (by omega)), h k (by omega)]; rfl
theorem disjoint_le {g : List Rw} {k : Nat} (hk : k ≤ g.length) (h : Disjoint g k) (n : Nat) : cnt (g.take k) n ≤ 1 := by
  induction k with
  | zero => exact Nat.zero_le _
  | succ k ih =>
    rw [cnt_getD g n k (by omega)]
    cases e : (g.getD k default).has n
    · have := ih (by omega) (fun i hi => h i (by omega))
      simpa using this
    · rw [cnt_zero (by omega) (fun j hj => by
        cases e2 : (g.getD j default).has n
        · rfl
        · exact (h k (by omega) j hj n ⟨e, e2⟩).elim)]
      simp
theorem disjoint_iff (g : List Rw) : Disjoint g g.length ↔ ∀ n, cnt g n ≤ 1 := by
  constructor
  · intro h n
    have := disjoint_le (Nat.le_refl _) h n
    rwa [List.take_length] at this
  · intro h i hi j hj n hn
    have h1 := h n
    have h2 := cnt_mono g n (show i + 1 ≤ g.length from hi)
    rw [List.take_length] at h2
    have h3 := cnt_mono g n (show j + 1 ≤ i from hj)
    have h4 := cnt_getD g n i hi
    have h5 := cnt_getD g n j (by omega)
    rw [hn.1, if_pos rfl] at h4
    rw [hn.2, if_pos rfl] at h5
    omega

theorem covers_cnt {g : List Rw} (hg : Going g) : Covers g ↔ ∀ n, 0 < cnt g n := by
  constructor
  · intro h n
    obtain ⟨r, hr, e⟩ := h n
    exact (cnt_pos g n).2 ⟨r, hr, (early_has (hg r hr).1 n).2 e⟩
  · intro h n
    obtain ⟨r, hr, e⟩ := (cnt_pos g n).1 (h n)
    exact ⟨r, hr, (early_has (hg r hr).1 n).1 e⟩
/-- Each number is in just one row. -/
def Once (g : List Rw) : Prop := ∀ n, cnt g n = 1
theorem once_iff {g : List Rw} (hg : Going g) : (Covers g ∧ Disjoint g g.length) ↔ Once g := by
  rw [covers_cnt hg, disjoint_iff]
  constructor
  · rintro ⟨h1, h2⟩ n
    have := h1 n; have := h2 n; omega
  · intro h
    exact ⟨fun n => by rw [h n]; decide, fun n => by rw [h n]; exact Nat.le_refl _⟩

/-- What comes round. -/
theorem has_round {r : Rw} {M n : Nat} (hr : r.b < r.s) (hM : r.s ∣ M) : r.has (n + M) = r.has n := by
  rw [Bool.eq_iff_iff, early_has hr, early_has hr]
  obtain ⟨k, rfl⟩ := hM
  rw [Nat.add_mul_mod_self_left]
theorem cnt_round {g : List Rw} (hg : Going g) {M : Nat} (hM : ∀ r ∈ g, r.s ∣ M) (n : Nat) : cnt g (n + M) = cnt g n := by
  unfold cnt
  exact List.countP_congr fun r hr => by rw [has_round (hg r hr).1 (hM r hr)]
theorem cnt_rounds {g : List Rw} (hg : Going g) {M : Nat} (hM : ∀ r ∈ g, r.s ∣ M) (n k : Nat) : cnt g (n + M * k) = cnt g n := by
  induction k with
  | zero => simp
  | succ k ih => rw [Nat.mul_succ, ← Nat.add_assoc, cnt_round hg hM, ih]
/-- One round, wherever it begins, tells all. -/
theorem round_all {g : List Rw} (hg : Going g) {M : Nat} (hM0 : 0 < M) (hM : ∀ r ∈ g, r.s ∣ M) (B : Nat) {P : Nat → Prop} (h : ∀ n, n < M → P (cnt g (B + n))) (m : Nat) : P (cnt g m) := by
  have e : cnt g m = cnt g (m + M * B) := (cnt_rounds hg hM m B).symm
  have hle : B ≤ m + M * B := Nat.le_trans (Nat.le_mul_of_pos_left B hM0) (Nat.le_add_left _ _)
  have e2 : m + M * B = (B + (m + M * B - B) % M) + M * ((m + M * B - B) / M) := by
    have := Nat.mod_add_div (m + M * B - B) M
    omega
  rw [e, e2, cnt_rounds hg hM]
  exact h _ (Nat.mod_lt _ hM0)

/-! ### The share -/

theorem sum_swap (g : List Rw) (M : Nat) : ((List.range M).map fun n => cnt g n).sum = (g.map fun r => (List.range M).countP fun n => r.has n).sum := by
  induction g with
  | nil =>
    have : ∀ M, ((List.range M).map fun n => cnt [] n).sum = 0 := by
      intro M
      induction M with
      | zero => rfl
      | succ M ih => rw [List.range_succ, List.map_append, List.sum_append, ih]; rfl
    exact this M
  | cons r g ih =>
    have e : ∀ n, cnt (r :: g) n = (if r.has n then 1 else 0) + cnt g n := fun n => by
      unfold cnt; rw [List.countP_cons, Nat.add_comm]
    rw [List.map_cons, List.sum_cons, ← ih]
    have : ∀ M, ((List.range M).map fun n => cnt (r :: g) n).sum = (List.range M).countP (fun n => r.has n) + ((List.range M).map fun n => cnt g n).sum := by
      intro M
      induction M with
      | zero => rfl
      | succ M ih2 =>
        rw [List.range_succ, List.map_append, List.sum_append, ih2, List.countP_append, List.map_append, List.sum_append]
        simp only [List.map_cons, List.map_nil, List.sum_cons, List.sum_nil, List.countP_singleton, e]
        omega
    exact this M
theorem count_one {s b : Nat} (hb : b < s) (m : Nat) (hm : m ≤ s) : List.countP (fun n => (Rw.mk b s).has n) (List.range m) = if b < m then 1 else 0 := by
  induction m with
  | zero => rfl
  | succ m ih =>
    rw [List.range_succ, List.countP_append, ih (by omega), List.countP_singleton]
    have hh : (Rw.mk b s).has m = true ↔ m = b := by
      rw [early_has (r := ⟨b, s⟩) hb]
      show m % s = b ↔ m = b
      rw [Nat.mod_eq_of_lt (by omega)]
    by_cases h2 : m = b
    · rw [if_pos (hh.2 h2), if_neg (by omega), if_pos (by omega)]
    · have h3 : ¬ (Rw.mk b s).has m = true := fun e => h2 (hh.1 e)
      rw [if_neg h3]
      by_cases h1 : b < m
      · rw [if_pos h1, if_pos (by omega)]
      · rw [if_neg h1, if_neg (by omega)]
/-- In so many rounds of a row it has so many numbers. -/
theorem count_rounds {r : Rw} (hr : r.b < r.s) (k : Nat) : (List.range (r.s * k)).countP (fun n => r.has n) = k := by
  induction k with
  | zero => rfl
  | succ k ih =>
    rw [Nat.mul_succ, List.range_add, List.countP_append, ih, List.countP_map]
    have e : List.countP ((fun n => r.has n) ∘ fun x => r.s * k + x) (List.range r.s) = List.countP (fun n => r.has n) (List.range r.s) := by
      apply List.countP_congr
      intro x _
      simp only [Function.comp]
      rw [Nat.add_comm, has_round hr (Nat.dvd_mul_right _ _)]
    rw [e]
    have := count_one hr r.s (Nat.le_refl _)
    rw [if_pos hr] at this
    rw [show r = ⟨r.b, r.s⟩ from rfl]
    rw [this]
theorem sum_counts {g : List Rw} (hg : Going g) {M : Nat} (hM : ∀ r ∈ g, r.s ∣ M) : (g.map fun r => (List.range M).countP fun n => r.has n).sum = sumOver M g := by
  induction g with
  | nil => rfl
  | cons r g ih =>
    have h0 := (hg r (List.mem_cons_self ..)).1
    obtain ⟨k, hk⟩ := hM r (List.mem_cons_self ..)
    have e : sumOver M (r :: g) = (if 0 < r.s then M / r.s else 0) + sumOver M g := by unfold sumOver; rfl
    rw [List.map_cons, List.sum_cons, ih (fun q hq => hg q (List.mem_cons_of_mem _ hq)) (fun q hq => hM q (List.mem_cons_of_mem _ hq)), e, if_pos (by omega), hk, count_rounds h0, Nat.mul_div_cancel_left _ (by omega)]
theorem sum_ge {f : Nat → Nat} (h : ∀ n, 1 ≤ f n) (M : Nat) : M ≤ ((List.range M).map f).sum := by
  induction M with
  | zero => exact Nat.le_refl _
  | succ M ih =>
    rw [List.range_succ, List.map_append, List.sum_append]
    have := h M
    simp only [List.map_cons, List.map_nil, List.sum_cons, List.sum_nil]
    omega
theorem sum_one {f : Nat → Nat} (h : ∀ n, f n = 1) (M : Nat) : ((List.range M).map f).sum = M := by
  induction M with
  | zero => rfl
  | succ M ih =>
    rw [List.range_succ, List.map_append, List.sum_append, ih]
    simp [h M]
/-- Rows that cover share one at least; that cover once, just one. -/
theorem covers_share {g : List Rw} (hg : Going g) (h : Covers g) : lcmAll g ≤ sumOver (lcmAll g) g := by
  rw [← sum_counts hg (fun r hr => step_dvd hr (by have := (hg r hr).1; omega)), ← sum_swap]
  exact sum_ge (fun n => (covers_cnt hg).1 h n) _
theorem once_share {g : List Rw} (hg : Going g) (h : Once g) : sumOver (lcmAll g) g = lcmAll g := by
  rw [← sum_counts hg (fun r hr => step_dvd hr (by have := (hg r hr).1; omega)), ← sum_swap]
  exact sum_one h _
end Go.Proofs.Ytdcedkjoligekaa
