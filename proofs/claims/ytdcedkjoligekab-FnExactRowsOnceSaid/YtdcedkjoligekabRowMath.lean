/-
  Rows of equal steps, as plain facts: what a row has, what two rows have in common, rows in early form.
-/
import Derived.Test.YtdcedkjoligekabRows
namespace Go.Proofs.Ytdcedkjoligekab
set_option linter.unusedVariables false

/-- A row: its beginning and its step. -/
structure Rw where
  b : Nat
  s : Nat

instance : Inhabited Rw := ⟨⟨0, 0⟩⟩

/-- A row has a number. -/
def Rw.has (r : Rw) (n : Nat) : Bool := if r.s = 0 then n == r.b else decide (r.b ≤ n) && (n - r.b) % r.s == 0

theorem has_zero {r : Rw} (h : r.s = 0) (n : Nat) : r.has n = true ↔ n = r.b := by unfold Rw.has; rw [if_pos h]; simp
theorem has_pos {r : Rw} (h : 0 < r.s) (n : Nat) : r.has n = true ↔ r.b ≤ n ∧ r.s ∣ n - r.b := by
  unfold Rw.has; rw [if_neg (by omega)]; simp [Nat.dvd_iff_mod_eq_zero]
theorem has_begin (r : Rw) : r.has r.b = true := by
  rcases Nat.eq_zero_or_pos r.s with h | h
  · exact (has_zero h _).2 rfl
  · exact (has_pos h _).2 ⟨Nat.le_refl _, by rw [Nat.sub_self]; exact Nat.dvd_zero _⟩
theorem has_ge {r : Rw} {n : Nat} (h : r.has n = true) : r.b ≤ n := by
  rcases Nat.eq_zero_or_pos r.s with h0 | h0
  · have := (has_zero h0 n).1 h; omega
  · exact ((has_pos h0 n).1 h).1

/-- From a number of a row on, it has just what goes on by its step. -/
theorem has_from {r : Rw} (h : 0 < r.s) {n0 n : Nat} (h0 : r.has n0 = true) (hle : n0 ≤ n) : r.has n = true ↔ r.s ∣ n - n0 := by
  have h1 := (has_pos h n0).1 h0
  rw [has_pos h]
  constructor
  · intro h2
    have := Nat.dvd_sub h2.2 h1.2
    rwa [show n - r.b - (n0 - r.b) = n - n0 from by omega] at this
  · intro h2
    refine ⟨by omega, ?_⟩
    have := Nat.dvd_add h2 h1.2
    rwa [show n - n0 + (n0 - r.b) = n - r.b from by omega] at this

theorem lcm_pos {a b : Nat} (ha : 0 < a) (hb : 0 < b) : 0 < Nat.lcm a b := Nat.lcm_pos ha hb

/-- What two rows that go on have in common from a common number on. -/
theorem both_from {r q : Rw} (hr : 0 < r.s) (hq : 0 < q.s) {n0 n : Nat} (h0 : r.has n0 = true) (h1 : q.has n0 = true) (hle : n0 ≤ n) : (r.has n = true ∧ q.has n = true) ↔ Nat.lcm r.s q.s ∣ n - n0 := by
  rw [has_from hr h0 hle, has_from hq h1 hle]
  exact ⟨fun h => Nat.lcm_dvd h.1 h.2, fun h => ⟨Nat.dvd_trans (Nat.dvd_lcm_left _ _) h, Nat.dvd_trans (Nat.dvd_lcm_right _ _) h⟩⟩

/-- The least common number. -/
def Least (r q : Rw) (n : Nat) : Prop := r.has n = true ∧ q.has n = true ∧ ∀ k, k < n → ¬ (r.has k = true ∧ q.has k = true)

theorem least_there {r q : Rw} {n : Nat} (h : r.has n = true) (h2 : q.has n = true) : ∃ m, Least r q m := by
  induction n using Nat.strongRecOn with
  | ind n ih =>
    by_cases hk : ∃ k, k < n ∧ r.has k = true ∧ q.has k = true
    · obtain ⟨k, hk, a, b⟩ := hk
      exact ih k hk a b
    · exact ⟨n, h, h2, fun k hk2 hc => hk ⟨k, hk2, hc⟩⟩
theorem least_one {r q : Rw} {m n : Nat} (h : Least r q m) (k : Least r q n) : m = n := by
  rcases Nat.lt_trichotomy m n with h1 | h1 | h1
  · exact (k.2.2 m h1 ⟨h.1, h.2.1⟩).elim
  · exact h1
  · exact (h.2.2 n h1 ⟨k.1, k.2.1⟩).elim
theorem least_comm {r q : Rw} {m : Nat} (h : Least r q m) : Least q r m := ⟨h.2.1, h.1, fun k hk hc => h.2.2 k hk ⟨hc.2, hc.1⟩⟩

/-- The step of what two rows have in common. -/
def stepOf (r q : Rw) : Nat := if r.s = 0 ∨ q.s = 0 then 0 else Nat.lcm r.s q.s
theorem stepOf_comm (r q : Rw) : stepOf r q = stepOf q r := by
  unfold stepOf
  by_cases h : r.s = 0 ∨ q.s = 0
  · rw [if_pos h, if_pos h.symm]
  · rw [if_neg h, if_neg (fun k => h k.symm), Nat.lcm_comm]

/-- The row of what two rows have in common has just that. -/
theorem least_has {r q : Rw} {m : Nat} (h : Least r q m) (n : Nat) : (Rw.mk m (stepOf r q)).has n = (r.has n && q.has n) := by
  rw [Bool.eq_iff_iff, Bool.and_eq_true]
  by_cases hz : r.s = 0 ∨ q.s = 0
  · have e : stepOf r q = 0 := by unfold stepOf; rw [if_pos hz]
    rw [e, has_zero rfl]
    constructor
    · rintro rfl; exact ⟨h.1, h.2.1⟩
    · rintro ⟨h1, h2⟩
      show n = m
      rcases hz with hz | hz
      · rw [(has_zero hz n).1 h1, (has_zero hz m).1 h.1]
      · rw [(has_zero hz n).1 h2, (has_zero hz m).1 h.2.1]
  · have hr : 0 < r.s := by omega
    have hq : 0 < q.s := by omega
    have e : stepOf r q = Nat.lcm r.s q.s := by unfold stepOf; rw [if_neg hz]
    rw [e, has_pos (lcm_pos hr hq)]
    constructor
    · rintro ⟨h1, h2⟩
      exact (both_from hr hq h.1 h.2.1 h1).2 h2
    · intro hb
      have hle : m ≤ n := by
        rcases Nat.lt_or_ge n m with k | k
        · exact (h.2.2 n k hb).elim
        · exact k
      exact ⟨hle, (both_from hr hq h.1 h.2.1 hle).1 hb⟩

/-- The least common number comes within one common multiple behind both beginnings. -/
theorem least_lt {r q : Rw} (hr : 0 < r.s) (hq : 0 < q.s) {m : Nat} (h : Least r q m) : m < max r.b q.b + Nat.lcm r.s q.s := by
  have hl := lcm_pos hr hq
  rcases Nat.lt_or_ge m (max r.b q.b + Nat.lcm r.s q.s) with k | k
  · exact k
  · exfalso
    have h1 := (has_pos hr m).1 h.1
    have h2 := (has_pos hq m).1 h.2.1
    refine h.2.2 (m - Nat.lcm r.s q.s) (by omega) ⟨(has_pos hr _).2 ⟨by omega, ?_⟩, (has_pos hq _).2 ⟨by omega, ?_⟩⟩
    · have := Nat.dvd_sub h1.2 (Nat.dvd_lcm_left r.s q.s)
      rwa [show m - r.b - Nat.lcm r.s q.s = m - Nat.lcm r.s q.s - r.b from by omega] at this
    · have := Nat.dvd_sub h2.2 (Nat.dvd_lcm_right r.s q.s)
      rwa [show m - q.b - Nat.lcm r.s q.s = m - Nat.lcm r.s q.s - q.b from by omega] at this

/-- A row that goes on, begun as early as its step allows. -/
def Rw.Early (r : Rw) : Prop := r.b < r.s
def Rw.early (r : Rw) : Rw := ⟨r.b % r.s, r.s⟩
theorem early_ok {r : Rw} (h : 0 < r.s) : r.early.Early := Nat.mod_lt _ h
theorem early_has {r : Rw} (h : r.Early) (n : Nat) : r.has n = true ↔ n % r.s = r.b := by
  unfold Rw.Early at h
  have hs : 0 < r.s := by omega
  rw [has_pos hs]
  constructor
  · rintro ⟨h1, h2⟩
    obtain ⟨k, hk⟩ := h2
    have : n = r.b + r.s * k := by omega
    rw [this, Nat.add_mul_mod_self_left, Nat.mod_eq_of_lt h]
  · intro h1
    have h2 := Nat.mod_le n r.s
    refine ⟨by omega, ?_⟩
    rw [← h1]
    exact Nat.dvd_sub_mod n
theorem early_has_ge {r : Rw} (h : 0 < r.s) {n : Nat} (hn : r.b ≤ n) : r.early.has n = r.has n := by
  rw [Bool.eq_iff_iff, early_has (early_ok h), has_pos h]
  show n % r.s = r.b % r.s ↔ _
  constructor
  · intro h1
    refine ⟨hn, ?_⟩
    have h2 := Nat.div_add_mod n r.s
    have h3 := Nat.div_add_mod r.b r.s
    have h4 : r.b / r.s ≤ n / r.s := Nat.div_le_div_right hn
    refine ⟨n / r.s - r.b / r.s, ?_⟩
    rw [Nat.mul_sub]
    omega
  · rintro ⟨_, k, hk⟩
    have : n = r.b + r.s * k := by omega
    rw [this, Nat.add_mul_mod_self_left]

/-- How many rows have a number. -/
def cnt (rs : List Rw) (n : Nat) : Nat := rs.countP fun r => r.has n
theorem cnt_take (rs : List Rw) (n k : Nat) (h : k < rs.length) : cnt (rs.take (k + 1)) n = cnt (rs.take k) n + (if (rs[k]).has n then 1 else 0) := by
  unfold cnt
  rw [List.take_succ_eq_append_getElem h, List.countP_append, List.countP_singleton]
theorem cnt_le (rs : List Rw) (n : Nat) : cnt rs n ≤ rs.length := List.countP_le_length
theorem cnt_pos (rs : List Rw) (n : Nat) : 0 < cnt rs n ↔ ∃ r ∈ rs, r.has n = true := by
  unfold cnt; exact List.countP_pos_iff

/-- A list of two numbers that is a row, and a list of lists that are rows. -/
def goodRow (z : List Int) : Bool := z.length == 2 && decide (0 ≤ z.getD 0 0 ∧ z.getD 0 0 ≤ 59) && decide (0 ≤ z.getD 1 0 ∧ z.getD 1 0 ≤ 60)
def theRow (z : List Int) : Rw := ⟨(z.getD 0 0).toNat, (z.getD 1 0).toNat⟩
def goodRows (zs : List (List Int)) : Bool := decide (zs.length ≤ 20) && zs.all goodRow
def theRows (zs : List (List Int)) : List Rw := zs.map theRow

theorem goodRow_parts {z : List Int} (h : goodRow z = true) : z = [((theRow z).b : Int), ((theRow z).s : Int)] ∧ (theRow z).b ≤ 59 ∧ (theRow z).s ≤ 60 := by
  unfold goodRow at h
  simp only [Bool.and_eq_true, beq_iff_eq, decide_eq_true_eq] at h
  obtain ⟨⟨h1, h2⟩, h3⟩ := h
  match z, h1 with
  | [x, y], _ =>
    simp only [List.getD_cons_zero, List.getD_cons_succ] at h2 h3
    have a : ((theRow [x, y]).b : Int) = x := by show ((x.toNat : Nat) : Int) = x; omega
    have b : ((theRow [x, y]).s : Int) = y := by show ((y.toNat : Nat) : Int) = y; omega
    refine ⟨by rw [a, b], ?_, ?_⟩
    · show x.toNat ≤ 59; omega
    · show y.toNat ≤ 60; omega

/-- A row is in its ranges. -/
def Rw.Fits (r : Rw) : Prop := r.b ≤ 59 ∧ r.s ≤ 60
theorem goodRows_fits {zs : List (List Int)} (h : goodRows zs = true) : (theRows zs).length ≤ 20 ∧ ∀ r ∈ theRows zs, r.Fits := by
  unfold goodRows at h
  simp only [Bool.and_eq_true, decide_eq_true_eq, List.all_eq_true] at h
  refine ⟨by unfold theRows; rw [List.length_map]; exact h.1, ?_⟩
  intro r hr
  unfold theRows at hr
  obtain ⟨z, hz, rfl⟩ := List.mem_map.1 hr
  exact (goodRow_parts (h.2 z hz)).2

end Go.Proofs.Ytdcedkjoligekab
