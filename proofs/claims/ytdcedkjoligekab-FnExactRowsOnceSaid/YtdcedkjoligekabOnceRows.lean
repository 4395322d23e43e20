/-
  Rows that cover once, 20 of them at most, have a small common multiple: plain facts.
-/
import Derived.Test.YtdcedkjoligekabOnceCount
namespace Go.Proofs.Ytdcedkjoligekab
set_option linter.unusedVariables false
set_option linter.unusedSimpArgs false

theorem count_same {α : Type} {P : α → Bool} {L : List α} (h : L.countP P ≤ 1) {x y : α} (hx : x ∈ L) (hy : y ∈ L) (px : P x = true) (py : P y = true) : x = y := by
  induction L with
  | nil => cases hx
  | cons a L ih =>
    rw [List.countP_cons] at h
    by_cases ha : P a = true
    · rw [if_pos ha] at h
      have h0 : L.countP P = 0 := by omega
      rw [List.countP_eq_zero] at h0
      rcases List.mem_cons.1 hx with rfl | hx
      · rcases List.mem_cons.1 hy with rfl | hy
        · rfl
        · exact absurd py (h0 y hy)
      · exact absurd px (h0 x hx)
    · rw [if_neg ha] at h
      rcases List.mem_cons.1 hx with rfl | hx
      · exact absurd px ha
      · rcases List.mem_cons.1 hy with rfl | hy
        · exact absurd py ha
        · exact ih (by omega) hx hy
def offs (p : Nat) (L : List FRow) : List FRow := L.filter fun x => x.1.s % p != 0
def mulAll : List FRow → Nat
  | [] => 1
  | x :: L => x.1.s * mulAll L
theorem mulAll_dvd {x : FRow} {L : List FRow} (h : x ∈ L) : x.1.s ∣ mulAll L := by
  induction L with
  | nil => cases h
  | cons a L ih =>
    unfold mulAll
    rcases List.mem_cons.1 h with rfl | h
    · exact Nat.dvd_mul_right _ _
    · exact Nat.dvd_trans (ih h) (Nat.dvd_mul_left _ _)
theorem mulAll_coprime {p : Nat} {L : List FRow} (h : ∀ x ∈ L, Nat.Coprime p x.1.s) : Nat.Coprime p (mulAll L) := by
  induction L with
  | nil => exact Nat.coprime_one_right p
  | cons a L ih => exact Nat.Coprime.mul_right (h a (List.mem_cons_self ..)) (ih fun x hx => h x (List.mem_cons_of_mem _ hx))
theorem class_there {p v : Nat} {L : List FRow} (hp : Pr p) (hL : GoodF p L) (h : OnceF L) (hx : ∃ x ∈ L, x.1.s % p = 0) (hv : v < p) : ∃ y ∈ L, y.1.s % p = 0 ∧ y.1.b % p = v := by
  obtain ⟨x0, hx0, h0⟩ := hx
  have hcop : Nat.Coprime p (mulAll (offs p L)) := mulAll_coprime fun x hx => by
    obtain ⟨h1, h2⟩ := List.mem_filter.1 hx
    exact hp.2 _ (hL x h1).2 (by simpa using h2)
  obtain ⟨c, hc, e⟩ := slice_there (v := x0.1.b) (Nat.Coprime.symm hcop) hv
  obtain ⟨n, hn⟩ : ∃ n, n = mulAll (offs p L) * c + x0.1.b := ⟨_, rfl⟩
  rw [← hn] at e
  have hpos : 0 < L.countP (hitF n) := by rw [h n]; exact Nat.one_pos
  obtain ⟨y, hy, hyn⟩ := List.countP_pos_iff.1 hpos
  unfold hitF at hyn
  rw [beq_iff_eq] at hyn
  by_cases hyp : y.1.s % p = 0
  · refine ⟨y, hy, hyp, ?_⟩
    rw [← hyn, Nat.mod_mod_of_dvd _ (Nat.dvd_of_mod_eq_zero hyp)]
    exact e
  · have hd : y.1.s ∣ mulAll (offs p L) := mulAll_dvd (List.mem_filter.2 ⟨hy, by simpa using hyp⟩)
    obtain ⟨k, hk⟩ := hd
    have e2 : n % y.1.s = x0.1.b % y.1.s := by rw [hn, hk, Nat.mul_assoc, Nat.mul_add_mod]
    have := count_same (P := hitF x0.1.b) (L := L) (Nat.le_of_eq (h _)) hx0 hy (by unfold hitF; rw [beq_iff_eq, Nat.mod_eq_of_lt (hL x0 hx0).1]) (by unfold hitF; rw [beq_iff_eq, ← e2]; exact hyn)
    rw [← this] at hyp
    exact absurd h0 hyp

/-- The cost as a sum of single ones. -/
def one (b : Bool) : Nat := if b = true then 1 else 0
theorem cost_cons (x : Nat × Nat) (l : List (Nat × Nat)) (c : Nat → Bool) : costOf (x :: l) c = (x.1 - 1) * one (c x.2) + costOf l c := by
  unfold costOf one
  by_cases h : c x.2 = true <;> simp [h]
theorem cost_open (c : Nat → Bool) : costOf powers c = one (c 2) + one (c 4) + one (c 8) + one (c 16) + one (c 32) + 2 * one (c 3) + 2 * one (c 9) + 2 * one (c 27) + 4 * one (c 5) + 4 * one (c 25) + 6 * one (c 7) + 6 * one (c 49) + 10 * one (c 11) + 12 * one (c 13) + 16 * one (c 17) + 18 * one (c 19) + 22 * one (c 23) + 28 * one (c 29) + 30 * one (c 31) + 36 * one (c 37) + 40 * one (c 41) + 42 * one (c 43) + 46 * one (c 47) + 52 * one (c 53) + 58 * one (c 59) := by
  have h : costOf [] c = 0 := rfl
  simp only [powers, cost_cons, h, Nat.reduceSub, Nat.one_mul, Nat.add_zero, Nat.add_assoc]
theorem cost_2 {a c : Nat → Bool} (o : ∀ d, Nat.Coprime d 2 → one (a d) ≤ one (c d)) (s : ∀ d, 2 ∣ d → one (a (2 * d)) ≤ one (c d)) : costOf powers a ≤ costOf powers c + 1 * one (a 2) := by
  rw [cost_open, cost_open]
  have h4 : one (a 4) ≤ one (c 2) := s 2 (by decide)
  have h8 : one (a 8) ≤ one (c 4) := s 4 (by decide)
  have h16 : one (a 16) ≤ one (c 8) := s 8 (by decide)
  have h32 : one (a 32) ≤ one (c 16) := s 16 (by decide)
  have h3 := o 3 (by decide)
  have h9 := o 9 (by decide)
  have h27 := o 27 (by decide)
  have h5 := o 5 (by decide)
  have h25 := o 25 (by decide)
  have h7 := o 7 (by decide)
  have h49 := o 49 (by decide)
  have h11 := o 11 (by decide)
  have h13 := o 13 (by decide)
  have h17 := o 17 (by decide)
  have h19 := o 19 (by decide)
  have h23 := o 23 (by decide)
  have h29 := o 29 (by decide)
  have h31 := o 31 (by decide)
  have h37 := o 37 (by decide)
  have h41 := o 41 (by decide)
  have h43 := o 43 (by decide)
  have h47 := o 47 (by decide)
  have h53 := o 53 (by decide)
  have h59 := o 59 (by decide)
  omega
theorem cost_3 {a c : Nat → Bool} (o : ∀ d, Nat.Coprime d 3 → one (a d) ≤ one (c d)) (s : ∀ d, 3 ∣ d → one (a (3 * d)) ≤ one (c d)) : costOf powers a ≤ costOf powers c + 2 * one (a 3) := by
  rw [cost_open, cost_open]
  have h2 := o 2 (by decide)
  have h4 := o 4 (by decide)
  have h8 := o 8 (by decide)
  have h16 := o 16 (by decide)
  have h32 := o 32 (by decide)
  have h9 : one (a 9) ≤ one (c 3) := s 3 (by decide)
  have h27 : one (a 27) ≤ one (c 9) := s 9 (by decide)
  have h5 := o 5 (by decide)
  have h25 := o 25 (by decide)
  have h7 := o 7 (by decide)
  have h49 := o 49 (by decide)
  have h11 := o 11 (by decide)
  have h13 := o 13 (by decide)
  have h17 := o 17 (by decide)
  have h19 := o 19 (by decide)
  have h23 := o 23 (by decide)
  have h29 := o 29 (by decide)
  have h31 := o 31 (by decide)
  have h37 := o 37 (by decide)
  have h41 := o 41 (by decide)
  have h43 := o 43 (by decide)
  have h47 := o 47 (by decide)
  have h53 := o 53 (by decide)
  have h59 := o 59 (by decide)
  omega
theorem cost_5 {a c : Nat → Bool} (o : ∀ d, Nat.Coprime d 5 → one (a d) ≤ one (c d)) (s : ∀ d, 5 ∣ d → one (a (5 * d)) ≤ one (c d)) : costOf powers a ≤ costOf powers c + 4 * one (a 5) := by
  rw [cost_open, cost_open]
  have h2 := o 2 (by decide)
  have h4 := o 4 (by decide)
  have h8 := o 8 (by decide)
  have h16 := o 16 (by decide)
  have h32 := o 32 (by decide)
  have h3 := o 3 (by decide)
  have h9 := o 9 (by decide)
  have h27 := o 27 (by decide)
  have h25 : one (a 25) ≤ one (c 5) := s 5 (by decide)
  have h7 := o 7 (by decide)
  have h49 := o 49 (by decide)
  have h11 := o 11 (by decide)
  have h13 := o 13 (by decide)
  have h17 := o 17 (by decide)
  have h19 := o 19 (by decide)
  have h23 := o 23 (by decide)
  have h29 := o 29 (by decide)
  have h31 := o 31 (by decide)
  have h37 := o 37 (by decide)
  have h41 := o 41 (by decide)
  have h43 := o 43 (by decide)
  have h47 := o 47 (by decide)
  have h53 := o 53 (by decide)
  have h59 := o 59 (by decide)
  omega
theorem cost_7 {a c : Nat → Bool} (o : ∀ d, Nat.Coprime d 7 → one (a d) ≤ one (c d)) (s : ∀ d, 7 ∣ d → one (a (7 * d)) ≤ one (c d)) : costOf powers a ≤ costOf powers c + 6 * one (a 7) := by
  rw [cost_open, cost_open]
  have h2 := o 2 (by decide)
  have h4 := o 4 (by decide)
  have h8 := o 8 (by decide)
  have h16 := o 16 (by decide)
  have h32 := o 32 (by decide)
  have h3 := o 3 (by decide)
  have h9 := o 9 (by decide)
  have h27 := o 27 (by decide)
  have h5 := o 5 (by decide)
  have h25 := o 25 (by decide)
  have h49 : one (a 49) ≤ one (c 7) := s 7 (by decide)
  have h11 := o 11 (by decide)
  have h13 := o 13 (by decide)
  have h17 := o 17 (by decide)
  have h19 := o 19 (by decide)
  have h23 := o 23 (by decide)
  have h29 := o 29 (by decide)
  have h31 := o 31 (by decide)
  have h37 := o 37 (by decide)
  have h41 := o 41 (by decide)
  have h43 := o 43 (by decide)
  have h47 := o 47 (by decide)
  have h53 := o 53 (by decide)
  have h59 := o 59 (by decide)
  omega
theorem cost_11 {a c : Nat → Bool} (o : ∀ d, Nat.Coprime d 11 → one (a d) ≤ one (c d)) (s : ∀ d, 11 ∣ d → one (a (11 * d)) ≤ one (c d)) : costOf powers a ≤ costOf powers c + 10 * one (a 11) := by
  rw [cost_open, cost_open]
  have h2 := o 2 (by decide)
  have h4 := o 4 (by decide)
  have h8 := o 8 (by decide)
  have h16 := o 16 (by decide)
  have h32 := o 32 (by decide)
  have h3 := o 3 (by decide)
  have h9 := o 9 (by decide)
  have h27 := o 27 (by decide)
  have h5 := o 5 (by decide)
  have h25 := o 25 (by decide)
  have h7 := o 7 (by decide)
  have h49 := o 49 (by decide)
  have h13 := o 13 (by decide)
  have h17 := o 17 (by decide)
  have h19 := o 19 (by decide)
  have h23 := o 23 (by decide)
  have h29 := o 29 (by decide)
  have h31 := o 31 (by decide)
  have h37 := o 37 (by decide)
  have h41 := o 41 (by decide)
  have h43 := o 43 (by decide)
  have h47 := o 47 (by decide)
  have h53 := o 53 (by decide)
  have h59 := o 59 (by decide)
  omega
theorem cost_13 {a c : Nat → Bool} (o : ∀ d, Nat.Coprime d 13 → one (a d) ≤ one (c d)) (s : ∀ d, 13 ∣ d → one (a (13 * d)) ≤ one (c d)) : costOf powers a ≤ costOf powers c + 12 * one (a 13) := by
  rw [cost_open, cost_open]
  have h2 := o 2 (by decide)
  have h4 := o 4 (by decide)
  have h8 := o 8 (by decide)
  have h16 := o 16 (by decide)
  have h32 := o 32 (by decide)
  have h3 := o 3 (by decide)
  have h9 := o 9 (by decide)
  have h27 := o 27 (by decide)
  have h5 := o 5 (by decide)
  have h25 := o 25 (by decide)
  have h7 := o 7 (by decide)
  have h49 := o 49 (by decide)
  have h11 := o 11 (by decide)
  have h17 := o 17 (by decide)
  have h19 := o 19 (by decide)
  have h23 := o 23 (by decide)
  have h29 := o 29 (by decide)
  have h31 := o 31 (by decide)
  have h37 := o 37 (by decide)
  have h41 := o 41 (by decide)
  have h43 := o 43 (by decide)
  have h47 := o 47 (by decide)
  have h53 := o 53 (by decide)
  have h59 := o 59 (by decide)
  omega
theorem cost_17 {a c : Nat → Bool} (o : ∀ d, Nat.Coprime d 17 → one (a d) ≤ one (c d)) (s : ∀ d, 17 ∣ d → one (a (17 * d)) ≤ one (c d)) : costOf powers a ≤ costOf powers c + 16 * one (a 17) := by
  rw [cost_open, cost_open]
  have h2 := o 2 (by decide)
  have h4 := o 4 (by decide)
  have h8 := o 8 (by decide)
  have h16 := o 16 (by decide)
  have h32 := o 32 (by decide)
  have h3 := o 3 (by decide)
  have h9 := o 9 (by decide)
  have h27 := o 27 (by decide)
  have h5 := o 5 (by decide)
  have h25 := o 25 (by decide)
  have h7 := o 7 (by decide)
  have h49 := o 49 (by decide)
  have h11 := o 11 (by decide)
  have h13 := o 13 (by decide)
  have h19 := o 19 (by decide)
  have h23 := o 23 (by decide)
  have h29 := o 29 (by decide)
  have h31 := o 31 (by decide)
  have h37 := o 37 (by decide)
  have h41 := o 41 (by decide)
  have h43 := o 43 (by decide)
  have h47 := o 47 (by decide)
  have h53 := o 53 (by decide)
  have h59 := o 59 (by decide)
  omega
theorem cost_19 {a c : Nat → Bool} (o : ∀ d, Nat.Coprime d 19 → one (a d) ≤ one (c d)) (s : ∀ d, 19 ∣ d → one (a (19 * d)) ≤ one (c d)) : costOf powers a ≤ costOf powers c + 18 * one (a 19) := by
  rw [cost_open, cost_open]
  have h2 := o 2 (by decide)
  have h4 := o 4 (by decide)
  have h8 := o 8 (by decide)
  have h16 := o 16 (by decide)
  have h32 := o 32 (by decide)
  have h3 := o 3 (by decide)
  have h9 := o 9 (by decide)
  have h27 := o 27 (by decide)
  have h5 := o 5 (by decide)
  have h25 := o 25 (by decide)
  have h7 := o 7 (by decide)
  have h49 := o 49 (by decide)
  have h11 := o 11 (by decide)
  have h13 := o 13 (by decide)
  have h17 := o 17 (by decide)
  have h23 := o 23 (by decide)
  have h29 := o 29 (by decide)
  have h31 := o 31 (by decide)
  have h37 := o 37 (by decide)
  have h41 := o 41 (by decide)
  have h43 := o 43 (by decide)
  have h47 := o 47 (by decide)
  have h53 := o 53 (by decide)
  have h59 := o 59 (by decide)
  omega
theorem cost_23 {a c : Nat → Bool} (o : ∀ d, Nat.Coprime d 23 → one (a d) ≤ one (c d)) (s : ∀ d, 23 ∣ d → one (a (23 * d)) ≤ one (c d)) : costOf powers a ≤ costOf powers c + 22 * one (a 23) := by
  rw [cost_open, cost_open]
  have h2 := o 2 (by decide)
  have h4 := o 4 (by decide)
  have h8 := o 8 (by decide)
  have h16 := o 16 (by decide)
  have h32 := o 32 (by decide)
  have h3 := o 3 (by decide)
  have h9 := o 9 (by decide)
  have h27 := o 27 (by decide)
  have h5 := o 5 (by decide)
  have h25 := o 25 (by decide)
  have h7 := o 7 (by decide)
  have h49 := o 49 (by decide)
  have h11 := o 11 (by decide)
  have h13 := o 13 (by decide)
  have h17 := o 17 (by decide)
  have h19 := o 19 (by decide)
  have h29 := o 29 (by decide)
  have h31 := o 31 (by decide)
  have h37 := o 37 (by decide)
  have h41 := o 41 (by decide)
  have h43 := o 43 (by decide)
  have h47 := o 47 (by decide)
  have h53 := o 53 (by decide)
  have h59 := o 59 (by decide)
  omega
theorem cost_29 {a c : Nat → Bool} (o : ∀ d, Nat.Coprime d 29 → one (a d) ≤ one (c d)) (s : ∀ d, 29 ∣ d → one (a (29 * d)) ≤ one (c d)) : costOf powers a ≤ costOf powers c + 28 * one (a 29) := by
  rw [cost_open, cost_open]
  have h2 := o 2 (by decide)
  have h4 := o 4 (by decide)
  have h8 := o 8 (by decide)
  have h16 := o 16 (by decide)
  have h32 := o 32 (by decide)
  have h3 := o 3 (by decide)
  have h9 := o 9 (by decide)
  have h27 := o 27 (by decide)
  have h5 := o 5 (by decide)
  have h25 := o 25 (by decide)
  have h7 := o 7 (by decide)
  have h49 := o 49 (by decide)
  have h11 := o 11 (by decide)
  have h13 := o 13 (by decide)
  have h17 := o 17 (by decide)
  have h19 := o 19 (by decide)
  have h23 := o 23 (by decide)
  have h31 := o 31 (by decide)
  have h37 := o 37 (by decide)
  have h41 := o 41 (by decide)
  have h43 := o 43 (by decide)
  have h47 := o 47 (by decide)
  have h53 := o 53 (by decide)
  have h59 := o 59 (by decide)
  omega
theorem cost_31 {a c : Nat → Bool} (o : ∀ d, Nat.Coprime d 31 → one (a d) ≤ one (c d)) (s : ∀ d, 31 ∣ d → one (a (31 * d)) ≤ one (c d)) : costOf powers a ≤ costOf powers c + 30 * one (a 31) := by
  rw [cost_open, cost_open]
  have h2 := o 2 (by decide)
  have h4 := o 4 (by decide)
  have h8 := o 8 (by decide)
  have h16 := o 16 (by decide)
  have h32 := o 32 (by decide)
  have h3 := o 3 (by decide)
  have h9 := o 9 (by decide)
  have h27 := o 27 (by decide)
  have h5 := o 5 (by decide)
  have h25 := o 25 (by decide)
  have h7 := o 7 (by decide)
  have h49 := o 49 (by decide)
  have h11 := o 11 (by decide)
  have h13 := o 13 (by decide)
  have h17 := o 17 (by decide)
  have h19 := o 19 (by decide)
  have h23 := o 23 (by decide)
  have h29 := o 29 (by decide)
  have h37 := o 37 (by decide)
  have h41 := o 41 (by decide)
  have h43 := o 43 (by decide)
  have h47 := o 47 (by decide)
  have h53 := o 53 (by decide)
  have h59 := o 59 (by decide)
  omega
theorem cost_37 {a c : Nat → Bool} (o : ∀ d, Nat.Coprime d 37 → one (a d) ≤ one (c d)) (s : ∀ d, 37 ∣ d → one (a (37 * d)) ≤ one (c d)) : costOf powers a ≤ costOf powers c + 36 * one (a 37) := by
  rw [cost_open, cost_open]
  have h2 := o 2 (by decide)
  have h4 := o 4 (by decide)
  have h8 := o 8 (by decide)
  have h16 := o 16 (by decide)
  have h32 := o 32 (by decide)
  have h3 := o 3 (by decide)
  have h9 := o 9 (by decide)
  have h27 := o 27 (by decide)
  have h5 := o 5 (by decide)
  have h25 := o 25 (by decide)
  have h7 := o 7 (by decide)
  have h49 := o 49 (by decide)
  have h11 := o 11 (by decide)
  have h13 := o 13 (by decide)
  have h17 := o 17 (by decide)
  have h19 := o 19 (by decide)
  have h23 := o 23 (by decide)
  have h29 := o 29 (by decide)
  have h31 := o 31 (by decide)
  have h41 := o 41 (by decide)
  have h43 := o 43 (by decide)
  have h47 := o 47 (by decide)
  have h53 := o 53 (by decide)
  have h59 := o 59 (by decide)
  omega
theorem cost_41 {a c : Nat → Bool} (o : ∀ d, Nat.Coprime d 41 → one (a d) ≤ one (c d)) (s : ∀ d, 41 ∣ d → one (a (41 * d)) ≤ one (c d)) : costOf powers a ≤ costOf powers c + 40 * one (a 41) := by
  rw [cost_open, cost_open]
  have h2 := o 2 (by decide)
  have h4 := o 4 (by decide)
  have h8 := o 8 (by decide)
  have h16 := o 16 (by decide)
  have h32 := o 32 (by decide)
  have h3 := o 3 (by decide)
  have h9 := o 9 (by decide)
  have h27 := o 27 (by decide)
  have h5 := o 5 (by decide)
  have h25 := o 25 (by decide)
  have h7 := o 7 (by decide)
  have h49 := o 49 (by decide)
  have h11 := o 11 (by decide)
  have h13 := o 13 (by decide)
  have h17 := o 17 (by decide)
  have h19 := o 19 (by decide)
  have h23 := o 23 (by decide)
  have h29 := o 29 (by decide)
  have h31 := o 31 (by decide)
  have h37 := o 37 (by decide)
  have h43 := o 43 (by decide)
  have h47 := o 47 (by decide)
  have h53 := o 53 (by decide)
  have h59 := o 59 (by decide)
  omega
theorem cost_43 {a c : Nat → Bool} (o : ∀ d, Nat.Coprime d 43 → one (a d) ≤ one (c d)) (s : ∀ d, 43 ∣ d → one (a (43 * d)) ≤ one (c d)) : costOf powers a ≤ costOf powers c + 42 * one (a 43) := by
  rw [cost_open, cost_open]
  have h2 := o 2 (by decide)
  have h4 := o 4 (by decide)
  have h8 := o 8 (by decide)
  have h16 := o 16 (by decide)
  have h32 := o 32 (by decide)
  have h3 := o 3 (by decide)
  have h9 := o 9 (by decide)
  have h27 := o 27 (by decide)
  have h5 := o 5 (by decide)
  have h25 := o 25 (by decide)
  have h7 := o 7 (by decide)
  have h49 := o 49 (by decide)
  have h11 := o 11 (by decide)
  have h13 := o 13 (by decide)
  have h17 := o 17 (by decide)
  have h19 := o 19 (by decide)
  have h23 := o 23 (by decide)
  have h29 := o 29 (by decide)
  have h31 := o 31 (by decide)
  have h37 := o 37 (by decide)
  have h41 := o 41 (by decide)
  have h47 := o 47 (by decide)
  have h53 := o 53 (by decide)
  have h59 := o 59 (by decide)
  omega
theorem cost_47 {a c : Nat → Bool} (o : ∀ d, Nat.Coprime d 47 → one (a d) ≤ one (c d)) (s : ∀ d, 47 ∣ d → one (a (47 * d)) ≤ one (c d)) : costOf powers a ≤ costOf powers c + 46 * one (a 47) := by
  rw [cost_open, cost_open]
  have h2 := o 2 (by decide)
  have h4 := o 4 (by decide)
  have h8 := o 8 (by decide)
  have h16 := o 16 (by decide)
  have h32 := o 32 (by decide)
  have h3 := o 3 (by decide)
  have h9 := o 9 (by decide)
  have h27 := o 27 (by decide)
  have h5 := o 5 (by decide)
  have h25 := o 25 (by decide)
  have h7 := o 7 (by decide)
  have h49 := o 49 (by decide)
  have h11 := o 11 (by decide)
  have h13 := o 13 (by decide)
  have h17 := o 17 (by decide)
  have h19 := o 19 (by decide)
  have h23 := o 23 (by decide)
  have h29 := o 29 (by decide)
  have h31 := o 31 (by decide)
  have h37 := o 37 (by decide)
  have h41 := o 41 (by decide)
  have h43 := o 43 (by decide)
  have h53 := o 53 (by decide)
  have h59 := o 59 (by decide)
  omega
theorem cost_53 {a c : Nat → Bool} (o : ∀ d, Nat.Coprime d 53 → one (a d) ≤ one (c d)) (s : ∀ d, 53 ∣ d → one (a (53 * d)) ≤ one (c d)) : costOf powers a ≤ costOf powers c + 52 * one (a 53) := by
  rw [cost_open, cost_open]
  have h2 := o 2 (by decide)
  have h4 := o 4 (by decide)
  have h8 := o 8 (by decide)
  have h16 := o 16 (by decide)
  have h32 := o 32 (by decide)
  have h3 := o 3 (by decide)
  have h9 := o 9 (by decide)
  have h27 := o 27 (by decide)
  have h5 := o 5 (by decide)
  have h25 := o 25 (by decide)
  have h7 := o 7 (by decide)
  have h49 := o 49 (by decide)
  have h11 := o 11 (by decide)
  have h13 := o 13 (by decide)
  have h17 := o 17 (by decide)
  have h19 := o 19 (by decide)
  have h23 := o 23 (by decide)
  have h29 := o 29 (by decide)
  have h31 := o 31 (by decide)
  have h37 := o 37 (by decide)
  have h41 := o 41 (by decide)
  have h43 := o 43 (by decide)
  have h47 := o 47 (by decide)
  have h59 := o 59 (by decide)
  omega
theorem cost_59 {a c : Nat → Bool} (o : ∀ d, Nat.Coprime d 59 → one (a d) ≤ one (c d)) (s : ∀ d, 59 ∣ d → one (a (59 * d)) ≤ one (c d)) : costOf powers a ≤ costOf powers c + 58 * one (a 59) := by
  rw [cost_open, cost_open]
  have h2 := o 2 (by decide)
  have h4 := o 4 (by decide)
  have h8 := o 8 (by decide)
  have h16 := o 16 (by decide)
  have h32 := o 32 (by decide)
  have h3 := o 3 (by decide)
  have h9 := o 9 (by decide)
  have h27 := o 27 (by decide)
  have h5 := o 5 (by decide)
  have h25 := o 25 (by decide)
  have h7 := o 7 (by decide)
  have h49 := o 49 (by decide)
  have h11 := o 11 (by decide)
  have h13 := o 13 (by decide)
  have h17 := o 17 (by decide)
  have h19 := o 19 (by decide)
  have h23 := o 23 (by decide)
  have h29 := o 29 (by decide)
  have h31 := o 31 (by decide)
  have h37 := o 37 (by decide)
  have h41 := o 41 (by decide)
  have h43 := o 43 (by decide)
  have h47 := o 47 (by decide)
  have h53 := o 53 (by decide)
  omega

def anyTo (B : Nat → Nat → Bool) : Nat → Nat → Bool
  | 0, _ => false
  | p + 1, d => anyTo B p d || B p d
theorem anyTo_true {B : Nat → Nat → Bool} {p v d : Nat} (hv : v < p) (h : B v d = true) : anyTo B p d = true := by
  induction p with
  | zero => omega
  | succ p ih =>
    unfold anyTo
    by_cases e : v = p
    · subst e; rw [h, Bool.or_true]
    · rw [ih (by omega), Bool.true_or]
theorem cost_or (l : List (Nat × Nat)) (a b : Nat → Bool) : costOf l (fun d => a d || b d) ≤ costOf l a + costOf l b := by
  induction l with
  | nil => exact Nat.zero_le _
  | cons x l ih =>
    rw [cost_cons, cost_cons, cost_cons]
    have h : one (a x.2 || b x.2) ≤ one (a x.2) + one (b x.2) := by cases a x.2 <;> cases b x.2 <;> decide
    have := Nat.mul_le_mul_left (x.1 - 1) h
    rw [Nat.mul_add] at this
    omega
theorem cost_any (l : List (Nat × Nat)) (B : Nat → Nat → Bool) (p : Nat) : costOf l (anyTo B p) ≤ sumTo p fun v => costOf l (B v) := by
  induction p with
  | zero =>
    have : ∀ l, costOf l (anyTo B 0) = 0 := by
      intro l
      induction l with
      | nil => rfl
      | cons x l ih => rw [cost_cons, ih]; rfl
    rw [this]; exact Nat.zero_le _
  | succ p ih =>
    have e : anyTo B (p + 1) = fun d => anyTo B p d || B p d := by funext d; rfl
    rw [e]
    unfold sumTo
    exact Nat.le_trans (cost_or l _ _) (Nat.add_le_add_right ih _)
theorem one_le {a b : Bool} (h : a = true → b = true) : one a ≤ one b := by
  cases a
  · exact Nat.zero_le _
  · rw [h rfl]; exact Nat.le_refl _

end Go.Proofs.Ytdcedkjoligekab
