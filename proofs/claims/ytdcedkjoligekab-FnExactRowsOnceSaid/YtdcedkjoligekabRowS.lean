/-
  The walks of the model's small functions on rows: l6In, l3Row, l3Has, l1Divisor.
-/
import Derived.Test.YtdcedkjoligekabBase
import Derived.Test.YtdcedkjoligekabInts
import Derived.Test.YtdcedkjoligekabRowMath
import Derived.Lib.MinMax
import Derived.BigQuiet
namespace Go.Proofs.Ytdcedkjoligekab
open Go.RowKit
set_option linter.unusedVariables false

theorem l6In_is (n a b : Int) (w : World) :
    Calls Try.prog 40 #[.int .i64 n, .int .i64 a, .int .i64 b] w fun e w' => e = .returned (.bool (decide (a ≤ n ∧ n ≤ b))) ∧ w = w' := by
  by_cases h1 : a ≤ n
  · by_cases h2 : n ≤ b
    · have e : decide (a ≤ n ∧ n ≤ b) = true := decide_eq_true ⟨h1, h2⟩
      rw [e]
      clear e
      go_enter Try.func40, Try.ntmps40
      go_wp2
      go_ret
      exact ⟨rfl, rfl⟩
    · have e : decide (a ≤ n ∧ n ≤ b) = false := decide_eq_false (fun h => h2 h.2)
      rw [e]
      clear e
      have h3 : decide (n ≤ b) = false := decide_eq_false h2
      go_enter Try.func40, Try.ntmps40
      go_wp2
      go_ret
      exact ⟨rfl, rfl⟩
  · have e : decide (a ≤ n ∧ n ≤ b) = false := decide_eq_false (fun h => h1 h.1)
    rw [e]
    clear e
    have h3 : n < a := by omega
    go_enter Try.func40, Try.ntmps40
    go_wp2
    go_ret
    exact ⟨rfl, rfl⟩

theorem goodRow_twoS (x y : Int) : goodRow [x, y] = (decide (0 ≤ x ∧ x ≤ 59) && decide (0 ≤ y ∧ y ≤ 60)) := by unfold goodRow; simp
theorem goodRow_lenS {z : List Int} (h : z.length ≠ 2) : goodRow z = false := by
  unfold goodRow
  have : (z.length == 2) = false := by simpa using h
  rw [this]; rfl

set_option maxHeartbeats 1000000 in
theorem l3Row_is (a : Option Addr) (n c : Nat) (zs : List Int) (w : World) (h : ReadsI w a n zs) (hn : n ≤ 1048576) :
    Calls Try.prog 22 #[.slice a n c] w fun e w' => e = .returned (.bool (goodRow zs)) ∧ w = w' := by
  by_cases h2 : n = 2
  · subst h2
    obtain ⟨hl, hc⟩ := h
    rcases hc with hc | ⟨g, o, rfl, hg, hc⟩
    · omega
    match zs, hl with
    | [x, y], _ =>
    have k0 := hc 0 (by decide)
    have k1 := hc 1 (by decide)
    simp only [List.getD_cons_zero, List.getD_cons_succ, Nat.add_zero] at k0 k1
    clear hc
    rw [goodRow_twoS]
    cases e1 : decide (0 ≤ x ∧ x ≤ 59)
    · go_enter Try.func22, Try.ntmps22
      go_wp2_with fail
      refine (l6In_is x 0 59 _).mono ?_
      rintro e w1 ⟨rfl, rfl⟩
      rw [e1]
      clear e1
      go_wp2
      go_ret
      exact ⟨rfl, rfl⟩
    · obtain ⟨z, hz⟩ : ∃ z, z = decide (0 ≤ y ∧ y ≤ 60) := ⟨_, rfl⟩
      rw [← hz]
      go_enter Try.func22, Try.ntmps22
      go_wp2_with fail
      refine (l6In_is x 0 59 _).mono ?_
      rintro e w1 ⟨rfl, rfl⟩
      rw [e1]
      clear e1
      go_wp2_with fail
      refine (l6In_is y 0 60 _).mono ?_
      rintro e w1 ⟨rfl, rfl⟩
      rw [← hz]
      clear hz
      go_wp2
      go_ret
      exact ⟨rfl, rfl⟩
  · have hg : goodRow zs = false := goodRow_lenS (by rw [h.len]; exact h2)
    have d1 : (n : Int) ≠ 2 := by omega
    rw [hg]
    clear hg h
    go_enter Try.func22, Try.ntmps22
    go_wp2
    go_ret
    exact ⟨rfl, rfl⟩

theorem has_zeroS (b n : Nat) : (Rw.mk b 0).has n = decide ((n : Int) = (b : Int)) := by
  rw [Bool.eq_iff_iff, has_zero rfl]; simp only [decide_eq_true_eq]; omega
theorem has_posS (b s n : Nat) (hs : s ≠ 0) (h : b ≤ n) : (Rw.mk b s).has n = decide (((n : Int) - (b : Int)) % (s : Int) = 0) := by
  rw [Bool.eq_iff_iff, has_pos (Nat.pos_of_ne_zero hs)]
  show b ≤ n ∧ s ∣ n - b ↔ _
  rw [decide_eq_true_eq, show (n : Int) - (b : Int) = ((n - b : Nat) : Int) from by omega, Nat.dvd_iff_mod_eq_zero]
  omega
theorem has_lessS (b s n : Nat) (hs : s ≠ 0) (h : n < b) : (Rw.mk b s).has n = false := by
  cases e : (Rw.mk b s).has n
  · rfl
  · have := has_ge e
    have : b ≤ n := this
    omega

/-- A slice reads as a row. -/
def IsRw (w : World) (a : Option Addr) (r : Rw) : Prop := ReadsI w a 2 [(r.b : Int), (r.s : Int)]
theorem IsRw.cells {w : World} {a : Option Addr} {b s : Nat} (h : IsRw w a ⟨b, s⟩) : ∃ g o, a = some ⟨g, o, none⟩ ∧ g < w.heap.size ∧ w.cell? ⟨g, o, none⟩ = some (.int .i64 b) ∧ w.cell? ⟨g, o + 1, none⟩ = some (.int .i64 s) := by
  rcases ReadsI.cells h with hc | ⟨g, o, rfl, hg, hc⟩
  · omega
  · have k0 := hc 0 (by decide)
    have k1 := hc 1 (by decide)
    simp only [List.getD_cons_zero, List.getD_cons_succ, Nat.add_zero] at k0 k1
    exact ⟨g, o, rfl, hg, k0, k1⟩

set_option maxHeartbeats 1000000 in
theorem l3Has_is (a : Option Addr) (c : Nat) (r : Rw) (n : Nat) (w : World) (h : IsRw w a r) (hb : r.b ≤ 1000000) (hs : r.s ≤ 1000000) (hn : n ≤ 1000000) :
    Calls Try.prog 24 #[.slice a 2 c, .int .i64 n] w fun e w' => e = .returned (.bool (r.has n)) ∧ Below w.heap.size w w' := by
  obtain ⟨b, s⟩ := r
  obtain ⟨g, o, rfl, hg, k0, k1⟩ := h.cells
  have hb : b ≤ 1000000 := hb
  have hs : s ≤ 1000000 := hs
  clear h
  by_cases h0 : s = 0
  · subst h0
    rw [has_zeroS]
    go_enter Try.func24, Try.ntmps24
    go_wp2
    go_ret
    exact ⟨rfl, Below.refl _ _⟩
  · have d0 : (s : Int) ≠ 0 := by omega
    by_cases h1 : b ≤ n
    · rw [has_posS b s n h0 h1]
      have c1 : (b : Int) ≤ (n : Int) := by omega
      go_enter Try.func24, Try.ntmps24
      go_wp2
      go_quiet (fail)
      go_wp2
      go_ret
      exact ⟨rfl, below_drewN (Below.refl _ _) _⟩
    · rw [has_lessS b s n h0 (by omega)]
      have c1 : (n : Int) < (b : Int) := by omega
      have c2 : decide ((b : Int) ≤ (n : Int)) = false := decide_eq_false (by omega)
      go_enter Try.func24, Try.ntmps24
      go_wp2
      go_quiet (fail)
      go_wp2
      go_ret
      exact ⟨rfl, below_drewN (Below.refl _ _) _⟩

theorem gcd_stepS (a b : Nat) : Nat.gcd a b = Nat.gcd b (a % b) := by rw [Nat.gcd_comm a b, Nat.gcd_rec b a, Nat.gcd_comm]

set_option maxHeartbeats 400000 in
theorem divS_is (a b : Nat) (w : World) (ha : a ≤ 1000000000000) (hb : b ≤ 1000000000000) :
    Calls Try.prog 23 #[.int .i64 a, .int .i64 b] w fun e w' => e = .returned (.int .i64 (Nat.gcd a b : Nat)) ∧ w = w' := by
  obtain ⟨g, hg⟩ : ∃ g, g = Nat.gcd a b := ⟨_, rfl⟩
  rw [← hg]
  have HG := Lib.hid hg
  clear hg
  go_enter Try.func23, Try.ntmps23
  go_wp2
  go_loop [0, 1] (fun x y => ∃ u v : Nat, u ≤ 1000000000000 ∧ v ≤ 1000000000000 ∧ x = .int .i64 u ∧ y = .int .i64 v ∧ g = Nat.gcd u v) (fun _ y => (intOf y).toNat)
  case atStart => exact ⟨a, b, ha, hb, rfl, rfl, HG.out⟩
  case round =>
    obtain ⟨u, v, hu, hv, rfl, rfl, hgc⟩ := hrel
    have HC := Lib.hid hgc
    clear hgc
    by_cases h0 : 0 < v
    · have hm : u % v < v := Nat.mod_lt _ h0
      go_wp2
      go_round
      case rel => exact ⟨v, u % v, hv, by omega, rfl, by go_num, by rw [HC.out, gcd_stepS]⟩
      case measure => simp [intOf]; omega
    · obtain rfl : v = 0 := by omega
      have HE : Hid (g = u) := Lib.hid (by rw [HC.out, Nat.gcd_zero_right])
      go_wp2
      go_ret
      rw [HE.out]
      exact ⟨rfl, rfl⟩

end Go.Proofs.Ytdcedkjoligekab
