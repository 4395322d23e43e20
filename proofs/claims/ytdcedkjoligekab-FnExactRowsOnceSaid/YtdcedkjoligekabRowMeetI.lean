/-
  The walk of row.meet: the row of what two rows have in common.
-/
import Derived.Test.YtdcedkjoligekabRowI
import Derived.Deep.RegionWith
namespace Go.Proofs.Ytdcedkjoligekab
open Go.RowKit
set_option linter.unusedVariables false

theorem rowHas2 (b s n : Nat) (w : World) (hb : b ≤ 1000000) (hs : s ≤ 1000000) (hn : n ≤ 1000000) :
    Calls Try.prog 41 #[.agg #[.int .i64 b, .int .i64 s], .int .i64 n] w fun e w' => e = .returned (.bool ((Rw.mk b s).has n)) ∧ Below w.heap.size w w' := rowHas_is ⟨b, s⟩ n w hb hs hn
theorem lcm_le (a b : Nat) : Nat.lcm a b ≤ a * b := by unfold Nat.lcm; exact Nat.div_le_self _ _
/-- Nothing is common ahead of the next number of the first row. -/
theorem next_none {r q : Rw} {n : Nat} (hs : 0 < r.s) (h1 : r.has n = true) (h2 : q.has n = false) (h : ∀ k, k < n → ¬ (r.has k = true ∧ q.has k = true)) : ∀ k, k < n + r.s → ¬ (r.has k = true ∧ q.has k = true) := by
  intro k hk hc
  rcases Nat.lt_trichotomy k n with a | a | a
  · exact h k a hc
  · subst a; rw [h2] at hc; exact absurd hc.2 (by decide)
  · have := (has_from hs h1 (by omega)).1 hc.1
    have := Nat.le_of_dvd (by omega) this
    omega
theorem next_has {r : Rw} {n : Nat} (hs : 0 < r.s) (h1 : r.has n = true) : r.has (n + r.s) = true := (has_from hs h1 (by omega)).2 (by rw [Nat.add_sub_cancel_left]; exact Nat.dvd_refl _)

/-- The boxes of row.meet. -/
def meetW (w : World) (a0 a1 b0 b1 : Nat) : World :=
  ((w.alloc (.cells #[.int .i64 a0, .int .i64 a1] 39)).alloc (.cells #[.int .i64 b0, .int .i64 b1] 39)).alloc (.cells #[.int .i64 0, .int .i64 0] 39)
theorem meetW_below (w : World) (a0 a1 b0 b1 : Nat) : Below w.heap.size w (meetW w a0 a1 b0 b1) :=
  (((Below.refl _ _).alloc (Nat.le_refl _) _).alloc (by simp) _).alloc (by simp; omega) _
theorem meetW_size (w : World) (a0 a1 b0 b1 : Nat) : (meetW w a0 a1 b0 b1).heap.size = w.heap.size + 3 := by unfold meetW; simp
theorem meetW_cells (w : World) (a0 a1 b0 b1 : Nat) {wr : World} (hb : Below (meetW w a0 a1 b0 b1).heap.size (meetW w a0 a1 b0 b1) wr) :
    (wr.cell? ⟨w.heap.size, 0, none⟩ = some (.int .i64 a0) ∧ wr.cell? ⟨w.heap.size, 1, none⟩ = some (.int .i64 a1)) ∧
    (wr.cell? ⟨w.heap.size + 1, 0, none⟩ = some (.int .i64 b0) ∧ wr.cell? ⟨w.heap.size + 1, 1, none⟩ = some (.int .i64 b1)) ∧
    (wr.cell? ⟨w.heap.size + 1 + 1, 0, none⟩ = some (.int .i64 0) ∧ wr.cell? ⟨w.heap.size + 1 + 1, 1, none⟩ = some (.int .i64 0)) ∧
    wr.frozen? ⟨w.heap.size + 1 + 1, 0, none⟩ = false ∧ wr.frozen? ⟨w.heap.size + 1 + 1, 1, none⟩ = false := by
  have hs := meetW_size w a0 a1 b0 b1
  obtain ⟨q0, q1⟩ := bcell hb
  rw [hs] at q0 q1
  rw [q0 _ _ (by omega), q0 _ _ (by omega), q0 _ _ (by omega), q0 _ _ (by omega), q0 _ _ (by omega), q0 _ _ (by omega), q1 _ _ (by omega), q1 _ _ (by omega)]
  unfold meetW
  go_simp
theorem meetW_end {w wr : World} {a0 a1 b0 b1 : Nat} (hb : Below (meetW w a0 a1 b0 b1).heap.size (meetW w a0 a1 b0 b1) wr) : Below w.heap.size w wr :=
  (meetW_below _ _ _ _ _).trans (hb.mono (meetW_below _ _ _ _ _).size)
theorem meetW_stored {w wr : World} (hb : Below w.heap.size w wr) (u v : Value) : Below w.heap.size w ((wr.setCell ⟨w.heap.size + 1 + 1, 0, none⟩ u).setCell ⟨w.heap.size + 1 + 1, 1, none⟩ v) :=
  (hb.setCell (p := ⟨w.heap.size + 1 + 1, 0, none⟩) (by show w.heap.size ≤ w.heap.size + 1 + 1; omega) u).setCell (p := ⟨w.heap.size + 1 + 1, 1, none⟩) (by show w.heap.size ≤ w.heap.size + 1 + 1; omega) v

set_option maxHeartbeats 2000000 in
theorem meet_some_a (b s p q m : Nat) (w : World) (hb : b ≤ 200) (hs : s ≤ 60) (hp : p ≤ 200) (hq : q ≤ 60) (hlt : q ≤ s) (hz : q ≠ 0) (h : Least ⟨b, s⟩ ⟨p, q⟩ m) :
    Calls Try.prog 26 #[.agg #[.int .i64 b, .int .i64 s], .agg #[.int .i64 p, .int .i64 q]] w fun e w' =>
      e = .returned (.tuple #[.agg #[.int .i64 m, .int .i64 (Nat.lcm s q : Nat)], .bool true]) ∧ Below w.heap.size w w' := by
  have hm := least_lt (r := ⟨b, s⟩) (q := ⟨p, q⟩) (by show 0 < s; omega) (by show 0 < q; omega) h
  have hle := lcm_le s q
  have hle2 : s * q ≤ 60 * 60 := Nat.mul_le_mul (by omega) (by omega)
  obtain ⟨l, hl⟩ : ∃ l, l = Nat.lcm s q := ⟨_, rfl⟩
  have hm' : m < max b p + l := by rw [hl]; exact hm
  have hl2 : l ≤ 3600 := by omega
  have HL := Lib.hid h
  have HLL := Lib.hid hl
  clear h hm hle hle2
  have c1 : (q : Int) ≤ (s : Int) := by omega
  have c2 : (q : Int) ≠ 0 := by omega
  go_enter Try.func26, Try.ntmps26
  go_wp2_with fail
  refine (multiple_is s q _ (by omega) (by omega) (by omega)).mono ?_
  rintro e w1 ⟨rfl, hB1⟩
  rw [← hl]
  have HB1 : Hid (Below (meetW w b s p q).heap.size (meetW w b s p q) w1) := Lib.hid hB1
  clear hB1 hl
  obtain ⟨⟨k0, k1⟩, ⟨k2, k3⟩, _⟩ := meetW_cells _ _ _ _ _ HB1.out
  go_wp2
  clear k0 k1 k2 k3
  go_loopw [8] (fun i wr => ∃ n : Nat, i = .int .i64 n ∧ n ≤ m ∧ (Rw.mk b s).has n = true ∧ (∀ k, k < n → ¬ ((Rw.mk b s).has k = true ∧ (Rw.mk p q).has k = true)) ∧ Below (meetW w b s p q).heap.size (meetW w b s p q) wr)
    (fun i _ => m - (intOf i).toNat)
  case atStart => exact ⟨b, rfl, has_ge HL.out.1, has_begin _, fun k hk hc => absurd (has_ge hc.1) (by show ¬ b ≤ k; omega), HB1.out⟩
  case round =>
    obtain ⟨n, rfl, hnm, hA, hnone, hB⟩ := hrel
    obtain ⟨⟨k0, k1⟩, ⟨k2, k3⟩, ⟨k4, k5⟩, k6, k7⟩ := meetW_cells _ _ _ _ _ hB
    have c3 : (n : Int) < max (b : Int) (p : Int) + (l : Int) := by omega
    have HB := Lib.hid hB
    have HA := Lib.hid hA
    have HN := Lib.hid hnone
    clear hB hA hnone
    cases hc : (Rw.mk p q).has n
    · have hlt2 : n < m := by
        rcases Nat.lt_or_ge n m with a | a
        · exact a
        · obtain rfl : n = m := by omega
          have := HL.out.2.1
          rw [hc] at this
          cases this
      have HC := Lib.hid hc
      clear hc
      go_wp2_with fail
      refine (rowHas_is ⟨p, q⟩ n _ (by show p ≤ 1000000; omega) (by show q ≤ 1000000; omega) (by omega)).mono ?_
      rintro e w3 ⟨rfl, hb3⟩
      rw [HC.out]
      have HB3 := Lib.hid (HB.out.trans (hb3.mono HB.out.size))
      clear hb3 k0 k1 k2 k3 k4 k5 k6 k7
      obtain ⟨⟨k0, k1⟩, ⟨k2, k3⟩, ⟨k4, k5⟩, k6, k7⟩ := meetW_cells _ _ _ _ _ HB3.out
      go_wp2
      go_roundw
      case rel =>
        have hn2 := next_has (r := ⟨b, s⟩) (by show 0 < s; omega) HA.out
        have hn3 := next_none (r := ⟨b, s⟩) (by show 0 < s; omega) HA.out HC.out HN.out
        refine ⟨n + s, by go_num, ?_, hn2, hn3, HB3.out⟩
        rcases Nat.lt_or_ge m (n + s) with a | a
        · exact (hn3 m a ⟨HL.out.1, HL.out.2.1⟩).elim
        · exact a
      case measure => simp [intOf]; omega
    · obtain rfl : n = m := by
        rcases Nat.lt_or_ge n m with a | a
        · exact (HL.out.2.2 n a ⟨HA.out, hc⟩).elim
        · omega
      have HC := Lib.hid hc
      clear hc
      go_wp2_with fail
      refine (rowHas_is ⟨p, q⟩ n _ (by show p ≤ 1000000; omega) (by show q ≤ 1000000; omega) (by omega)).mono ?_
      rintro e w3 ⟨rfl, hb3⟩
      rw [HC.out]
      have HB3 := Lib.hid (HB.out.trans (hb3.mono HB.out.size))
      clear hb3 k0 k1 k2 k3 k4 k5 k6 k7
      obtain ⟨⟨k0, k1⟩, ⟨k2, k3⟩, ⟨k4, k5⟩, k6, k7⟩ := meetW_cells _ _ _ _ _ HB3.out
      go_wp2
      refine bodyPost_ret (v := .tuple #[.agg #[.int .i64 n, .int .i64 l], .bool true]) (by simp [results, Try.results26, go_sem, k4, k5]) rfl ⟨by rw [HLL.out], ?_⟩
      exact meetW_stored (meetW_end HB3.out) _ _

set_option maxHeartbeats 2000000 in
theorem meet_some_b (b s p q m : Nat) (w : World) (hb : b ≤ 200) (hs : s ≤ 60) (hp : p ≤ 200) (hq : q ≤ 60) (hlt : s < q) (hz : s ≠ 0) (h : Least ⟨p, q⟩ ⟨b, s⟩ m) :
    Calls Try.prog 26 #[.agg #[.int .i64 b, .int .i64 s], .agg #[.int .i64 p, .int .i64 q]] w fun e w' =>
      e = .returned (.tuple #[.agg #[.int .i64 m, .int .i64 (Nat.lcm q s : Nat)], .bool true]) ∧ Below w.heap.size w w' := by
  have hm := least_lt (r := ⟨p, q⟩) (q := ⟨b, s⟩) (by show 0 < q; omega) (by show 0 < s; omega) h
  have hle := lcm_le q s
  have hle2 : q * s ≤ 60 * 60 := Nat.mul_le_mul (by omega) (by omega)
  obtain ⟨l, hl⟩ : ∃ l, l = Nat.lcm q s := ⟨_, rfl⟩
  have hm' : m < max p b + l := by rw [hl]; exact hm
  have hl2 : l ≤ 3600 := by omega
  have HL := Lib.hid h
  have HLL := Lib.hid hl
  clear h hm hle hle2
  have c1 : (s : Int) < (q : Int) := by omega
  have c2 : (s : Int) ≠ 0 := by omega
  go_enter Try.func26, Try.ntmps26
  go_wp2_with fail
  refine (multiple_is q s _ (by omega) (by omega) (by omega)).mono ?_
  rintro e w1 ⟨rfl, hB1⟩
  rw [← hl]
  have HB1 : Hid (Below (meetW w p q b s).heap.size (meetW w p q b s) w1) := Lib.hid hB1
  clear hB1 hl
  obtain ⟨⟨k0, k1⟩, ⟨k2, k3⟩, _⟩ := meetW_cells _ _ _ _ _ HB1.out
  go_wp2
  clear k0 k1 k2 k3
  go_loopw [8] (fun i wr => ∃ n : Nat, i = .int .i64 n ∧ n ≤ m ∧ (Rw.mk p q).has n = true ∧ (∀ k, k < n → ¬ ((Rw.mk p q).has k = true ∧ (Rw.mk b s).has k = true)) ∧ Below (meetW w p q b s).heap.size (meetW w p q b s) wr)
    (fun i _ => m - (intOf i).toNat)
  case atStart => exact ⟨p, rfl, has_ge HL.out.1, has_begin _, fun k hk hc => absurd (has_ge hc.1) (by show ¬ p ≤ k; omega), HB1.out⟩
  case round =>
    obtain ⟨n, rfl, hnm, hA, hnone, hB⟩ := hrel
    obtain ⟨⟨k0, k1⟩, ⟨k2, k3⟩, ⟨k4, k5⟩, k6, k7⟩ := meetW_cells _ _ _ _ _ hB
    have c3 : (n : Int) < max (p : Int) (b : Int) + (l : Int) := by omega
    have HB := Lib.hid hB
    have HA := Lib.hid hA
    have HN := Lib.hid hnone
    clear hB hA hnone
    cases hc : (Rw.mk b s).has n
    · have hlt2 : n < m := by
        rcases Nat.lt_or_ge n m with a | a
        · exact a
        · obtain rfl : n = m := by omega
          have := HL.out.2.1
          rw [hc] at this
          cases this
      have HC := Lib.hid hc
      clear hc
      go_wp2_with fail
      refine (rowHas_is ⟨b, s⟩ n _ (by show b ≤ 1000000; omega) (by show s ≤ 1000000; omega) (by omega)).mono ?_
      rintro e w3 ⟨rfl, hb3⟩
      rw [HC.out]
      have HB3 := Lib.hid (HB.out.trans (hb3.mono HB.out.size))
      clear hb3 k0 k1 k2 k3 k4 k5 k6 k7
      obtain ⟨⟨k0, k1⟩, ⟨k2, k3⟩, ⟨k4, k5⟩, k6, k7⟩ := meetW_cells _ _ _ _ _ HB3.out
      go_wp2
      go_roundw
      case rel =>
        have hn2 := next_has (r := ⟨p, q⟩) (by show 0 < q; omega) HA.out
        have hn3 := next_none (r := ⟨p, q⟩) (by show 0 < q; omega) HA.out HC.out HN.out
        refine ⟨n + q, by go_num, ?_, hn2, hn3, HB3.out⟩
        rcases Nat.lt_or_ge m (n + q) with a | a
        · exact (hn3 m a ⟨HL.out.1, HL.out.2.1⟩).elim
        · exact a
      case measure => simp [intOf]; omega
    · obtain rfl : n = m := by
        rcases Nat.lt_or_ge n m with a | a
        · exact (HL.out.2.2 n a ⟨HA.out, hc⟩).elim
        · omega
      have HC := Lib.hid hc
      clear hc
      go_wp2_with fail
      refine (rowHas_is ⟨b, s⟩ n _ (by show b ≤ 1000000; omega) (by show s ≤ 1000000; omega) (by omega)).mono ?_
      rintro e w3 ⟨rfl, hb3⟩
      rw [HC.out]
      have HB3 := Lib.hid (HB.out.trans (hb3.mono HB.out.size))
      clear hb3 k0 k1 k2 k3 k4 k5 k6 k7
      obtain ⟨⟨k0, k1⟩, ⟨k2, k3⟩, ⟨k4, k5⟩, k6, k7⟩ := meetW_cells _ _ _ _ _ HB3.out
      go_wp2
      refine bodyPost_ret (v := .tuple #[.agg #[.int .i64 n, .int .i64 l], .bool true]) (by simp [results, Try.results26, go_sem, k4, k5]) rfl ⟨by rw [HLL.out], ?_⟩
      exact meetW_stored (meetW_end HB3.out) _ _

set_option maxHeartbeats 2000000 in
theorem meet_none_a (b s p q : Nat) (w : World) (hb : b ≤ 200) (hs : s ≤ 60) (hp : p ≤ 200) (hq : q ≤ 60) (hlt : q ≤ s) (hz : q ≠ 0) (h : ∀ n, ¬ ((Rw.mk b s).has n = true ∧ (Rw.mk p q).has n = true)) :
    Calls Try.prog 26 #[.agg #[.int .i64 b, .int .i64 s], .agg #[.int .i64 p, .int .i64 q]] w fun e w' =>
      e = .returned (.tuple #[.agg #[.int .i64 0, .int .i64 0], .bool false]) ∧ Below w.heap.size w w' := by
  have hle := lcm_le s q
  have hle2 : s * q ≤ 60 * 60 := Nat.mul_le_mul (by omega) (by omega)
  obtain ⟨l, hl⟩ : ∃ l, l = Nat.lcm s q := ⟨_, rfl⟩
  have hl2 : l ≤ 3600 := by omega
  have HL := Lib.hid h
  clear h hle hle2
  have c1 : (q : Int) ≤ (s : Int) := by omega
  have c2 : (q : Int) ≠ 0 := by omega
  go_enter Try.func26, Try.ntmps26
  go_wp2_with fail
  refine (multiple_is s q _ (by omega) (by omega) (by omega)).mono ?_
  rintro e w1 ⟨rfl, hB1⟩
  rw [← hl]
  have HB1 : Hid (Below (meetW w b s p q).heap.size (meetW w b s p q) w1) := Lib.hid hB1
  clear hB1 hl
  obtain ⟨⟨k0, k1⟩, ⟨k2, k3⟩, _⟩ := meetW_cells _ _ _ _ _ HB1.out
  go_wp2
  clear k0 k1 k2 k3
  go_loopw [8] (fun i wr => ∃ n : Nat, i = .int .i64 n ∧ n ≤ 10000 ∧ (Rw.mk b s).has n = true ∧ Below (meetW w b s p q).heap.size (meetW w b s p q) wr)
    (fun i _ => 10000 - (intOf i).toNat)
  case atStart => exact ⟨b, rfl, by omega, has_begin _, HB1.out⟩
  case round =>
    obtain ⟨n, rfl, hnm, hA, hB⟩ := hrel
    obtain ⟨⟨k0, k1⟩, ⟨k2, k3⟩, ⟨k4, k5⟩, k6, k7⟩ := meetW_cells _ _ _ _ _ hB
    by_cases hlt2 : n < max b p + l
    · have c3 : (n : Int) < max (b : Int) (p : Int) + (l : Int) := by omega
      have HC : Hid ((Rw.mk p q).has n = false) := Lib.hid (by
        cases hc : (Rw.mk p q).has n
        · rfl
        · exact (HL.out n ⟨hA, hc⟩).elim)
      have HB := Lib.hid hB
      have HA := Lib.hid hA
      clear hB hA
      go_wp2_with fail
      refine (rowHas_is ⟨p, q⟩ n _ (by show p ≤ 1000000; omega) (by show q ≤ 1000000; omega) (by omega)).mono ?_
      rintro e w3 ⟨rfl, hb3⟩
      rw [HC.out]
      have HB3 := Lib.hid (HB.out.trans (hb3.mono HB.out.size))
      clear hb3 k0 k1 k2 k3 k4 k5 k6 k7
      obtain ⟨⟨k0, k1⟩, ⟨k2, k3⟩, ⟨k4, k5⟩, k6, k7⟩ := meetW_cells _ _ _ _ _ HB3.out
      go_wp2
      go_roundw
      case rel => exact ⟨n + s, by go_num, by omega, next_has (r := ⟨b, s⟩) (by show 0 < s; omega) HA.out, HB3.out⟩
      case measure => simp [intOf]; omega
    · have c3 : max (b : Int) (p : Int) + (l : Int) ≤ (n : Int) := by omega
      have HB := Lib.hid hB
      clear hB
      go_wp2
      refine bodyPost_ret (v := .tuple #[.agg #[.int .i64 0, .int .i64 0], .bool false]) (by simp [results, Try.results26, go_sem, k4, k5]) rfl ⟨rfl, ?_⟩
      exact meetW_stored (meetW_end HB.out) _ _

set_option maxHeartbeats 2000000 in
theorem meet_none_b (b s p q : Nat) (w : World) (hb : b ≤ 200) (hs : s ≤ 60) (hp : p ≤ 200) (hq : q ≤ 60) (hlt : s < q) (hz : s ≠ 0) (h : ∀ n, ¬ ((Rw.mk p q).has n = true ∧ (Rw.mk b s).has n = true)) :
    Calls Try.prog 26 #[.agg #[.int .i64 b, .int .i64 s], .agg #[.int .i64 p, .int .i64 q]] w fun e w' =>
      e = .returned (.tuple #[.agg #[.int .i64 0, .int .i64 0], .bool false]) ∧ Below w.heap.size w w' := by
  have hle := lcm_le q s
  have hle2 : q * s ≤ 60 * 60 := Nat.mul_le_mul (by omega) (by omega)
  obtain ⟨l, hl⟩ : ∃ l, l = Nat.lcm q s := ⟨_, rfl⟩
  have hl2 : l ≤ 3600 := by omega
  have HL := Lib.hid h
  clear h hle hle2
  have c1 : (s : Int) < (q : Int) := by omega
  have c2 : (s : Int) ≠ 0 := by omega
  go_enter Try.func26, Try.ntmps26
  go_wp2_with fail
  refine (multiple_is q s _ (by omega) (by omega) (by omega)).mono ?_
  rintro e w1 ⟨rfl, hB1⟩
  rw [← hl]
  have HB1 : Hid (Below (meetW w p q b s).heap.size (meetW w p q b s) w1) := Lib.hid hB1
  clear hB1 hl
  obtain ⟨⟨k0, k1⟩, ⟨k2, k3⟩, _⟩ := meetW_cells _ _ _ _ _ HB1.out
  go_wp2
  clear k0 k1 k2 k3
  go_loopw [8] (fun i wr => ∃ n : Nat, i = .int .i64 n ∧ n ≤ 10000 ∧ (Rw.mk p q).has n = true ∧ Below (meetW w p q b s).heap.size (meetW w p q b s) wr)
    (fun i _ => 10000 - (intOf i).toNat)
  case atStart => exact ⟨p, rfl, by omega, has_begin _, HB1.out⟩
  case round =>
    obtain ⟨n, rfl, hnm, hA, hB⟩ := hrel
    obtain ⟨⟨k0, k1⟩, ⟨k2, k3⟩, ⟨k4, k5⟩, k6, k7⟩ := meetW_cells _ _ _ _ _ hB
    by_cases hlt2 : n < max p b + l
    · have c3 : (n : Int) < max (p : Int) (b : Int) + (l : Int) := by omega
      have HC : Hid ((Rw.mk b s).has n = false) := Lib.hid (by
        cases hc : (Rw.mk b s).has n
        · rfl
        · exact (HL.out n ⟨hA, hc⟩).elim)
      have HB := Lib.hid hB
      have HA := Lib.hid hA
      clear hB hA
      go_wp2_with fail
      refine (rowHas_is ⟨b, s⟩ n _ (by show b ≤ 1000000; omega) (by show s ≤ 1000000; omega) (by omega)).mono ?_
      rintro e w3 ⟨rfl, hb3⟩
      rw [HC.out]
      have HB3 := Lib.hid (HB.out.trans (hb3.mono HB.out.size))
      clear hb3 k0 k1 k2 k3 k4 k5 k6 k7
      obtain ⟨⟨k0, k1⟩, ⟨k2, k3⟩, ⟨k4, k5⟩, k6, k7⟩ := meetW_cells _ _ _ _ _ HB3.out
      go_wp2
      go_roundw
      case rel => exact ⟨n + q, by go_num, by omega, next_has (r := ⟨p, q⟩) (by show 0 < q; omega) HA.out, HB3.out⟩
      case measure => simp [intOf]; omega
    · have c3 : max (p : Int) (b : Int) + (l : Int) ≤ (n : Int) := by omega
      have HB := Lib.hid hB
      clear hB
      go_wp2
      refine bodyPost_ret (v := .tuple #[.agg #[.int .i64 0, .int .i64 0], .bool false]) (by simp [results, Try.results26, go_sem, k4, k5]) rfl ⟨rfl, ?_⟩
      exact meetW_stored (meetW_end HB.out) _ _

theorem meetW0_a {w w3 : World} {x y z : Nat} (h : Below ((((w.alloc (.cells #[.int .i64 x, .int .i64 y] 39)).alloc (.cells #[.int .i64 z, .int .i64 0] 39)).alloc (.cells #[.int .i64 0, .int .i64 0] 39)).drew).heap.size
    ((((w.alloc (.cells #[.int .i64 x, .int .i64 y] 39)).alloc (.cells #[.int .i64 z, .int .i64 0] 39)).alloc (.cells #[.int .i64 0, .int .i64 0] 39)).drew) w3) :
    Below (meetW w x y z 0).heap.size (meetW w x y z 0) w3 := by
  have h0 : Below (meetW w x y z 0).heap.size (meetW w x y z 0) (meetW w x y z 0).drew := below_drewN (Below.refl _ _) 1
  exact h0.trans (h.mono h0.size)

set_option maxHeartbeats 2000000 in
theorem meet_zero_a (b s p : Nat) (w : World) (hb : b ≤ 200) (hs : s ≤ 60) (hp : p ≤ 200) :
    Calls Try.prog 26 #[.agg #[.int .i64 b, .int .i64 s], .agg #[.int .i64 p, .int .i64 0]] w fun e w' =>
      e = .returned (.tuple #[.agg #[.int .i64 p, .int .i64 0], .bool ((Rw.mk b s).has p)]) ∧ Below w.heap.size w w' := by
  have c1 : (0 : Int) ≤ (s : Int) := by omega
  go_enter Try.func26, Try.ntmps26
  go_wp2
  go_region_with (go_at_call 41; (with_reducible refine (rowHas2 b s p _ (by omega) (by omega) (by omega)).mono ?_); rintro e w3 ⟨rfl, hb3⟩; have HB3 := Lib.hid (meetW0_a hb3); clear hb3; obtain ⟨⟨k0, k1⟩, ⟨k2, k3⟩, ⟨k4, k5⟩, k6, k7⟩ := meetW_cells _ _ _ _ _ HB3.out)
  all_goals
    go_wp2
    refine bodyPost_ret (v := .tuple #[.agg #[.int .i64 p, .int .i64 0], .bool ((Rw.mk b s).has p)]) (by simp [results, Try.results26, go_sem, k4, k5]) rfl ⟨rfl, ?_⟩
    exact meetW_stored (meetW_end HB3.out) _ _

theorem meetW0_b {w w3 : World} {x y z : Nat} (h : Below ((((w.alloc (.cells #[.int .i64 x, .int .i64 y] 39)).alloc (.cells #[.int .i64 z, .int .i64 0] 39)).alloc (.cells #[.int .i64 0, .int .i64 0] 39)).drew).heap.size
    ((((w.alloc (.cells #[.int .i64 x, .int .i64 y] 39)).alloc (.cells #[.int .i64 z, .int .i64 0] 39)).alloc (.cells #[.int .i64 0, .int .i64 0] 39)).drew) w3) :
    Below (meetW w x y z 0).heap.size (meetW w x y z 0) w3 := by
  have h0 : Below (meetW w x y z 0).heap.size (meetW w x y z 0) (meetW w x y z 0).drew := below_drewN (Below.refl _ _) 1
  exact h0.trans (h.mono h0.size)

set_option maxHeartbeats 2000000 in
theorem meet_zero_b (b p q : Nat) (w : World) (hb : b ≤ 200) (hp : p ≤ 200) (hq : q ≤ 60) (hlt : 0 < q) :
    Calls Try.prog 26 #[.agg #[.int .i64 b, .int .i64 0], .agg #[.int .i64 p, .int .i64 q]] w fun e w' =>
      e = .returned (.tuple #[.agg #[.int .i64 b, .int .i64 0], .bool ((Rw.mk p q).has b)]) ∧ Below w.heap.size w w' := by
  have c1 : (0 : Int) < (q : Int) := by omega
  go_enter Try.func26, Try.ntmps26
  go_wp2
  go_region_with (go_at_call 41; (with_reducible refine (rowHas2 p q b _ (by omega) (by omega) (by omega)).mono ?_); rintro e w3 ⟨rfl, hb3⟩; have HB3 := Lib.hid (meetW0_b hb3); clear hb3; obtain ⟨⟨k0, k1⟩, ⟨k2, k3⟩, ⟨k4, k5⟩, k6, k7⟩ := meetW_cells _ _ _ _ _ HB3.out)
  all_goals
    go_wp2
    refine bodyPost_ret (v := .tuple #[.agg #[.int .i64 b, .int .i64 0], .bool ((Rw.mk p q).has b)]) (by simp [results, Try.results26, go_sem, k4, k5]) rfl ⟨rfl, ?_⟩
    exact meetW_stored (meetW_end HB3.out) _ _

end Go.Proofs.Ytdcedkjoligekab
