/-
  The walks of spec.l1Divisor and spec.l1Shape.
-/
import Derived.Test.YtiphooodijbhiaaSetDef
import Derived.Lib.MinMax
namespace Go.Proofs.Ytiphooodijbhiaa
open Go.RowKit

set_option maxHeartbeats 400000 in
theorem divisor_any (a b : Nat) (w : World) (ha : a ≤ 1000) (hb : b ≤ 1000) :
    Calls Try.prog 154 #[.int .i64 a, .int .i64 b] w fun e w' => e = .returned (.int .i64 (Nat.gcd a b)) ∧ w' = w := by
  obtain ⟨g, hg⟩ : ∃ g, g = Nat.gcd a b := ⟨_, rfl⟩
  rw [← hg]
  have HG := Lib.hid hg
  clear hg
  go_enter Try.func154, Try.ntmps154
  go_wp2
  go_loop [0, 1] (fun x y => ∃ u v : Nat, u ≤ 1000 ∧ v ≤ 1000 ∧ x = .int .i64 u ∧ y = .int .i64 v ∧ g = Nat.gcd u v) (fun _ y => (intOf y).toNat)
  case atStart => exact ⟨a, b, ha, hb, rfl, rfl, HG.out⟩
  case round =>
    obtain ⟨u, v, hu, hv, rfl, rfl, hgc⟩ := hrel
    have HC := Lib.hid hgc
    clear hgc
    by_cases h0 : 0 < v
    · have hm : u % v < v := Nat.mod_lt _ h0
      go_wp2
      go_round
      case rel => exact ⟨v, u % v, hv, by omega, rfl, by go_num, by rw [HC.out, Nat.gcd_comm u v, Nat.gcd_rec v u, Nat.gcd_comm]⟩
      case measure => simp [intOf]; omega
    · obtain rfl : v = 0 := by omega
      have HE : Hid (g = u) := Lib.hid (by rw [HC.out, Nat.gcd_zero_right])
      go_wp2
      go_ret
      rw [HE.out]
      exact ⟨rfl, rfl⟩

theorem shape_val {n g m : Nat} (h : n / g * m ≤ 60 * 60) : wrap64 ((n : Int) / (g : Int) * (m : Int)) = ((n / g * m : Nat) : Int) := by
  have e : (n : Int) / (g : Int) * (m : Int) = ((n / g * m : Nat) : Int) := by rw [Int.natCast_mul]; rfl
  rw [e, IntWalk.wrap64_in _ (by omega)]

set_option maxHeartbeats 400000 in
theorem shape_any (a1 a2 b1 b2 : Option Addr) (n1 c1 n2 c2 m1 d1 m2 d2 : Nat) (w : World) (hn2 : n2 ≤ 60) (hn0 : 0 < n2) (hm2 : m2 ≤ 60) (hm0 : 0 < m2) :
    Calls Try.prog 148 #[.agg #[.slice a1 n1 c1, .slice a2 n2 c2], .agg #[.slice b1 m1 d1, .slice b2 m2 d2]] w fun e w' =>
      e = .returned (.tuple #[.int .i64 ((max n1 m1 : Nat) : Int), .int .i64 ((n2 / Nat.gcd n2 m2 * m2 : Nat) : Int)]) ∧ Below w.heap.size w w' := by
  obtain ⟨g, hg⟩ : ∃ g, Nat.gcd n2 m2 = g := ⟨_, rfl⟩
  have hg0 : 0 < g := by rw [← hg]; exact Nat.gcd_pos_of_pos_left _ hn0
  have hq : n2 / g ≤ 60 := Nat.le_trans (Nat.div_le_self _ _) hn2
  have hmul : n2 / g * m2 ≤ 60 * 60 := Nat.mul_le_mul hq hm2
  have HC := Lib.hid (fun W => divisor_any n2 m2 W (by omega) (by omega))
  rw [hg] at HC
  rw [hg]
  clear hg
  go_enter Try.func148, Try.ntmps148
  go_wp2
  have hE : ¬ g = 0 := by omega
  have hw2 : (0 : Int) ≤ (n2 : Int) / (g : Int) := Int.ediv_nonneg (by omega) (by omega)
  have hw3 : (n2 : Int) / (g : Int) ≤ 60 := by have : (n2 : Int) / (g : Int) = ((n2 / g : Nat) : Int) := rfl; omega
  go_quiet ((go_at_call 154; exact Calls.quiet_of_same (HC.out _)))
  go_wp2
  go_ret2
  exact ⟨ret_ints (max_pair _ _) (shape_val hmul), below_drewN (((Below.refl _ _).alloc (Nat.le_refl _) _).alloc (by simp) _) _⟩

theorem shape_common {n2 m2 : Nat} (hn : 0 < n2) (hm : 0 < m2) : 0 < n2 / Nat.gcd n2 m2 * m2 ∧ (∃ k, n2 / Nat.gcd n2 m2 * m2 = k * n2) ∧ (∃ k, n2 / Nat.gcd n2 m2 * m2 = k * m2) ∧ n2 / Nat.gcd n2 m2 * m2 ≤ n2 * m2 := by
  have hg : 0 < Nat.gcd n2 m2 := Nat.gcd_pos_of_pos_left _ hn
  obtain ⟨u, hu⟩ := Nat.gcd_dvd_left n2 m2
  obtain ⟨v, hv⟩ := Nat.gcd_dvd_right n2 m2
  have e1 : n2 / Nat.gcd n2 m2 = u := by conv => lhs; lhs; rw [hu]
                                         exact Nat.mul_div_cancel_left u hg
  rw [e1]
  refine ⟨?_, ⟨v, ?_⟩, ⟨u, rfl⟩, ?_⟩
  · have : 0 < u := by rcases Nat.eq_zero_or_pos u with h | h; rw [h] at hu; omega; exact h
    exact Nat.mul_pos this hm
  · conv => lhs; rw [hv]
    conv => rhs; rw [hu]
    rw [← Nat.mul_assoc, ← Nat.mul_assoc, Nat.mul_comm u, Nat.mul_comm v, Nat.mul_assoc, Nat.mul_assoc, Nat.mul_comm u v]
  · have : u ≤ n2 := by rw [← e1]; exact Nat.div_le_self _ _
    exact Nat.mul_le_mul_right _ this

/-- The world of the model's loop: two boxes, both sets readable. -/
structure BelowLoop (s t : ByteArray) (a1 : Option Addr) (n1 c1 : Nat) (a2 : Option Addr) (n2 c2 : Nat) (b1 : Option Addr) (m1 d1 : Nat) (b2 : Option Addr) (m2 d2 : Nat) (B1 B2 : Nat) (w wr : World) : Prop where
  q0 : wr.cell? ⟨B1, 0, none⟩ = some (.slice a1 n1 c1)
  q1 : wr.cell? ⟨B1, 1, none⟩ = some (.slice a2 n2 c2)
  q2 : wr.cell? ⟨B2, 0, none⟩ = some (.slice b1 m1 d1)
  q3 : wr.cell? ⟨B2, 1, none⟩ = some (.slice b2 m2 d2)
  l1 : B1 < wr.heap.size
  l2 : B2 < wr.heap.size
  r1 : IsRead wr s a1 n1 a2 n2
  r2 : IsRead wr t b1 m1 b2 m2
  below : Below w.heap.size w wr

theorem BelowLoop.step {s t : ByteArray} {a1 : Option Addr} {n1 c1 : Nat} {a2 : Option Addr} {n2 c2 : Nat} {b1 : Option Addr} {m1 d1 : Nat} {b2 : Option Addr} {m2 d2 : Nat} {B1 B2 : Nat} {w wr w' : World}
    (h : BelowLoop s t a1 n1 c1 a2 n2 c2 b1 m1 d1 b2 m2 d2 B1 B2 w wr) (hb : Below wr.heap.size wr w') : BelowLoop s t a1 n1 c1 a2 n2 c2 b1 m1 d1 b2 m2 d2 B1 B2 w w' := by
  have hs := hb.size
  exact ⟨(hb.cell (p := ⟨B1, 0, none⟩) h.l1).trans h.q0, (hb.cell (p := ⟨B1, 1, none⟩) h.l1).trans h.q1, (hb.cell (p := ⟨B2, 0, none⟩) h.l2).trans h.q2, (hb.cell (p := ⟨B2, 1, none⟩) h.l2).trans h.q3,
    Nat.lt_of_lt_of_le h.l1 hs, Nat.lt_of_lt_of_le h.l2 hs, h.r1.below hb (Nat.le_refl _), h.r2.below hb (Nat.le_refl _), h.below.trans (hb.mono h.below.size)⟩

theorem belowLoop_start {s t : ByteArray} {a1 : Option Addr} {n1 c1 : Nat} {a2 : Option Addr} {n2 c2 : Nat} {b1 : Option Addr} {m1 d1 : Nat} {b2 : Option Addr} {m2 d2 : Nat} {w w1 w2 : World}
    (hb : Below w.heap.size w w1) (hr : IsRead (w1.alloc (.cells #[.slice a1 n1 c1, .slice a2 n2 c2] 75)) s a1 n1 a2 n2)
    (hb2 : Below (w1.alloc (.cells #[.slice a1 n1 c1, .slice a2 n2 c2] 75)).heap.size (w1.alloc (.cells #[.slice a1 n1 c1, .slice a2 n2 c2] 75)) w2)
    (hr2 : IsRead w2 t b1 m1 b2 m2) :
    BelowLoop s t a1 n1 c1 a2 n2 c2 b1 m1 d1 b2 m2 d2 w1.heap.size w2.heap.size w (w2.alloc (.cells #[.slice b1 m1 d1, .slice b2 m2 d2] 75)) := by
  obtain ⟨⟨q0, q1⟩, q2, q3⟩ := boxes_later hb2 (Below.refl _ (w2.alloc (.cells #[.slice b1 m1 d1, .slice b2 m2 d2] 75)))
  have hs := hb2.size
  simp at hs
  exact ⟨q0, q1, q2, q3, by simp; omega, by simp, (hr.below hb2 (Nat.le_refl _)).alloc _, hr2.alloc _, below_second hb hb2 _⟩

end Go.Proofs.Ytiphooodijbhiaa
