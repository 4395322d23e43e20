/-
  The walks of SetBelow, of the program, of the model, and of the law that holds them against each other.
-/
import Derived.Test.YtndpkmgjmpfgdaaSetFrom
namespace Go.Proofs.Ytndpkmgjmpfgdaa
open Go.RowKit

theorem hasB_rounds (t r : List Bool) (n k : Nat) (h : t.length ≤ n) : hasB t r (n + k * r.length) = hasB t r n := by
  induction k with
  | zero => simp
  | succ k ih => rw [Nat.succ_mul, ← Nat.add_assoc, hasB_round t r _ (by omega), ih]

/-- n is in the first set and not in the second. -/
def cex (s t : ByteArray) (n : Nat) : Bool := hasB (setT s) (setR s) n && !hasB (setT t) (setR t) n
structure LeastCex (s t : ByteArray) (x : Nat) : Prop where
  is : cex s t x = true
  least : ∀ y, y < x → cex s t y = false
theorem leastCex_of (s t : ByteArray) : ∀ d, cex s t d = true → ∃ x, LeastCex s t x := by
  intro d
  induction d using Nat.strongRecOn with
  | ind d ih =>
    intro h
    by_cases hx : ∃ e, e < d ∧ cex s t e = true
    · obtain ⟨e, he, h2⟩ := hx; exact ih e he h2
    · refine ⟨d, h, fun y hy => ?_⟩
      rw [Bool.eq_false_iff]
      exact fun h3 => hx ⟨y, hy, h3⟩
theorem cex_cases (s t : ByteArray) : (∃ x, LeastCex s t x) ∨ ∀ n, cex s t n = false := by
  by_cases h : ∃ d, cex s t d = true
  · obtain ⟨d, hd⟩ := h; exact .inl (leastCex_of s t d hd)
  · refine .inr fun y => ?_
    rw [Bool.eq_false_iff]
    exact fun h2 => h ⟨y, h2⟩
/-- The least one is less than tails and a common round. -/
theorem leastCex_lt {s t : ByteArray} {x p q : Nat} (h : LeastCex s t x) (hp : 0 < p) (h1 : ∃ k, p = k * (setR s).length) (h2 : ∃ k, p = k * (setR t).length) (hq1 : (setT s).length ≤ q) (hq2 : (setT t).length ≤ q) : x < q + p := by
  rcases Nat.lt_or_ge x (q + p) with k | k
  · exact k
  · obtain ⟨k1, e1⟩ := h1
    obtain ⟨k2, e2⟩ := h2
    have hh := h.is
    have hl := h.least (x - p) (by omega)
    have a1 : hasB (setT s) (setR s) x = hasB (setT s) (setR s) (x - p) := by
      have := hasB_rounds (setT s) (setR s) (x - p) k1 (by omega)
      rw [← e1, show x - p + p = x from by omega] at this
      exact this
    have a2 : hasB (setT t) (setR t) x = hasB (setT t) (setR t) (x - p) := by
      have := hasB_rounds (setT t) (setR t) (x - p) k2 (by omega)
      rw [← e2, show x - p + p = x from by omega] at this
      exact this
    unfold cex at hh hl
    rw [a1, a2, hl] at hh
    cases hh

/-- What SetBelow answers. -/
inductive BelowIs (s t : ByteArray) : Bool → Prop where
  | off : okS s = false ∨ okS t = false → BelowIs s t false
  | no (x : Nat) : okS s = true → okS t = true → LeastCex s t x → BelowIs s t false
  | yes : okS s = true → okS t = true → (∀ n, cex s t n = false) → BelowIs s t true
theorem below_form (s t : ByteArray) : ∃ b, BelowIs s t b := by
  cases h1 : okS s
  · exact ⟨_, .off (.inl h1)⟩
  · cases h2 : okS t
    · exact ⟨_, .off (.inr h2)⟩
    · rcases cex_cases s t with ⟨x, hx⟩ | hx
      · exact ⟨_, .no x h1 h2 hx⟩
      · exact ⟨_, .yes h1 h2 hx⟩

set_option maxHeartbeats 400000 in
theorem divisor_any (a b : Nat) (w : World) (ha : a ≤ 1000) (hb : b ≤ 1000) :
    Calls Try.prog 76 #[.int .i64 a, .int .i64 b] w fun e w' => e = .returned (.int .i64 (Nat.gcd a b)) ∧ w' = w := by
  obtain ⟨g, hg⟩ : ∃ g, g = Nat.gcd a b := ⟨_, rfl⟩
  rw [← hg]
  have HG := Lib.hid hg
  clear hg
  go_enter Try.func76, Try.ntmps76
  go_wp2
  go_loop [0, 1] (fun x y => ∃ u v : Nat, u ≤ 1000 ∧ v ≤ 1000 ∧ x = .int .i64 u ∧ y = .int .i64 v ∧ g = Nat.gcd u v) (fun _ y => (intOf y).toNat)
  case atStart => exact ⟨a, b, ha, hb, rfl, rfl, HG.out⟩
  case round =>
    obtain ⟨u, v, hu, hv, rfl, rfl, hgc⟩ := hrel
    have HC := Lib.hid hgc
    clear hgc
    by_cases h0 : 0 < v
    · have hm : u % v < v := Nat.mod_lt _ h0
      go_wp2
      go_round
      case rel => exact ⟨v, u % v, hv, by omega, rfl, by go_num, by rw [HC.out, Nat.gcd_comm u v, Nat.gcd_rec v u, Nat.gcd_comm]⟩
      case measure => simp [intOf]; omega
    · obtain rfl : v = 0 := by omega
      have HE : Hid (g = u) := Lib.hid (by rw [HC.out, Nat.gcd_zero_right])
      go_wp2
      go_ret
      rw [HE.out]
      exact ⟨rfl, rfl⟩

theorem ret_ints {a b a' b' : Int} (h : a = a') (h2 : b = b') : Ending.returned (.tuple #[.int .i64 a, .int .i64 b]) = .returned (.tuple #[.int .i64 a', .int .i64 b']) := by rw [h, h2]
theorem shape_val {n g m : Nat} (h : n / g * m ≤ 60 * 60) : wrap64 ((n : Int) / (g : Int) * (m : Int)) = ((n / g * m : Nat) : Int) := by
  have e : (n : Int) / (g : Int) * (m : Int) = ((n / g * m : Nat) : Int) := by rw [Int.natCast_mul]; rfl
  rw [e, IntWalk.wrap64_in _ (by omega)]

set_option maxHeartbeats 400000 in
theorem shape_any (a1 a2 b1 b2 : Option Addr) (n1 c1 n2 c2 m1 d1 m2 d2 : Nat) (w : World) (hn2 : n2 ≤ 60) (hn0 : 0 < n2) (hm2 : m2 ≤ 60) (hm0 : 0 < m2) :
    Calls Try.prog 61 #[.agg #[.slice a1 n1 c1, .slice a2 n2 c2], .agg #[.slice b1 m1 d1, .slice b2 m2 d2]] w fun e w' =>
      e = .returned (.tuple #[.int .i64 ((max n1 m1 : Nat) : Int), .int .i64 ((n2 / Nat.gcd n2 m2 * m2 : Nat) : Int)]) ∧ Below w.heap.size w w' := by
  obtain ⟨g, hg⟩ : ∃ g, Nat.gcd n2 m2 = g := ⟨_, rfl⟩
  have hg0 : 0 < g := by rw [← hg]; exact Nat.gcd_pos_of_pos_left _ hn0
  have hq : n2 / g ≤ 60 := Nat.le_trans (Nat.div_le_self _ _) hn2
  have hmul : n2 / g * m2 ≤ 60 * 60 := Nat.mul_le_mul hq hm2
  have HC := Lib.hid (fun W => divisor_any n2 m2 W (by omega) (by omega))
  rw [hg] at HC
  rw [hg]
  clear hg
  go_enter Try.func61, Try.ntmps61
  go_wp2
  have hE : ¬ g = 0 := by omega
  have hw2 : (0 : Int) ≤ (n2 : Int) / (g : Int) := Int.ediv_nonneg (by omega) (by omega)
  have hw3 : (n2 : Int) / (g : Int) ≤ 60 := by have : (n2 : Int) / (g : Int) = ((n2 / g : Nat) : Int) := rfl; omega
  go_quiet ((go_at_call 76; exact Calls.quiet_of_same (HC.out _)))
  go_wp2
  go_ret2
  exact ⟨ret_ints (max_pair _ _) (shape_val hmul), below_drewN (((Below.refl _ _).alloc (Nat.le_refl _) _).alloc (by simp) _) _⟩

theorem shape_common {n2 m2 : Nat} (hn : 0 < n2) (hm : 0 < m2) : 0 < n2 / Nat.gcd n2 m2 * m2 ∧ (∃ k, n2 / Nat.gcd n2 m2 * m2 = k * n2) ∧ (∃ k, n2 / Nat.gcd n2 m2 * m2 = k * m2) ∧ n2 / Nat.gcd n2 m2 * m2 ≤ n2 * m2 := by
  have hg : 0 < Nat.gcd n2 m2 := Nat.gcd_pos_of_pos_left _ hn
  obtain ⟨u, hu⟩ := Nat.gcd_dvd_left n2 m2
  obtain ⟨v, hv⟩ := Nat.gcd_dvd_right n2 m2
  have e1 : n2 / Nat.gcd n2 m2 = u := by conv => lhs; lhs; rw [hu]
                                         exact Nat.mul_div_cancel_left u hg
  rw [e1]
  refine ⟨?_, ⟨v, ?_⟩, ⟨u, rfl⟩, ?_⟩
  · have : 0 < u := by rcases Nat.eq_zero_or_pos u with h | h; rw [h] at hu; omega; exact h
    exact Nat.mul_pos this hm
  · conv => lhs; rw [hv]
    conv => rhs; rw [hu]
    rw [← Nat.mul_assoc, ← Nat.mul_assoc, Nat.mul_comm u, Nat.mul_comm v, Nat.mul_assoc, Nat.mul_assoc, Nat.mul_comm u v]
  · have : u ≤ n2 := by rw [← e1]; exact Nat.div_le_self _ _
    exact Nat.mul_le_mul_right _ this

/-- Both boxes, later. -/
theorem boxes_later {w1 w2 wr : World} {u v x y : Value} {T T2 : TypeId} (hb : Below (w1.alloc (.cells #[u, v] T)).heap.size (w1.alloc (.cells #[u, v] T)) w2)
    (hB : Below (w2.alloc (.cells #[x, y] T2)).heap.size (w2.alloc (.cells #[x, y] T2)) wr) :
    (wr.cell? ⟨w1.heap.size, 0, none⟩ = some u ∧ wr.cell? ⟨w1.heap.size, 1, none⟩ = some v) ∧ (wr.cell? ⟨w2.heap.size, 0, none⟩ = some x ∧ wr.cell? ⟨w2.heap.size, 1, none⟩ = some y) := by
  have hs := hb.size
  exact ⟨box_later ((hb.alloc hb.size _).trans (hB.mono (by simp at hs ⊢; omega))), box_later hB⟩

set_option maxHeartbeats 400000 in
theorem specBelow_off (s t : ByteArray) (w : World) (hs : s.size ≤ 1048576) (ht : t.size ≤ 1048576) (h : okS s = false ∨ okS t = false) :
    Calls Try.prog 29 #[.string s, .string t] w fun e w' => e = .returned (.bool false) ∧ Below w.heap.size w w' := by
  cases h1 : okS s
  · cases h2 : okS t
    · go_enter Try.func29, Try.ntmps29
      go_wp2_with fail
      refine (read_off s _ hs h1).mono ?_
      rintro e w1 ⟨a1, n1, c1, a2, n2, c2, rfl, hb⟩
      go_wp2_with fail
      refine (read_off t _ ht h2).mono ?_
      rintro e w2 ⟨b1, m1, d1, b2, m2, d2, rfl, hb2⟩
      go_wp2
      go_ret
      exact ⟨rfl, below_second hb hb2 _⟩
    · go_enter Try.func29, Try.ntmps29
      go_wp2_with fail
      refine (read_off s _ hs h1).mono ?_
      rintro e w1 ⟨a1, n1, c1, a2, n2, c2, rfl, hb⟩
      go_wp2_with fail
      refine (read_on t _ ht h2).mono ?_
      rintro e w2 ⟨b1, m1, d1, b2, m2, d2, rfl, hb2, _⟩
      go_wp2
      go_ret
      exact ⟨rfl, below_second hb hb2 _⟩
  · have h2 : okS t = false := by rcases h with h | h; rw [h1] at h; cases h; exact h
    go_enter Try.func29, Try.ntmps29
    go_wp2_with fail
    refine (read_on s _ hs h1).mono ?_
    rintro e w1 ⟨a1, n1, c1, a2, n2, c2, rfl, hb, _⟩
    go_wp2_with fail
    refine (read_off t _ ht h2).mono ?_
    rintro e w2 ⟨b1, m1, d1, b2, m2, d2, rfl, hb2⟩
    go_wp2
    go_ret
    exact ⟨rfl, below_second hb hb2 _⟩

theorem shape_on (s t : ByteArray) (a1 a2 b1 b2 : Option Addr) (n1 c1 n2 c2 m1 d1 m2 d2 : Nat) (w : World) (h : IsRead w s a1 n1 a2 n2) (h2 : IsRead w t b1 m1 b2 m2) :
    Calls Try.prog 61 #[.agg #[.slice a1 n1 c1, .slice a2 n2 c2], .agg #[.slice b1 m1 d1, .slice b2 m2 d2]] w fun e w' =>
      ∃ tl p : Nat, e = .returned (.tuple #[.int .i64 tl, .int .i64 p]) ∧ Below w.heap.size w w' ∧ tl + p ≤ 4000 ∧ ∀ x, LeastCex s t x → x < tl + p := by
  refine (shape_any a1 a2 b1 b2 n1 c1 n2 c2 m1 d1 m2 d2 w h.ringLe h.ringPos h2.ringLe h2.ringPos).mono ?_
  rintro e w' ⟨rfl, hb⟩
  obtain ⟨p0, p1, p2, p3⟩ := shape_common h.ringPos h2.ringPos
  have l1 := h.tailLe
  have l2 := h2.tailLe
  have l3 : n2 * m2 ≤ 60 * 60 := Nat.mul_le_mul h.ringLe h2.ringLe
  refine ⟨_, _, rfl, hb, by omega, fun x hx => ?_⟩
  refine leastCex_lt hx p0 (by rw [h.ring.len]; exact p1) (by rw [h2.ring.len]; exact p2) ?_ ?_
  · rw [h.tail.len]; omega
  · rw [h2.tail.len]; omega

theorem cex_first {s t : ByteArray} {k : Nat} (h : cex s t k = true) : hasI (setT s) (setR s) (k : Int) = true ∧ hasI (setT t) (setR t) (k : Int) = false := by
  unfold cex at h
  rw [hasI_nat, hasI_nat]
  simpa using h
theorem cex_second {s t : ByteArray} {k : Nat} (h : cex s t k = false) : hasI (setT s) (setR s) (k : Int) = false ∨ (hasI (setT s) (setR s) (k : Int) = true ∧ hasI (setT t) (setR t) (k : Int) = true) := by
  unfold cex at h
  rw [hasI_nat, hasI_nat]
  cases h1 : hasB (setT s) (setR s) k
  · exact .inl rfl
  · right; rw [h1] at h; simpa using h

/-- The world of the model's loop: two boxes, both sets readable. -/
structure BelowLoop (s t : ByteArray) (a1 : Option Addr) (n1 c1 : Nat) (a2 : Option Addr) (n2 c2 : Nat) (b1 : Option Addr) (m1 d1 : Nat) (b2 : Option Addr) (m2 d2 : Nat) (B1 B2 : Nat) (w wr : World) : Prop where
  q0 : wr.cell? ⟨B1, 0, none⟩ = some (.slice a1 n1 c1)
  q1 : wr.cell? ⟨B1, 1, none⟩ = some (.slice a2 n2 c2)
  q2 : wr.cell? ⟨B2, 0, none⟩ = some (.slice b1 m1 d1)
  q3 : wr.cell? ⟨B2, 1, none⟩ = some (.slice b2 m2 d2)
  l1 : B1 < wr.heap.size
  l2 : B2 < wr.heap.size
  r1 : IsRead wr s a1 n1 a2 n2
  r2 : IsRead wr t b1 m1 b2 m2
  below : Below w.heap.size w wr
theorem BelowLoop.step {s t : ByteArray} {a1 : Option Addr} {n1 c1 : Nat} {a2 : Option Addr} {n2 c2 : Nat} {b1 : Option Addr} {m1 d1 : Nat} {b2 : Option Addr} {m2 d2 : Nat} {B1 B2 : Nat} {w wr w' : World}
    (h : BelowLoop s t a1 n1 c1 a2 n2 c2 b1 m1 d1 b2 m2 d2 B1 B2 w wr) (hb : Below wr.heap.size wr w') : BelowLoop s t a1 n1 c1 a2 n2 c2 b1 m1 d1 b2 m2 d2 B1 B2 w w' := by
  have hs := hb.size
  exact ⟨(hb.cell (p := ⟨B1, 0, none⟩) h.l1).trans h.q0, (hb.cell (p := ⟨B1, 1, none⟩) h.l1).trans h.q1, (hb.cell (p := ⟨B2, 0, none⟩) h.l2).trans h.q2, (hb.cell (p := ⟨B2, 1, none⟩) h.l2).trans h.q3,
    Nat.lt_of_lt_of_le h.l1 hs, Nat.lt_of_lt_of_le h.l2 hs, h.r1.below hb (Nat.le_refl _), h.r2.below hb (Nat.le_refl _), h.below.trans (hb.mono h.below.size)⟩
theorem belowLoop_start {s t : ByteArray} {a1 : Option Addr} {n1 c1 : Nat} {a2 : Option Addr} {n2 c2 : Nat} {b1 : Option Addr} {m1 d1 : Nat} {b2 : Option Addr} {m2 d2 : Nat} {w w1 w2 : World}
    (hb : Below w.heap.size w w1) (hr : IsRead (w1.alloc (.cells #[.slice a1 n1 c1, .slice a2 n2 c2] 53)) s a1 n1 a2 n2)
    (hb2 : Below (w1.alloc (.cells #[.slice a1 n1 c1, .slice a2 n2 c2] 53)).heap.size (w1.alloc (.cells #[.slice a1 n1 c1, .slice a2 n2 c2] 53)) w2)
    (hr2 : IsRead w2 t b1 m1 b2 m2) :
    BelowLoop s t a1 n1 c1 a2 n2 c2 b1 m1 d1 b2 m2 d2 w1.heap.size w2.heap.size w (w2.alloc (.cells #[.slice b1 m1 d1, .slice b2 m2 d2] 53)) := by
  obtain ⟨⟨q0, q1⟩, q2, q3⟩ := boxes_later hb2 (Below.refl _ (w2.alloc (.cells #[.slice b1 m1 d1, .slice b2 m2 d2] 53)))
  have hs := hb2.size
  simp at hs
  exact ⟨q0, q1, q2, q3, by simp; omega, by simp, (hr.below hb2 (Nat.le_refl _)).alloc _, hr2.alloc _, below_second hb hb2 _⟩

set_option maxRecDepth 100000 in
set_option maxHeartbeats 1000000 in
theorem specBelow_no (s t : ByteArray) (x : Nat) (w : World) (hs : s.size ≤ 1048576) (ht : t.size ≤ 1048576) (h1 : okS s = true) (h2 : okS t = true) (hx : LeastCex s t x) :
    Calls Try.prog 29 #[.string s, .string t] w fun e w' => e = .returned (.bool false) ∧ Below w.heap.size w w' := by
  have HX := Lib.hid hx
  clear hx
  go_enter Try.func29, Try.ntmps29
  go_wp2_with fail
  refine (read_on s _ hs h1).mono ?_
  rintro e w1 ⟨a1, n1, c1, a2, n2, c2, rfl, hb, hr⟩
  go_wp2_with fail
  refine (read_on t _ ht h2).mono ?_
  rintro e w2 ⟨b1, m1, d1, b2, m2, d2, rfl, hb2, hr2⟩
  have HL := belowLoop_start (d1 := d1) (d2 := d2) hb (hr.alloc _) hb2 hr2
  have q0 := HL.q0; have q1 := HL.q1
  have HH := Lib.hid HL
  clear hb hr hb2 hr2 HL
  go_wp2_with fail
  refine (shape_on s t a1 a2 b1 b2 n1 c1 n2 c2 m1 d1 m2 d2 _ HH.out.r1 HH.out.r2).mono ?_
  rintro e w3 ⟨tl, p, rfl, hb3, hle, hlt⟩
  have hxl := hlt x HX.out
  have HH3 := Lib.hid (HH.out.step hb3)
  clear hlt hb3 HH q0 q1
  go_wp2
  go_loopw [11] (fun i wr => ∃ k : Nat, k ≤ x ∧ i = .int .i64 k ∧ BelowLoop s t a1 n1 c1 a2 n2 c2 b1 m1 d1 b2 m2 d2 w1.heap.size w2.heap.size w wr) (fun i _ => x + 1 - (intOf i).toNat)
  case atStart => exact ⟨0, Nat.zero_le _, rfl, HH3.out⟩
  case round =>
    obtain ⟨k, hk, rfl, HL⟩ := hrel
    have q0 := HL.q0; have q1 := HL.q1
    have hkl : (k : Int) < (tl : Int) + (p : Int) := by omega
    have HB := Lib.hid HL
    clear HL
    by_cases hlt : k < x
    · rcases cex_second (HX.out.least k hlt) with hv | ⟨hv, hv2⟩
      · go_wp2_with fail
        refine (l1Has_on s a1 a2 n1 c1 n2 c2 k _ HB.out.r1 (by omega)).mono ?_
        rintro e w4 ⟨rfl, hb4⟩
        have HB4 := Lib.hid (HB.out.step hb4)
        clear hb4
        go_wp2
        go_roundw
        case rel => exact ⟨k + 1, by omega, by go_num, HB4.out⟩
        case measure => simp [intOf]; omega
      · go_wp2_with fail
        refine (l1Has_on s a1 a2 n1 c1 n2 c2 k _ HB.out.r1 (by omega)).mono ?_
        rintro e w4 ⟨rfl, hb4⟩
        have HB4 := Lib.hid (HB.out.step hb4)
        clear hb4 q0 q1
        have q2 := HB4.out.q2; have q3 := HB4.out.q3
        go_wp2_with fail
        refine (l1Has_on t b1 b2 m1 d1 m2 d2 k _ HB4.out.r2 (by omega)).mono ?_
        rintro e w5 ⟨rfl, hb5⟩
        have HB5 := Lib.hid (HB4.out.step hb5)
        clear hb5
        go_wp2
        go_roundw
        case rel => exact ⟨k + 1, by omega, by go_num, HB5.out⟩
        case measure => simp [intOf]; omega
    · obtain rfl : k = x := by omega
      obtain ⟨hv, hv2⟩ := cex_first HX.out.is
      go_wp2_with fail
      refine (l1Has_on s a1 a2 n1 c1 n2 c2 k _ HB.out.r1 (by omega)).mono ?_
      rintro e w4 ⟨rfl, hb4⟩
      have HB4 := Lib.hid (HB.out.step hb4)
      clear hb4 q0 q1
      have q2 := HB4.out.q2; have q3 := HB4.out.q3
      go_wp2_with fail
      refine (l1Has_on t b1 b2 m1 d1 m2 d2 k _ HB4.out.r2 (by omega)).mono ?_
      rintro e w5 ⟨rfl, hb5⟩
      have HB5 := Lib.hid (HB4.out.step hb5)
      clear hb5
      go_wp2
      go_ret
      exact ⟨rfl, HB5.out.below⟩

set_option maxRecDepth 100000 in
set_option maxHeartbeats 1000000 in
theorem specBelow_yes (s t : ByteArray) (w : World) (hs : s.size ≤ 1048576) (ht : t.size ≤ 1048576) (h1 : okS s = true) (h2 : okS t = true) (hx : ∀ n, cex s t n = false) :
    Calls Try.prog 29 #[.string s, .string t] w fun e w' => e = .returned (.bool true) ∧ Below w.heap.size w w' := by
  have HX := Lib.hid hx
  clear hx
  go_enter Try.func29, Try.ntmps29
  go_wp2_with fail
  refine (read_on s _ hs h1).mono ?_
  rintro e w1 ⟨a1, n1, c1, a2, n2, c2, rfl, hb, hr⟩
  go_wp2_with fail
  refine (read_on t _ ht h2).mono ?_
  rintro e w2 ⟨b1, m1, d1, b2, m2, d2, rfl, hb2, hr2⟩
  have HL := belowLoop_start (d1 := d1) (d2 := d2) hb (hr.alloc _) hb2 hr2
  have q0 := HL.q0; have q1 := HL.q1
  have HH := Lib.hid HL
  clear hb hr hb2 hr2 HL
  go_wp2_with fail
  refine (shape_on s t a1 a2 b1 b2 n1 c1 n2 c2 m1 d1 m2 d2 _ HH.out.r1 HH.out.r2).mono ?_
  rintro e w3 ⟨tl, p, rfl, hb3, hle, _⟩
  have HH3 := Lib.hid (HH.out.step hb3)
  clear hb3 HH q0 q1
  go_wp2
  go_loopw [11] (fun i wr => ∃ k : Nat, k ≤ tl + p ∧ i = .int .i64 k ∧ BelowLoop s t a1 n1 c1 a2 n2 c2 b1 m1 d1 b2 m2 d2 w1.heap.size w2.heap.size w wr) (fun i _ => tl + p + 1 - (intOf i).toNat)
  case atStart => exact ⟨0, Nat.zero_le _, rfl, HH3.out⟩
  case round =>
    obtain ⟨k, hk, rfl, HL⟩ := hrel
    have q0 := HL.q0; have q1 := HL.q1
    have HB := Lib.hid HL
    clear HL
    by_cases hlt : k < tl + p
    · have hkl : (k : Int) < (tl : Int) + (p : Int) := by omega
      rcases cex_second (HX.out k) with hv | ⟨hv, hv2⟩
      · go_wp2_with fail
        refine (l1Has_on s a1 a2 n1 c1 n2 c2 k _ HB.out.r1 (by omega)).mono ?_
        rintro e w4 ⟨rfl, hb4⟩
        have HB4 := Lib.hid (HB.out.step hb4)
        clear hb4
        go_wp2
        go_roundw
        case rel => exact ⟨k + 1, by omega, by go_num, HB4.out⟩
        case measure => simp [intOf]; omega
      · go_wp2_with fail
        refine (l1Has_on s a1 a2 n1 c1 n2 c2 k _ HB.out.r1 (by omega)).mono ?_
        rintro e w4 ⟨rfl, hb4⟩
        have HB4 := Lib.hid (HB.out.step hb4)
        clear hb4 q0 q1
        have q2 := HB4.out.q2; have q3 := HB4.out.q3
        go_wp2_with fail
        refine (l1Has_on t b1 b2 m1 d1 m2 d2 k _ HB4.out.r2 (by omega)).mono ?_
        rintro e w5 ⟨rfl, hb5⟩
        have HB5 := Lib.hid (HB4.out.step hb5)
        clear hb5
        go_wp2
        go_roundw
        case rel => exact ⟨k + 1, by omega, by go_num, HB5.out⟩
        case measure => simp [intOf]; omega
    · have hkl : (tl : Int) + (p : Int) ≤ (k : Int) := by omega
      go_wp2
      go_ret
      exact ⟨rfl, HB.out.below⟩

set_option maxHeartbeats 400000 in
theorem implBelow_off (s t : ByteArray) (m : Int) (w : World) (hs : s.size ≤ 1048576) (ht : t.size ≤ 1048576) (hL : LibAt m w) (h : okS s = false ∨ okS t = false) :
    Calls Try.prog 27 #[.string s, .string t] w fun e w' => e = .returned (.bool false) ∧ Below w.heap.size w w' := by
  cases h1 : okS s
  · cases h2 : okS t
    · go_enter Try.func27, Try.ntmps27
      go_wp2_with fail
      refine (split_off s m _ hs hL h1).mono ?_
      rintro e w1 ⟨rfl, hb⟩
      go_wp2_with fail
      refine (split_off t m _ ht (hL.below (hb.alloc hb.size _)) h2).mono ?_
      rintro e w2 ⟨rfl, hb2⟩
      go_wp2
      go_ret
      exact ⟨rfl, below_second hb hb2 _⟩
    · go_enter Try.func27, Try.ntmps27
      go_wp2_with fail
      refine (split_off s m _ hs hL h1).mono ?_
      rintro e w1 ⟨rfl, hb⟩
      go_wp2_with fail
      refine (split_on t m _ ht (hL.below (hb.alloc hb.size _)) h2).mono ?_
      rintro e w2 ⟨T, R, rfl, hb2, _⟩
      go_wp2
      go_ret
      exact ⟨rfl, below_second hb hb2 _⟩
  · have h2 : okS t = false := by rcases h with h | h; rw [h1] at h; cases h; exact h
    go_enter Try.func27, Try.ntmps27
    go_wp2_with fail
    refine (split_on s m _ hs hL h1).mono ?_
    rintro e w1 ⟨T, R, rfl, hb, _⟩
    go_wp2_with fail
    refine (split_off t m _ ht (hL.below (hb.alloc hb.size _)) h2).mono ?_
    rintro e w2 ⟨rfl, hb2⟩
    go_wp2
    go_ret
    exact ⟨rfl, below_second hb hb2 _⟩

/-- The world of the program's loop: two boxes. -/
structure BelowLoopI (T R T2 R2 : ByteArray) (B1 B2 : Nat) (w wr : World) : Prop where
  q0 : wr.cell? ⟨B1, 0, none⟩ = some (.string T)
  q1 : wr.cell? ⟨B1, 1, none⟩ = some (.string R)
  q2 : wr.cell? ⟨B2, 0, none⟩ = some (.string T2)
  q3 : wr.cell? ⟨B2, 1, none⟩ = some (.string R2)
  l1 : B1 < wr.heap.size
  l2 : B2 < wr.heap.size
  below : Below w.heap.size w wr
theorem BelowLoopI.step {T R T2 R2 : ByteArray} {B1 B2 : Nat} {w wr w' : World} (h : BelowLoopI T R T2 R2 B1 B2 w wr) (hb : Below wr.heap.size wr w') : BelowLoopI T R T2 R2 B1 B2 w w' := by
  have hs := hb.size
  exact ⟨(hb.cell (p := ⟨B1, 0, none⟩) h.l1).trans h.q0, (hb.cell (p := ⟨B1, 1, none⟩) h.l1).trans h.q1, (hb.cell (p := ⟨B2, 0, none⟩) h.l2).trans h.q2, (hb.cell (p := ⟨B2, 1, none⟩) h.l2).trans h.q3,
    Nat.lt_of_lt_of_le h.l1 hs, Nat.lt_of_lt_of_le h.l2 hs, h.below.trans (hb.mono h.below.size)⟩
theorem belowLoopI_start {T R T2 R2 : ByteArray} {w w1 w2 : World} (hb : Below w.heap.size w w1)
    (hb2 : Below (w1.alloc (.cells #[.string T, .string R] 48)).heap.size (w1.alloc (.cells #[.string T, .string R] 48)) w2) :
    BelowLoopI T R T2 R2 w1.heap.size w2.heap.size w (w2.alloc (.cells #[.string T2, .string R2] 48)) := by
  obtain ⟨⟨q0, q1⟩, q2, q3⟩ := boxes_later hb2 (Below.refl _ (w2.alloc (.cells #[.string T2, .string R2] 48)))
  have hs := hb2.size
  simp at hs
  exact ⟨q0, q1, q2, q3, by simp; omega, by simp, below_second hb hb2 _⟩

set_option maxRecDepth 100000 in
set_option maxHeartbeats 1000000 in
theorem implBelow_no (s t : ByteArray) (x : Nat) (m : Int) (w : World) (hs : s.size ≤ 1048576) (ht : t.size ≤ 1048576) (hL : LibAt m w) (h1 : okS s = true) (h2 : okS t = true) (hx : LeastCex s t x) :
    Calls Try.prog 27 #[.string s, .string t] w fun e w' => e = .returned (.bool false) ∧ Below w.heap.size w w' := by
  have HX := Lib.hid hx
  clear hx
  go_enter Try.func27, Try.ntmps27
  go_wp2_with fail
  refine (split_on s m _ hs hL h1).mono ?_
  rintro e w1 ⟨T, R, rfl, hb, hsp⟩
  go_wp2_with fail
  refine (split_on t m _ ht (hL.below (hb.alloc hb.size _)) h2).mono ?_
  rintro e w2 ⟨T2, R2, rfl, hb2, hsp2⟩
  have HL := belowLoopI_start (T2 := T2) (R2 := R2) hb hb2
  have q0 := HL.q0; have q1 := HL.q1; have q2 := HL.q2; have q3 := HL.q3
  have hlt := leastCex_lt (q := 60) HX.out (p := R.size * R2.size) (Nat.mul_pos hsp.ringPos hsp2.ringPos) ⟨R2.size, by rw [hsp.ringLen, Nat.mul_comm]⟩ ⟨R.size, by rw [hsp2.ringLen]⟩ (by rw [hsp.tailLen]; exact hsp.tailLe) (by rw [hsp2.tailLen]; exact hsp2.tailLe)
  have hm1 : R.size * R2.size ≤ 60 * 60 := Nat.mul_le_mul hsp.ringLe hsp2.ringLe
  obtain ⟨p, hp⟩ : ∃ p, p = R.size * R2.size := ⟨_, rfl⟩
  have hpi : (R.size : Int) * (R2.size : Int) = (p : Int) := by rw [hp, Int.natCast_mul]
  rw [← hp] at hlt hm1
  have HH := Lib.hid HL
  have HS := Lib.hid hsp
  have HS2 := Lib.hid hsp2
  clear hb hb2 HL hsp hsp2 hp
  go_wp2
  go_loopw [34] (fun i wr => ∃ k : Nat, k ≤ x ∧ i = .int .i64 k ∧ BelowLoopI T R T2 R2 w1.heap.size w2.heap.size w wr) (fun i _ => x + 1 - (intOf i).toNat)
  case atStart => exact ⟨0, Nat.zero_le _, rfl, HH.out⟩
  case round =>
    obtain ⟨k, hk, rfl, HL⟩ := hrel
    clear q0 q1 q2 q3
    have q0 := HL.q0; have q1 := HL.q1
    have hkl : (k : Int) < 60 + (p : Int) := by omega
    have HB := Lib.hid HL
    clear HL
    by_cases hlt : k < x
    · rcases cex_second (HX.out.least k hlt) with hv | ⟨hv, hv2⟩
      · go_wp2_with fail
        refine (has_on s T R k _ HS.out (by omega)).mono ?_
        rintro e w4 ⟨rfl, hb4⟩
        have HB4 := Lib.hid (HB.out.step hb4)
        clear hb4
        go_wp2
        go_roundw
        case rel => exact ⟨k + 1, by omega, by go_num, HB4.out⟩
        case measure => simp [intOf]; omega
      · go_wp2_with fail
        refine (has_on s T R k _ HS.out (by omega)).mono ?_
        rintro e w4 ⟨rfl, hb4⟩
        have HB4 := Lib.hid (HB.out.step hb4)
        clear hb4 q0 q1
        have q2 := HB4.out.q2; have q3 := HB4.out.q3
        go_wp2_with fail
        refine (has_on t T2 R2 k _ HS2.out (by omega)).mono ?_
        rintro e w5 ⟨rfl, hb5⟩
        have HB5 := Lib.hid (HB4.out.step hb5)
        clear hb5
        go_wp2
        go_roundw
        case rel => exact ⟨k + 1, by omega, by go_num, HB5.out⟩
        case measure => simp [intOf]; omega
    · obtain rfl : k = x := by omega
      obtain ⟨hv, hv2⟩ := cex_first HX.out.is
      go_wp2_with fail
      refine (has_on s T R k _ HS.out (by omega)).mono ?_
      rintro e w4 ⟨rfl, hb4⟩
      have HB4 := Lib.hid (HB.out.step hb4)
      clear hb4 q0 q1
      have q2 := HB4.out.q2; have q3 := HB4.out.q3
      go_wp2_with fail
      refine (has_on t T2 R2 k _ HS2.out (by omega)).mono ?_
      rintro e w5 ⟨rfl, hb5⟩
      have HB5 := Lib.hid (HB4.out.step hb5)
      clear hb5
      go_wp2
      go_ret
      exact ⟨rfl, HB5.out.below⟩

set_option maxRecDepth 100000 in
set_option maxHeartbeats 1000000 in
theorem implBelow_yes (s t : ByteArray) (m : Int) (w : World) (hs : s.size ≤ 1048576) (ht : t.size ≤ 1048576) (hL : LibAt m w) (h1 : okS s = true) (h2 : okS t = true) (hx : ∀ n, cex s t n = false) :
    Calls Try.prog 27 #[.string s, .string t] w fun e w' => e = .returned (.bool true) ∧ Below w.heap.size w w' := by
  have HX := Lib.hid hx
  clear hx
  go_enter Try.func27, Try.ntmps27
  go_wp2_with fail
  refine (split_on s m _ hs hL h1).mono ?_
  rintro e w1 ⟨T, R, rfl, hb, hsp⟩
  go_wp2_with fail
  refine (split_on t m _ ht (hL.below (hb.alloc hb.size _)) h2).mono ?_
  rintro e w2 ⟨T2, R2, rfl, hb2, hsp2⟩
  have HL := belowLoopI_start (T2 := T2) (R2 := R2) hb hb2
  have q0 := HL.q0; have q1 := HL.q1; have q2 := HL.q2; have q3 := HL.q3
  have hm1 : R.size * R2.size ≤ 60 * 60 := Nat.mul_le_mul hsp.ringLe hsp2.ringLe
  obtain ⟨p, hp⟩ : ∃ p, p = R.size * R2.size := ⟨_, rfl⟩
  have hpi : (R.size : Int) * (R2.size : Int) = (p : Int) := by rw [hp, Int.natCast_mul]
  rw [← hp] at hm1
  have HH := Lib.hid HL
  have HS := Lib.hid hsp
  have HS2 := Lib.hid hsp2
  clear hb hb2 HL hsp hsp2 hp
  go_wp2
  go_loopw [34] (fun i wr => ∃ k : Nat, k ≤ 60 + p ∧ i = .int .i64 k ∧ BelowLoopI T R T2 R2 w1.heap.size w2.heap.size w wr) (fun i _ => 61 + p - (intOf i).toNat)
  case atStart => exact ⟨0, Nat.zero_le _, rfl, HH.out⟩
  case round =>
    obtain ⟨k, hk, rfl, HL⟩ := hrel
    clear q0 q1 q2 q3
    have q0 := HL.q0; have q1 := HL.q1
    have HB := Lib.hid HL
    clear HL
    by_cases hlt : k < 60 + p
    · have hkl : (k : Int) < 60 + (p : Int) := by omega
      rcases cex_second (HX.out k) with hv | ⟨hv, hv2⟩
      · go_wp2_with fail
        refine (has_on s T R k _ HS.out (by omega)).mono ?_
        rintro e w4 ⟨rfl, hb4⟩
        have HB4 := Lib.hid (HB.out.step hb4)
        clear hb4
        go_wp2
        go_roundw
        case rel => exact ⟨k + 1, by omega, by go_num, HB4.out⟩
        case measure => simp [intOf]; omega
      · go_wp2_with fail
        refine (has_on s T R k _ HS.out (by omega)).mono ?_
        rintro e w4 ⟨rfl, hb4⟩
        have HB4 := Lib.hid (HB.out.step hb4)
        clear hb4 q0 q1
        have q2 := HB4.out.q2; have q3 := HB4.out.q3
        go_wp2_with fail
        refine (has_on t T2 R2 k _ HS2.out (by omega)).mono ?_
        rintro e w5 ⟨rfl, hb5⟩
        have HB5 := Lib.hid (HB4.out.step hb5)
        clear hb5
        go_wp2
        go_roundw
        case rel => exact ⟨k + 1, by omega, by go_num, HB5.out⟩
        case measure => simp [intOf]; omega
    · have hkl : 60 + (p : Int) ≤ (k : Int) := by omega
      go_wp2
      go_ret
      exact ⟨rfl, HB.out.below⟩

theorem specBelow (s t : ByteArray) (b : Bool) (w : World) (hs : s.size ≤ 1048576) (ht : t.size ≤ 1048576) (h : BelowIs s t b) :
    Calls Try.prog 29 #[.string s, .string t] w fun e w' => e = .returned (.bool b) ∧ Below w.heap.size w w' := by
  cases h with
  | off h => exact specBelow_off s t w hs ht h
  | no x h1 h2 hx => exact specBelow_no s t x w hs ht h1 h2 hx
  | yes h1 h2 hx => exact specBelow_yes s t w hs ht h1 h2 hx
theorem implBelow (s t : ByteArray) (m : Int) (b : Bool) (w : World) (hs : s.size ≤ 1048576) (ht : t.size ≤ 1048576) (hL : LibAt m w) (h : BelowIs s t b) :
    Calls Try.prog 27 #[.string s, .string t] w fun e w' => e = .returned (.bool b) ∧ Below w.heap.size w w' := by
  cases h with
  | off h => exact implBelow_off s t m w hs ht hL h
  | no x h1 h2 hx => exact implBelow_no s t x m w hs ht hL h1 h2 hx
  | yes h1 h2 hx => exact implBelow_yes s t m w hs ht hL h1 h2 hx

end Go.Proofs.Ytndpkmgjmpfgdaa
