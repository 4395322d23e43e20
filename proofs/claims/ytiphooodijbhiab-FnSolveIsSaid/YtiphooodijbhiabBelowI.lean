/-
  The walk of SetBelow, of the program.
-/
import Derived.Test.YtiphooodijbhiabHasI
import Derived.Lib.MinMax
namespace Go.Proofs.Ytiphooodijbhiab
open Go.RowKit

/-- n is in the first set and not in the second. -/
def cex (s t : ByteArray) (n : Nat) : Bool := hasB (setT s) (setR s) n && !hasB (setT t) (setR t) n

structure LeastCex (s t : ByteArray) (x : Nat) : Prop where
  is : cex s t x = true
  least : ∀ y, y < x → cex s t y = false

theorem leastCex_of (s t : ByteArray) : ∀ d, cex s t d = true → ∃ x, LeastCex s t x := by
  intro d
  induction d using Nat.strongRecOn with
  | ind d ih =>
    intro h
    by_cases hx : ∃ e, e < d ∧ cex s t e = true
    · obtain ⟨e, he, h2⟩ := hx; exact ih e he h2
    · refine ⟨d, h, fun y hy => ?_⟩
      rw [Bool.eq_false_iff]
      exact fun h3 => hx ⟨y, hy, h3⟩

theorem cex_cases (s t : ByteArray) : (∃ x, LeastCex s t x) ∨ ∀ n, cex s t n = false := by
  by_cases h : ∃ d, cex s t d = true
  · obtain ⟨d, hd⟩ := h; exact .inl (leastCex_of s t d hd)
  · refine .inr fun y => ?_
    rw [Bool.eq_false_iff]
    exact fun h2 => h ⟨y, h2⟩

/-- The least one is less than tails and a common round. -/
theorem leastCex_lt {s t : ByteArray} {x p q : Nat} (h : LeastCex s t x) (hp : 0 < p) (h1 : ∃ k, p = k * (setR s).length) (h2 : ∃ k, p = k * (setR t).length) (hq1 : (setT s).length ≤ q) (hq2 : (setT t).length ≤ q) : x < q + p := by
  rcases Nat.lt_or_ge x (q + p) with k | k
  · exact k
  · obtain ⟨k1, e1⟩ := h1
    obtain ⟨k2, e2⟩ := h2
    have hh := h.is
    have hl := h.least (x - p) (by omega)
    have a1 : hasB (setT s) (setR s) x = hasB (setT s) (setR s) (x - p) := by
      have := hasB_rounds (setT s) (setR s) (x - p) k1 (by omega)
      rw [← e1, show x - p + p = x from by omega] at this
      exact this
    have a2 : hasB (setT t) (setR t) x = hasB (setT t) (setR t) (x - p) := by
      have := hasB_rounds (setT t) (setR t) (x - p) k2 (by omega)
      rw [← e2, show x - p + p = x from by omega] at this
      exact this
    unfold cex at hh hl
    rw [a1, a2, hl] at hh
    cases hh

/-- What SetBelow answers. -/
inductive BelowIs (s t : ByteArray) : Bool → Prop where
  | off : okS s = false ∨ okS t = false → BelowIs s t false
  | no (x : Nat) : okS s = true → okS t = true → LeastCex s t x → BelowIs s t false
  | yes : okS s = true → okS t = true → (∀ n, cex s t n = false) → BelowIs s t true

theorem below_form (s t : ByteArray) : ∃ b, BelowIs s t b := by
  cases h1 : okS s
  · exact ⟨_, .off (.inl h1)⟩
  · cases h2 : okS t
    · exact ⟨_, .off (.inr h2)⟩
    · rcases cex_cases s t with ⟨x, hx⟩ | hx
      · exact ⟨_, .no x h1 h2 hx⟩
      · exact ⟨_, .yes h1 h2 hx⟩

theorem cex_first {s t : ByteArray} {k : Nat} (h : cex s t k = true) : hasI (setT s) (setR s) (k : Int) = true ∧ hasI (setT t) (setR t) (k : Int) = false := by
  unfold cex at h
  rw [hasI_nat, hasI_nat]
  simpa using h

theorem cex_second {s t : ByteArray} {k : Nat} (h : cex s t k = false) : hasI (setT s) (setR s) (k : Int) = false ∨ (hasI (setT s) (setR s) (k : Int) = true ∧ hasI (setT t) (setR t) (k : Int) = true) := by
  unfold cex at h
  rw [hasI_nat, hasI_nat]
  cases h1 : hasB (setT s) (setR s) k
  · exact .inl rfl
  · right; rw [h1] at h; simpa using h

set_option maxHeartbeats 400000 in
theorem implBelow_off (s t : ByteArray) (m : Int) (w : World) (hs : s.size ≤ 1048576) (ht : t.size ≤ 1048576) (hL : LibAt m w) (h : okS s = false ∨ okS t = false) :
    Calls Try.prog 26 #[.string s, .string t] w fun e w' => e = .returned (.bool false) ∧ Below w.heap.size w w' := by
  cases h1 : okS s
  · cases h2 : okS t
    · go_enter Try.func26, Try.ntmps26
      go_wp2_with fail
      refine (split_off s m _ hs hL h1).mono ?_
      rintro e w1 ⟨rfl, hb⟩
      go_wp2_with fail
      refine (split_off t m _ ht (hL.below (hb.alloc hb.size _)) h2).mono ?_
      rintro e w2 ⟨rfl, hb2⟩
      go_wp2
      go_ret
      exact ⟨rfl, below_second hb hb2 _⟩
    · go_enter Try.func26, Try.ntmps26
      go_wp2_with fail
      refine (split_off s m _ hs hL h1).mono ?_
      rintro e w1 ⟨rfl, hb⟩
      go_wp2_with fail
      refine (split_on t m _ ht (hL.below (hb.alloc hb.size _)) h2).mono ?_
      rintro e w2 ⟨T, R, rfl, hb2, _⟩
      go_wp2
      go_ret
      exact ⟨rfl, below_second hb hb2 _⟩
  · have h2 : okS t = false := by rcases h with h | h; rw [h1] at h; cases h; exact h
    go_enter Try.func26, Try.ntmps26
    go_wp2_with fail
    refine (split_on s m _ hs hL h1).mono ?_
    rintro e w1 ⟨T, R, rfl, hb, _⟩
    go_wp2_with fail
    refine (split_off t m _ ht (hL.below (hb.alloc hb.size _)) h2).mono ?_
    rintro e w2 ⟨rfl, hb2⟩
    go_wp2
    go_ret
    exact ⟨rfl, below_second hb hb2 _⟩

/-- The world of the program's loop: two boxes. -/
structure BelowLoopI (T R T2 R2 : ByteArray) (B1 B2 : Nat) (w wr : World) : Prop where
  q0 : wr.cell? ⟨B1, 0, none⟩ = some (.string T)
  q1 : wr.cell? ⟨B1, 1, none⟩ = some (.string R)
  q2 : wr.cell? ⟨B2, 0, none⟩ = some (.string T2)
  q3 : wr.cell? ⟨B2, 1, none⟩ = some (.string R2)
  l1 : B1 < wr.heap.size
  l2 : B2 < wr.heap.size
  below : Below w.heap.size w wr

theorem BelowLoopI.step {T R T2 R2 : ByteArray} {B1 B2 : Nat} {w wr w' : World} (h : BelowLoopI T R T2 R2 B1 B2 w wr) (hb : Below wr.heap.size wr w') : BelowLoopI T R T2 R2 B1 B2 w w' := by
  have hs := hb.size
  exact ⟨(hb.cell (p := ⟨B1, 0, none⟩) h.l1).trans h.q0, (hb.cell (p := ⟨B1, 1, none⟩) h.l1).trans h.q1, (hb.cell (p := ⟨B2, 0, none⟩) h.l2).trans h.q2, (hb.cell (p := ⟨B2, 1, none⟩) h.l2).trans h.q3,
    Nat.lt_of_lt_of_le h.l1 hs, Nat.lt_of_lt_of_le h.l2 hs, h.below.trans (hb.mono h.below.size)⟩

theorem belowLoopI_start {T R T2 R2 : ByteArray} {w w1 w2 : World} (hb : Below w.heap.size w w1)
    (hb2 : Below (w1.alloc (.cells #[.string T, .string R] 81)).heap.size (w1.alloc (.cells #[.string T, .string R] 81)) w2) :
    BelowLoopI T R T2 R2 w1.heap.size w2.heap.size w (w2.alloc (.cells #[.string T2, .string R2] 81)) := by
  obtain ⟨⟨q0, q1⟩, q2, q3⟩ := boxes_later hb2 (Below.refl _ (w2.alloc (.cells #[.string T2, .string R2] 81)))
  have hs := hb2.size
  simp at hs
  exact ⟨q0, q1, q2, q3, by simp; omega, by simp, below_second hb hb2 _⟩

set_option maxRecDepth 100000 in
set_option maxHeartbeats 1000000 in
theorem implBelow_no (s t : ByteArray) (x : Nat) (m : Int) (w : World) (hs : s.size ≤ 1048576) (ht : t.size ≤ 1048576) (hL : LibAt m w) (h1 : okS s = true) (h2 : okS t = true) (hx : LeastCex s t x) :
    Calls Try.prog 26 #[.string s, .string t] w fun e w' => e = .returned (.bool false) ∧ Below w.heap.size w w' := by
  have HX := Lib.hid hx
  clear hx
  go_enter Try.func26, Try.ntmps26
  go_wp2_with fail
  refine (split_on s m _ hs hL h1).mono ?_
  rintro e w1 ⟨T, R, rfl, hb, hsp⟩
  go_wp2_with fail
  refine (split_on t m _ ht (hL.below (hb.alloc hb.size _)) h2).mono ?_
  rintro e w2 ⟨T2, R2, rfl, hb2, hsp2⟩
  have HL := belowLoopI_start (T2 := T2) (R2 := R2) hb hb2
  have q0 := HL.q0; have q1 := HL.q1; have q2 := HL.q2; have q3 := HL.q3
  have hlt := leastCex_lt (q := 60) HX.out (p := R.size * R2.size) (Nat.mul_pos hsp.ringPos hsp2.ringPos) ⟨R2.size, by rw [hsp.ringLen, Nat.mul_comm]⟩ ⟨R.size, by rw [hsp2.ringLen]⟩ (by rw [hsp.tailLen]; exact hsp.tailLe) (by rw [hsp2.tailLen]; exact hsp2.tailLe)
  have hm1 : R.size * R2.size ≤ 60 * 60 := Nat.mul_le_mul hsp.ringLe hsp2.ringLe
  obtain ⟨p, hp⟩ : ∃ p, p = R.size * R2.size := ⟨_, rfl⟩
  have hpi : (R.size : Int) * (R2.size : Int) = (p : Int) := by rw [hp, Int.natCast_mul]
  rw [← hp] at hlt hm1
  have HH := Lib.hid HL
  have HS := Lib.hid hsp
  have HS2 := Lib.hid hsp2
  clear hb hb2 HL hsp hsp2 hp
  go_wp2
  go_loopw [34] (fun i wr => ∃ k : Nat, k ≤ x ∧ i = .int .i64 k ∧ BelowLoopI T R T2 R2 w1.heap.size w2.heap.size w wr) (fun i _ => x + 1 - (intOf i).toNat)
  case atStart => exact ⟨0, Nat.zero_le _, rfl, HH.out⟩
  case round =>
    obtain ⟨k, hk, rfl, HL⟩ := hrel
    clear q0 q1 q2 q3
    have q0 := HL.q0; have q1 := HL.q1
    have hkl : (k : Int) < 60 + (p : Int) := by omega
    have HB := Lib.hid HL
    clear HL
    by_cases hlt : k < x
    · rcases cex_second (HX.out.least k hlt) with hv | ⟨hv, hv2⟩
      · go_wp2_with fail
        refine (has_on s T R k _ HS.out (by omega)).mono ?_
        rintro e w4 ⟨rfl, hb4⟩
        have HB4 := Lib.hid (HB.out.step hb4)
        clear hb4
        go_wp2
        go_roundw
        case rel => exact ⟨k + 1, by omega, by go_num, HB4.out⟩
        case measure => simp [intOf]; omega
      · go_wp2_with fail
        refine (has_on s T R k _ HS.out (by omega)).mono ?_
        rintro e w4 ⟨rfl, hb4⟩
        have HB4 := Lib.hid (HB.out.step hb4)
        clear hb4 q0 q1
        have q2 := HB4.out.q2; have q3 := HB4.out.q3
        go_wp2_with fail
        refine (has_on t T2 R2 k _ HS2.out (by omega)).mono ?_
        rintro e w5 ⟨rfl, hb5⟩
        have HB5 := Lib.hid (HB4.out.step hb5)
        clear hb5
        go_wp2
        go_roundw
        case rel => exact ⟨k + 1, by omega, by go_num, HB5.out⟩
        case measure => simp [intOf]; omega
    · obtain rfl : k = x := by omega
      obtain ⟨hv, hv2⟩ := cex_first HX.out.is
      go_wp2_with fail
      refine (has_on s T R k _ HS.out (by omega)).mono ?_
      rintro e w4 ⟨rfl, hb4⟩
      have HB4 := Lib.hid (HB.out.step hb4)
      clear hb4 q0 q1
      have q2 := HB4.out.q2; have q3 := HB4.out.q3
      go_wp2_with fail
      refine (has_on t T2 R2 k _ HS2.out (by omega)).mono ?_
      rintro e w5 ⟨rfl, hb5⟩
      have HB5 := Lib.hid (HB4.out.step hb5)
      clear hb5
      go_wp2
      go_ret
      exact ⟨rfl, HB5.out.below⟩

set_option maxRecDepth 100000 in
set_option maxHeartbeats 1000000 in
theorem implBelow_yes (s t : ByteArray) (m : Int) (w : World) (hs : s.size ≤ 1048576) (ht : t.size ≤ 1048576) (hL : LibAt m w) (h1 : okS s = true) (h2 : okS t = true) (hx : ∀ n, cex s t n = false) :
    Calls Try.prog 26 #[.string s, .string t] w fun e w' => e = .returned (.bool true) ∧ Below w.heap.size w w' := by
  have HX := Lib.hid hx
  clear hx
  go_enter Try.func26, Try.ntmps26
  go_wp2_with fail
  refine (split_on s m _ hs hL h1).mono ?_
  rintro e w1 ⟨T, R, rfl, hb, hsp⟩
  go_wp2_with fail
  refine (split_on t m _ ht (hL.below (hb.alloc hb.size _)) h2).mono ?_
  rintro e w2 ⟨T2, R2, rfl, hb2, hsp2⟩
  have HL := belowLoopI_start (T2 := T2) (R2 := R2) hb hb2
  have q0 := HL.q0; have q1 := HL.q1; have q2 := HL.q2; have q3 := HL.q3
  have hm1 : R.size * R2.size ≤ 60 * 60 := Nat.mul_le_mul hsp.ringLe hsp2.ringLe
  obtain ⟨p, hp⟩ : ∃ p, p = R.size * R2.size := ⟨_, rfl⟩
  have hpi : (R.size : Int) * (R2.size : Int) = (p : Int) := by rw [hp, Int.natCast_mul]
  rw [← hp] at hm1
  have HH := Lib.hid HL
  have HS := Lib.hid hsp
  have HS2 := Lib.hid hsp2
  clear hb hb2 HL hsp hsp2 hp
  go_wp2
  go_loopw [34] (fun i wr => ∃ k : Nat, k ≤ 60 + p ∧ i = .int .i64 k ∧ BelowLoopI T R T2 R2 w1.heap.size w2.heap.size w wr) (fun i _ => 61 + p - (intOf i).toNat)
  case atStart => exact ⟨0, Nat.zero_le _, rfl, HH.out⟩
  case round =>
    obtain ⟨k, hk, rfl, HL⟩ := hrel
    clear q0 q1 q2 q3
    have q0 := HL.q0; have q1 := HL.q1
    have HB := Lib.hid HL
    clear HL
    by_cases hlt : k < 60 + p
    · have hkl : (k : Int) < 60 + (p : Int) := by omega
      rcases cex_second (HX.out k) with hv | ⟨hv, hv2⟩
      · go_wp2_with fail
        refine (has_on s T R k _ HS.out (by omega)).mono ?_
        rintro e w4 ⟨rfl, hb4⟩
        have HB4 := Lib.hid (HB.out.step hb4)
        clear hb4
        go_wp2
        go_roundw
        case rel => exact ⟨k + 1, by omega, by go_num, HB4.out⟩
        case measure => simp [intOf]; omega
      · go_wp2_with fail
        refine (has_on s T R k _ HS.out (by omega)).mono ?_
        rintro e w4 ⟨rfl, hb4⟩
        have HB4 := Lib.hid (HB.out.step hb4)
        clear hb4 q0 q1
        have q2 := HB4.out.q2; have q3 := HB4.out.q3
        go_wp2_with fail
        refine (has_on t T2 R2 k _ HS2.out (by omega)).mono ?_
        rintro e w5 ⟨rfl, hb5⟩
        have HB5 := Lib.hid (HB4.out.step hb5)
        clear hb5
        go_wp2
        go_roundw
        case rel => exact ⟨k + 1, by omega, by go_num, HB5.out⟩
        case measure => simp [intOf]; omega
    · have hkl : 60 + (p : Int) ≤ (k : Int) := by omega
      go_wp2
      go_ret
      exact ⟨rfl, HB.out.below⟩

theorem implBelow (s t : ByteArray) (m : Int) (b : Bool) (w : World) (hs : s.size ≤ 1048576) (ht : t.size ≤ 1048576) (hL : LibAt m w) (h : BelowIs s t b) :
    Calls Try.prog 26 #[.string s, .string t] w fun e w' => e = .returned (.bool b) ∧ Below w.heap.size w w' := by
  cases h with
  | off h => exact implBelow_off s t m w hs ht hL h
  | no x h1 h2 hx => exact implBelow_no s t x m w hs ht hL h1 h2 hx
  | yes h1 h2 hx => exact implBelow_yes s t m w hs ht hL h1 h2 hx

end Go.Proofs.Ytiphooodijbhiab
