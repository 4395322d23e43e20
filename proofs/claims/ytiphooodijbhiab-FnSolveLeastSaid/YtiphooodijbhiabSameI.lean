/-
  The walk of SetSame, of the program.
-/
import Derived.Test.YtiphooodijbhiabEql
namespace Go.Proofs.Ytiphooodijbhiab
open Go.RowKit

/-- Two boxes of the call's own, and what is below them. -/
structure Boxes (u v x y : Value) (B1 B2 : Nat) (w wr : World) : Prop where
  q0 : wr.cell? ⟨B1, 0, none⟩ = some u
  q1 : wr.cell? ⟨B1, 1, none⟩ = some v
  q2 : wr.cell? ⟨B2, 0, none⟩ = some x
  q3 : wr.cell? ⟨B2, 1, none⟩ = some y
  l1 : B1 < wr.heap.size
  l2 : B2 < wr.heap.size
  below : Below w.heap.size w wr

theorem Boxes.step {u v x y : Value} {B1 B2 : Nat} {w wr w' : World} (h : Boxes u v x y B1 B2 w wr) (hb : Below wr.heap.size wr w') : Boxes u v x y B1 B2 w w' := by
  have hs := hb.size
  exact ⟨(hb.cell (p := ⟨B1, 0, none⟩) h.l1).trans h.q0, (hb.cell (p := ⟨B1, 1, none⟩) h.l1).trans h.q1, (hb.cell (p := ⟨B2, 0, none⟩) h.l2).trans h.q2, (hb.cell (p := ⟨B2, 1, none⟩) h.l2).trans h.q3,
    Nat.lt_of_lt_of_le h.l1 hs, Nat.lt_of_lt_of_le h.l2 hs, h.below.trans (hb.mono h.below.size)⟩

theorem boxes_start {u v x y : Value} {T T2 : TypeId} {w w1 w2 : World} (hb : Below w.heap.size w w1) (hb2 : Below (w1.alloc (.cells #[u, v] T)).heap.size (w1.alloc (.cells #[u, v] T)) w2) :
    Boxes u v x y w1.heap.size w2.heap.size w (w2.alloc (.cells #[x, y] T2)) := by
  obtain ⟨⟨q0, q1⟩, q2, q3⟩ := boxes_later hb2 (Below.refl _ (w2.alloc (.cells #[x, y] T2)))
  have hs := hb2.size
  simp at hs
  exact ⟨q0, q1, q2, q3, by simp; omega, by simp, below_second hb hb2 _⟩

/-- What SetSame answers. -/
def SameIs (s t : ByteArray) (b : Bool) : Prop := ((okS s && okS t) = false ∧ b = false) ∨ (okS s = true ∧ okS t = true ∧ (b = true ↔ fS s = fS t))

set_option maxHeartbeats 400000 in
theorem implSame_off (s t : ByteArray) (m : Int) (w : World) (hs : s.size ≤ 1048576) (ht : t.size ≤ 1048576) (hL : LibAt m w) (h : okS s = false ∨ okS t = false) :
    Calls Try.prog 36 #[.string s, .string t] w fun e w' => e = .returned (.bool false) ∧ Below w.heap.size w w' := by
  cases h1 : okS s
  · cases h2 : okS t
    · go_enter Try.func36, Try.ntmps36
      go_wp2_with fail
      refine (split_off s m _ hs hL h1).mono ?_
      rintro e w1 ⟨rfl, hb⟩
      go_wp2_with fail
      refine (split_off t m _ ht (hL.below (hb.alloc hb.size _)) h2).mono ?_
      rintro e w2 ⟨rfl, hb2⟩
      go_wp2
      go_quiet (fail)
      go_wp2
      go_ret
      exact ⟨rfl, below_drewN (below_second hb hb2 _) _⟩
    · go_enter Try.func36, Try.ntmps36
      go_wp2_with fail
      refine (split_off s m _ hs hL h1).mono ?_
      rintro e w1 ⟨rfl, hb⟩
      go_wp2_with fail
      refine (split_on t m _ ht (hL.below (hb.alloc hb.size _)) h2).mono ?_
      rintro e w2 ⟨T, R, rfl, hb2, _⟩
      go_wp2
      go_quiet (fail)
      go_wp2
      go_ret
      exact ⟨rfl, below_drewN (below_second hb hb2 _) _⟩
  · have h2 : okS t = false := by rcases h with h | h; rw [h1] at h; cases h; exact h
    go_enter Try.func36, Try.ntmps36
    go_wp2_with fail
    refine (split_on s m _ hs hL h1).mono ?_
    rintro e w1 ⟨T, R, rfl, hb, _⟩
    go_wp2_with fail
    refine (split_off t m _ ht (hL.below (hb.alloc hb.size _)) h2).mono ?_
    rintro e w2 ⟨rfl, hb2⟩
    go_wp2
    go_quiet (fail)
    go_wp2
    go_ret
    exact ⟨rfl, below_drewN (below_second hb hb2 _) _⟩

/-- Two rings come round together. -/
theorem same_round (s : ByteArray) (h : okS s = true) : ∀ n, 60 ≤ n → fS s (n + (setR s).length) = fS s n := fun n hn => hasB_round _ _ n (by have := setT_le h; omega)

theorem same_all {s t : ByteArray} (h1 : okS s = true) (h2 : okS t = true) (h : agreeB (fS s) (fS t) = true) : fS s = fS t := by
  have p0 := setR_pos h1
  have p1 := setR_pos h2
  have l0 := setR_le h1
  have l1 := setR_le h2
  funext n
  induction n using Nat.strongRecOn with
  | ind n ih =>
    rcases Nat.lt_or_ge n 180 with k | k
    · exact agree_of h n k
    · have a1 := same_round s h1 (n - (setR s).length) (by omega)
      have a2 := same_round t h2 (n - (setR t).length) (by omega)
      have a3 := same_round t h2 (n - (setR s).length - (setR t).length) (by omega)
      have a4 := same_round s h1 (n - (setR s).length - (setR t).length) (by omega)
      rw [show n - (setR s).length + (setR s).length = n from by omega] at a1
      rw [show n - (setR t).length + (setR t).length = n from by omega] at a2
      rw [show n - (setR s).length - (setR t).length + (setR t).length = n - (setR s).length from by omega] at a3
      rw [show n - (setR s).length - (setR t).length + (setR s).length = n - (setR t).length from by omega] at a4
      rw [a1, a2, ih (n - (setR s).length) (by omega), a3, ← ih (n - (setR s).length - (setR t).length) (by omega), ← a4, ih (n - (setR t).length) (by omega)]

theorem same_agree {s t : ByteArray} {b : Bool} (h1 : okS s = true) (h2 : okS t = true) (h : b = true ↔ fS s = fS t) : agreeB (fS s) (fS t) = b := by
  cases b
  · rw [Bool.eq_false_iff]
    intro e
    exact absurd (h.2 (same_all h1 h2 e)) (by decide)
  · exact agree_eq (h.1 rfl)

set_option maxRecDepth 100000 in
set_option maxHeartbeats 4000000 in
theorem implSame_on (s t : ByteArray) (m : Int) (w : World) (hs : s.size ≤ 1048576) (ht : t.size ≤ 1048576) (hL : LibAt m w) (h1 : okS s = true) (h2 : okS t = true) :
    Calls Try.prog 36 #[.string s, .string t] w fun e w' => e = .returned (.bool (agreeB (fS s) (fS t))) ∧ Below w.heap.size w w' := by
  go_enter Try.func36, Try.ntmps36
  go_wp2_with fail
  refine (split_on s m _ hs hL h1).mono ?_
  rintro e w1 ⟨T, R, rfl, hb, hsp⟩
  go_wp2_with fail
  refine (split_on t m _ ht (hL.below (hb.alloc hb.size _)) h2).mono ?_
  rintro e w2 ⟨T2, R2, rfl, hb2, hsp2⟩
  have HS := Lib.hid hsp
  have HS2 := Lib.hid hsp2
  clear hsp hsp2
  have L0 := boxes_start (u := .string T) (v := .string R) (x := .string T2) (y := .string R2) (T2 := 81) hb hb2
  have q0 := L0.q0; have q1 := L0.q1; have q2 := L0.q2; have q3 := L0.q3
  have LL := Lib.hid (L0.step (Below.refl _ _).drew)
  clear hb hb2 L0
  have heq := fun W => run_eql_first (fS s) (fS t) W
  have heq2 := fun W => run_equalIn_first (fS s) (fS t) W
  go_wp2
  go_region_with (first
    | (go_at_call 69; (with_reducible refine (first_any s T R _ HS.out).mono ?_); rintro e w3 ⟨rfl, hb⟩; have LL := Lib.hid (LL.out.step hb); have q0 := LL.out.q0; have q1 := LL.out.q1; have q2 := LL.out.q2; have q3 := LL.out.q3; clear hb)
    | (go_at_call 69; (with_reducible refine (first_any t T2 R2 _ HS2.out).mono ?_); rintro e w4 ⟨rfl, hb⟩; have LL := Lib.hid (LL.out.step hb); have q0 := LL.out.q0; have q1 := LL.out.q1; have q2 := LL.out.q2; have q3 := LL.out.q3; clear hb))
  all_goals
    go_wp2
    go_ret
    exact ⟨rfl, LL.out.below⟩

end Go.Proofs.Ytiphooodijbhiab
