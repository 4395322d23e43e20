/-
  What a function value made by joined answers.
-/
import Derived.Test.YtonphojjlilcnaaMade
import Derived.Test.YtonphojjlilcnaaMakeMath
import Derived.Test.YtonphojjlilcnaaSteps
namespace Go.Proofs.Ytonphojjlilcnaa
open Go.RowKit

/-- The function value H answers hd of two truths. -/
structure PairGives (H : Nat) (hd : Bool → Bool → Bool) : Prop where
  enters : ∀ args w, (callFunc H args).run Try.prog w = .ok (.enter H args) w
  gives : ∀ (W : World) (x y : Bool), Calls Try.prog H #[.bool x, .bool y] W fun e w' => e = .returned (.bool (hd x y)) ∧ Below W.heap.size W w'

theorem has_nat {s T R : ByteArray} {n : Nat} {w : World} (h : IsSplit s T R) (hn : n ≤ 1000000) :
    Calls Try.prog 56 #[.agg #[.string T, .string R], .int .i64 n] w fun e w' => e = .returned (.bool (fS s n)) ∧ Below w.heap.size w w' := by
  have := has_on s T R n w h (by omega)
  rw [hasI_nat] at this
  exact this

set_option maxHeartbeats 1000000 in
theorem clo_joined (s t T R T2 R2 : ByteArray) (H A P Q : Nat) (hd : Bool → Bool → Bool) (n : Nat) (W : World) (hn : n ≤ 1000000) (hH : PairGives H hd)
    (lA : A < W.heap.size) (lP : P < W.heap.size) (lQ : Q < W.heap.size) (hs : IsSplit s T R) (ht : IsSplit t T2 R2)
    (c0 : W.cell? ⟨A, 0, none⟩ = some (.func (.func H) #[] #[])) (c1 : W.cell? ⟨P, 0, none⟩ = some (.string T)) (c2 : W.cell? ⟨P, 1, none⟩ = some (.string R)) (c3 : W.cell? ⟨Q, 0, none⟩ = some (.string T2)) (c4 : W.cell? ⟨Q, 1, none⟩ = some (.string R2)) :
    Calls Try.prog 86 #[.int .i64 n, .pointer (some ⟨A, 0, none⟩), .pointer (some ⟨P, 0, none⟩), .pointer (some ⟨Q, 0, none⟩)] W fun e w' =>
      e = .returned (.bool (hd (fS s n) (fS t n))) ∧ Below W.heap.size W w' := by
  have keep : ∀ w1 w2 : World, (w1.cell? ⟨A, 0, none⟩ = some (.func (.func H) #[] #[]) ∧ w1.cell? ⟨P, 0, none⟩ = some (.string T) ∧ w1.cell? ⟨P, 1, none⟩ = some (.string R) ∧ w1.cell? ⟨Q, 0, none⟩ = some (.string T2) ∧ w1.cell? ⟨Q, 1, none⟩ = some (.string R2) ∧ Below W.heap.size W w1) → Below w1.heap.size w1 w2 → (w2.cell? ⟨A, 0, none⟩ = some (.func (.func H) #[] #[]) ∧ w2.cell? ⟨P, 0, none⟩ = some (.string T) ∧ w2.cell? ⟨P, 1, none⟩ = some (.string R) ∧ w2.cell? ⟨Q, 0, none⟩ = some (.string T2) ∧ w2.cell? ⟨Q, 1, none⟩ = some (.string R2) ∧ Below W.heap.size W w2) := by
    rintro w1 w2 ⟨d0, d1, d2, d3, d4, hB⟩ hb
    have hz := hB.size
    exact ⟨(hb.cell (p := ⟨A, 0, none⟩) (by show A < _; omega)).trans d0, (hb.cell (p := ⟨P, 0, none⟩) (by show P < _; omega)).trans d1, (hb.cell (p := ⟨P, 1, none⟩) (by show P < _; omega)).trans d2,
      (hb.cell (p := ⟨Q, 0, none⟩) (by show Q < _; omega)).trans d3, (hb.cell (p := ⟨Q, 1, none⟩) (by show Q < _; omega)).trans d4, hB.trans (hb.mono hz)⟩
  have K1 : ∀ W1 : World, (W1.cell? ⟨A, 0, none⟩ = some (.func (.func H) #[] #[]) ∧ W1.cell? ⟨P, 0, none⟩ = some (.string T) ∧ W1.cell? ⟨P, 1, none⟩ = some (.string R) ∧ W1.cell? ⟨Q, 0, none⟩ = some (.string T2) ∧ W1.cell? ⟨Q, 1, none⟩ = some (.string R2) ∧ Below W.heap.size W W1) → Calls Try.prog 56 #[.agg #[.string T, .string R], .int .i64 n] W1 fun e w1 => e = .returned (.bool (fS s n)) ∧ (w1.cell? ⟨A, 0, none⟩ = some (.func (.func H) #[] #[]) ∧ w1.cell? ⟨P, 0, none⟩ = some (.string T) ∧ w1.cell? ⟨P, 1, none⟩ = some (.string R) ∧ w1.cell? ⟨Q, 0, none⟩ = some (.string T2) ∧ w1.cell? ⟨Q, 1, none⟩ = some (.string R2) ∧ Below W.heap.size W w1) :=
    fun W1 h1 => (has_nat hs hn).mono fun e w1 ⟨he, hb⟩ => ⟨he, keep _ _ h1 hb⟩
  have K2 : ∀ W1 : World, (W1.cell? ⟨A, 0, none⟩ = some (.func (.func H) #[] #[]) ∧ W1.cell? ⟨P, 0, none⟩ = some (.string T) ∧ W1.cell? ⟨P, 1, none⟩ = some (.string R) ∧ W1.cell? ⟨Q, 0, none⟩ = some (.string T2) ∧ W1.cell? ⟨Q, 1, none⟩ = some (.string R2) ∧ Below W.heap.size W W1) → Calls Try.prog 56 #[.agg #[.string T2, .string R2], .int .i64 n] W1 fun e w1 => e = .returned (.bool (fS t n)) ∧ (w1.cell? ⟨A, 0, none⟩ = some (.func (.func H) #[] #[]) ∧ w1.cell? ⟨P, 0, none⟩ = some (.string T) ∧ w1.cell? ⟨P, 1, none⟩ = some (.string R) ∧ w1.cell? ⟨Q, 0, none⟩ = some (.string T2) ∧ w1.cell? ⟨Q, 1, none⟩ = some (.string R2) ∧ Below W.heap.size W w1) :=
    fun W1 h1 => (has_nat ht hn).mono fun e w1 ⟨he, hb⟩ => ⟨he, keep _ _ h1 hb⟩
  have K3 : ∀ W1 : World, (W1.cell? ⟨A, 0, none⟩ = some (.func (.func H) #[] #[]) ∧ W1.cell? ⟨P, 0, none⟩ = some (.string T) ∧ W1.cell? ⟨P, 1, none⟩ = some (.string R) ∧ W1.cell? ⟨Q, 0, none⟩ = some (.string T2) ∧ W1.cell? ⟨Q, 1, none⟩ = some (.string R2) ∧ Below W.heap.size W W1) → Calls Try.prog H #[.bool (fS s n), .bool (fS t n)] W1 fun e w1 => e = .returned (.bool (hd (fS s n) (fS t n))) ∧ (w1.cell? ⟨A, 0, none⟩ = some (.func (.func H) #[] #[]) ∧ w1.cell? ⟨P, 0, none⟩ = some (.string T) ∧ w1.cell? ⟨P, 1, none⟩ = some (.string R) ∧ w1.cell? ⟨Q, 0, none⟩ = some (.string T2) ∧ w1.cell? ⟨Q, 1, none⟩ = some (.string R2) ∧ Below W.heap.size W w1) :=
    fun W1 h1 => (hH.gives W1 (fS s n) (fS t n)).mono fun e w1 ⟨he, hb⟩ => ⟨he, keep _ _ h1 hb⟩
  have HSD : W.drew.cell? ⟨A, 0, none⟩ = some (.func (.func H) #[] #[]) ∧ W.drew.cell? ⟨P, 0, none⟩ = some (.string T) ∧ W.drew.cell? ⟨P, 1, none⟩ = some (.string R) ∧ W.drew.cell? ⟨Q, 0, none⟩ = some (.string T2) ∧ W.drew.cell? ⟨Q, 1, none⟩ = some (.string R2) ∧ Below W.heap.size W W.drew := ⟨c0, c1, c2, c3, c4, (Below.refl _ _).drew⟩
  have eH := hH.enters
  have HK1 := Lib.hid K1
  have HK2 := Lib.hid K2
  have HK3 := Lib.hid K3
  obtain ⟨vR, hvR⟩ : ∃ v, v = hd (fS s n) (fS t n) := ⟨_, rfl⟩
  rw [← hvR] at HK3 ⊢
  clear keep K1 K2 K3 hs ht hH
  go_enter Try.func86, Try.ntmps86
  go_wp2
  go_region_held3 (fun w' => w'.cell? ⟨A, 0, none⟩ = some (.func (.func H) #[] #[]) ∧ w'.cell? ⟨P, 0, none⟩ = some (.string T) ∧ w'.cell? ⟨P, 1, none⟩ = some (.string R) ∧ w'.cell? ⟨Q, 0, none⟩ = some (.string T2) ∧ w'.cell? ⟨Q, 1, none⟩ = some (.string R2) ∧ Below W.heap.size W w') (first | assumption | (constructor <;> assumption))
    (first
      | (go_at_call 56; (with_reducible refine (HK1.out _ ?_).mono ?_); assumption; rintro e w5 ⟨rfl, hb5⟩)
      | (go_at_call 56; (with_reducible refine (HK2.out _ ?_).mono ?_); assumption; rintro e w6 ⟨rfl, hb6⟩)
      | (go_at_fn H; (with_reducible refine (HK3.out _ ?_).mono ?_); assumption; rintro e w7 ⟨rfl, hb7⟩))
  all_goals
    go_wp2
    go_ret
    exact ⟨by rw [hvR]; rfl, hb7.2.2.2.2.2⟩


end Go.Proofs.Ytonphojjlilcnaa
