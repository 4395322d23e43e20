/-
  The walks of the closures of joined, MakeUp, MakeDown, MakeEvery, MakeOver: is a number in what is made?
-/
import Derived.Test.YtcljchngjaodgaaMade
import Derived.Test.YtcljchngjaodgaaMakeMath
import Derived.Test.YtcljchngjaodgaaSteps
namespace Go.Proofs.Ytcljchngjaodgaa
open Go.RowKit

/-- The function value H answers hd of two truths. -/
structure PairGives (H : Nat) (hd : Bool → Bool → Bool) : Prop where
  enters : ∀ args w, (callFunc H args).run Try.prog w = .ok (.enter H args) w
  gives : ∀ (W : World) (x y : Bool), Calls Try.prog H #[.bool x, .bool y] W fun e w' => e = .returned (.bool (hd x y)) ∧ Below W.heap.size W w'

theorem has_nat {s T R : ByteArray} {n : Nat} {w : World} (h : IsSplit s T R) (hn : n ≤ 1000000) :
    Calls Try.prog 52 #[.agg #[.string T, .string R], .int .i64 n] w fun e w' => e = .returned (.bool (fS s n)) ∧ Below w.heap.size w w' := by
  have := has_on s T R n w h (by omega)
  rw [hasI_nat] at this
  exact this

theorem pair_either : PairGives 49 (fun x y => x || y) := by
  refine ⟨enters_of Try.func49 (by kernel_rfl) rfl, fun W x y => ?_⟩
  show Calls Try.prog 49 #[.bool x, .bool y] W _
  cases x <;> cases y <;>
    (go_enter Try.func49, Try.ntmps49
     go_wp2
     go_ret
     exact ⟨rfl, Below.refl _ _⟩)

theorem pair_both : PairGives 55 (fun x y => x && y) := by
  refine ⟨enters_of Try.func55 (by kernel_rfl) rfl, fun W x y => ?_⟩
  show Calls Try.prog 55 #[.bool x, .bool y] W _
  cases x <;> cases y <;>
    (go_enter Try.func55, Try.ntmps55
     go_wp2
     go_ret
     exact ⟨rfl, Below.refl _ _⟩)

theorem pair_without : PairGives 56 (fun x y => x && !y) := by
  refine ⟨enters_of Try.func56 (by kernel_rfl) rfl, fun W x y => ?_⟩
  show Calls Try.prog 56 #[.bool x, .bool y] W _
  cases x <;> cases y <;>
    (go_enter Try.func56, Try.ntmps56
     go_wp2
     go_ret
     exact ⟨rfl, Below.refl _ _⟩)

set_option maxHeartbeats 1000000 in
theorem clo_joined (s t T R T2 R2 : ByteArray) (H A P Q : Nat) (hd : Bool → Bool → Bool) (n : Nat) (W : World) (hn : n ≤ 1000000) (hH : PairGives H hd)
    (lA : A < W.heap.size) (lP : P < W.heap.size) (lQ : Q < W.heap.size) (hs : IsSplit s T R) (ht : IsSplit t T2 R2)
    (c0 : W.cell? ⟨A, 0, none⟩ = some (.func (.func H) #[] #[])) (c1 : W.cell? ⟨P, 0, none⟩ = some (.string T)) (c2 : W.cell? ⟨P, 1, none⟩ = some (.string R)) (c3 : W.cell? ⟨Q, 0, none⟩ = some (.string T2)) (c4 : W.cell? ⟨Q, 1, none⟩ = some (.string R2)) :
    Calls Try.prog 75 #[.int .i64 n, .pointer (some ⟨A, 0, none⟩), .pointer (some ⟨P, 0, none⟩), .pointer (some ⟨Q, 0, none⟩)] W fun e w' =>
      e = .returned (.bool (hd (fS s n) (fS t n))) ∧ Below W.heap.size W w' := by
  have keep : ∀ w1 w2 : World, (w1.cell? ⟨A, 0, none⟩ = some (.func (.func H) #[] #[]) ∧ w1.cell? ⟨P, 0, none⟩ = some (.string T) ∧ w1.cell? ⟨P, 1, none⟩ = some (.string R) ∧ w1.cell? ⟨Q, 0, none⟩ = some (.string T2) ∧ w1.cell? ⟨Q, 1, none⟩ = some (.string R2) ∧ Below W.heap.size W w1) → Below w1.heap.size w1 w2 → (w2.cell? ⟨A, 0, none⟩ = some (.func (.func H) #[] #[]) ∧ w2.cell? ⟨P, 0, none⟩ = some (.string T) ∧ w2.cell? ⟨P, 1, none⟩ = some (.string R) ∧ w2.cell? ⟨Q, 0, none⟩ = some (.string T2) ∧ w2.cell? ⟨Q, 1, none⟩ = some (.string R2) ∧ Below W.heap.size W w2) := by
    rintro w1 w2 ⟨d0, d1, d2, d3, d4, hB⟩ hb
    have hz := hB.size
    exact ⟨(hb.cell (p := ⟨A, 0, none⟩) (by show A < _; omega)).trans d0, (hb.cell (p := ⟨P, 0, none⟩) (by show P < _; omega)).trans d1, (hb.cell (p := ⟨P, 1, none⟩) (by show P < _; omega)).trans d2,
      (hb.cell (p := ⟨Q, 0, none⟩) (by show Q < _; omega)).trans d3, (hb.cell (p := ⟨Q, 1, none⟩) (by show Q < _; omega)).trans d4, hB.trans (hb.mono hz)⟩
  have K1 : ∀ W1 : World, (W1.cell? ⟨A, 0, none⟩ = some (.func (.func H) #[] #[]) ∧ W1.cell? ⟨P, 0, none⟩ = some (.string T) ∧ W1.cell? ⟨P, 1, none⟩ = some (.string R) ∧ W1.cell? ⟨Q, 0, none⟩ = some (.string T2) ∧ W1.cell? ⟨Q, 1, none⟩ = some (.string R2) ∧ Below W.heap.size W W1) → Calls Try.prog 52 #[.agg #[.string T, .string R], .int .i64 n] W1 fun e w1 => e = .returned (.bool (fS s n)) ∧ (w1.cell? ⟨A, 0, none⟩ = some (.func (.func H) #[] #[]) ∧ w1.cell? ⟨P, 0, none⟩ = some (.string T) ∧ w1.cell? ⟨P, 1, none⟩ = some (.string R) ∧ w1.cell? ⟨Q, 0, none⟩ = some (.string T2) ∧ w1.cell? ⟨Q, 1, none⟩ = some (.string R2) ∧ Below W.heap.size W w1) :=
    fun W1 h1 => (has_nat hs hn).mono fun e w1 ⟨he, hb⟩ => ⟨he, keep _ _ h1 hb⟩
  have K2 : ∀ W1 : World, (W1.cell? ⟨A, 0, none⟩ = some (.func (.func H) #[] #[]) ∧ W1.cell? ⟨P, 0, none⟩ = some (.string T) ∧ W1.cell? ⟨P, 1, none⟩ = some (.string R) ∧ W1.cell? ⟨Q, 0, none⟩ = some (.string T2) ∧ W1.cell? ⟨Q, 1, none⟩ = some (.string R2) ∧ Below W.heap.size W W1) → Calls Try.prog 52 #[.agg #[.string T2, .string R2], .int .i64 n] W1 fun e w1 => e = .returned (.bool (fS t n)) ∧ (w1.cell? ⟨A, 0, none⟩ = some (.func (.func H) #[] #[]) ∧ w1.cell? ⟨P, 0, none⟩ = some (.string T) ∧ w1.cell? ⟨P, 1, none⟩ = some (.string R) ∧ w1.cell? ⟨Q, 0, none⟩ = some (.string T2) ∧ w1.cell? ⟨Q, 1, none⟩ = some (.string R2) ∧ Below W.heap.size W w1) :=
    fun W1 h1 => (has_nat ht hn).mono fun e w1 ⟨he, hb⟩ => ⟨he, keep _ _ h1 hb⟩
  have K3 : ∀ W1 : World, (W1.cell? ⟨A, 0, none⟩ = some (.func (.func H) #[] #[]) ∧ W1.cell? ⟨P, 0, none⟩ = some (.string T) ∧ W1.cell? ⟨P, 1, none⟩ = some (.string R) ∧ W1.cell? ⟨Q, 0, none⟩ = some (.string T2) ∧ W1.cell? ⟨Q, 1, none⟩ = some (.string R2) ∧ Below W.heap.size W W1) → Calls Try.prog H #[.bool (fS s n), .bool (fS t n)] W1 fun e w1 => e = .returned (.bool (hd (fS s n) (fS t n))) ∧ (w1.cell? ⟨A, 0, none⟩ = some (.func (.func H) #[] #[]) ∧ w1.cell? ⟨P, 0, none⟩ = some (.string T) ∧ w1.cell? ⟨P, 1, none⟩ = some (.string R) ∧ w1.cell? ⟨Q, 0, none⟩ = some (.string T2) ∧ w1.cell? ⟨Q, 1, none⟩ = some (.string R2) ∧ Below W.heap.size W w1) :=
    fun W1 h1 => (hH.gives W1 (fS s n) (fS t n)).mono fun e w1 ⟨he, hb⟩ => ⟨he, keep _ _ h1 hb⟩
  have HSD : W.drew.cell? ⟨A, 0, none⟩ = some (.func (.func H) #[] #[]) ∧ W.drew.cell? ⟨P, 0, none⟩ = some (.string T) ∧ W.drew.cell? ⟨P, 1, none⟩ = some (.string R) ∧ W.drew.cell? ⟨Q, 0, none⟩ = some (.string T2) ∧ W.drew.cell? ⟨Q, 1, none⟩ = some (.string R2) ∧ Below W.heap.size W W.drew := ⟨c0, c1, c2, c3, c4, (Below.refl _ _).drew⟩
  have eH := hH.enters
  have HK1 := Lib.hid K1
  have HK2 := Lib.hid K2
  have HK3 := Lib.hid K3
  obtain ⟨vR, hvR⟩ : ∃ v, v = hd (fS s n) (fS t n) := ⟨_, rfl⟩
  rw [← hvR] at HK3 ⊢
  clear keep K1 K2 K3 hs ht hH
  go_enter Try.func75, Try.ntmps75
  go_wp2
  go_region_held3 (fun w' => w'.cell? ⟨A, 0, none⟩ = some (.func (.func H) #[] #[]) ∧ w'.cell? ⟨P, 0, none⟩ = some (.string T) ∧ w'.cell? ⟨P, 1, none⟩ = some (.string R) ∧ w'.cell? ⟨Q, 0, none⟩ = some (.string T2) ∧ w'.cell? ⟨Q, 1, none⟩ = some (.string R2) ∧ Below W.heap.size W w') (first | assumption | (constructor <;> assumption))
    (first
      | (go_at_call 52; (with_reducible refine (HK1.out _ ?_).mono ?_); assumption; rintro e w5 ⟨rfl, hb5⟩)
      | (go_at_call 52; (with_reducible refine (HK2.out _ ?_).mono ?_); assumption; rintro e w6 ⟨rfl, hb6⟩)
      | (go_at_fn H; (with_reducible refine (HK3.out _ ?_).mono ?_); assumption; rintro e w7 ⟨rfl, hb7⟩))
  all_goals
    go_wp2
    go_ret
    exact ⟨by rw [hvR]; rfl, hb7.2.2.2.2.2⟩


theorem has_up (s : ByteArray) (k n : Nat) : hasI (setT s) (setR s) ((n : Int) - (k : Int)) = upF (fS s) k n := by
  unfold upF
  rcases Nat.lt_or_ge n k with h | h
  · rw [hasI_neg _ _ _ (by omega), decide_eq_false (by omega), Bool.false_and]
  · obtain ⟨j, rfl⟩ : ∃ j, n = k + j := ⟨n - k, by omega⟩
    rw [show ((k + j : Nat) : Int) - (k : Int) = (j : Int) from by omega, hasI_nat, decide_eq_true (by omega), Bool.true_and, show k + j - k = j from by omega]; rfl

set_option maxHeartbeats 400000 in
theorem clo_up (s T R : ByteArray) (P B k n : Nat) (W : World) (hk : k ≤ 1000) (hn : n ≤ 1000000) (_ : P < W.heap.size) (_ : B < W.heap.size) (hs : IsSplit s T R) (c1 : W.cell? ⟨P, 0, none⟩ = some (.string T)) (c2 : W.cell? ⟨P, 1, none⟩ = some (.string R)) (c0 : W.cell? ⟨B, 0, none⟩ = some (.int .i64 k)) :
    Calls Try.prog 59 #[.int .i64 n, .pointer (some ⟨P, 0, none⟩), .pointer (some ⟨B, 0, none⟩)] W fun e w' => e = .returned (.bool (upF (fS s) k n)) ∧ Below W.heap.size W w' := by
  have K1 : ∀ W1 : World, Calls Try.prog 52 #[.agg #[.string T, .string R], .int .i64 ((n : Int) - (k : Int))] W1 fun e w1 => e = .returned (.bool (upF (fS s) k n)) ∧ Below W1.heap.size W1 w1 := fun W1 => by
    have := has_on s T R ((n : Int) - (k : Int)) W1 hs (by omega)
    rw [has_up] at this
    exact this
  go_enter Try.func59, Try.ntmps59
  go_wp2_with fail
  refine (K1 _).mono ?_
  rintro e w1 ⟨rfl, hb⟩
  go_wp2
  go_ret
  exact ⟨rfl, hb⟩

set_option maxHeartbeats 400000 in
theorem clo_down (s T R : ByteArray) (P B k n : Nat) (W : World) (hk : k ≤ 1000) (hn : n ≤ 900000) (_ : P < W.heap.size) (_ : B < W.heap.size) (hs : IsSplit s T R) (c1 : W.cell? ⟨P, 0, none⟩ = some (.string T)) (c2 : W.cell? ⟨P, 1, none⟩ = some (.string R)) (c0 : W.cell? ⟨B, 0, none⟩ = some (.int .i64 k)) :
    Calls Try.prog 64 #[.int .i64 n, .pointer (some ⟨P, 0, none⟩), .pointer (some ⟨B, 0, none⟩)] W fun e w' => e = .returned (.bool (downF (fS s) k n)) ∧ Below W.heap.size W w' := by
  have K1 : ∀ W1 : World, Calls Try.prog 52 #[.agg #[.string T, .string R], .int .i64 ((n : Int) + (k : Int))] W1 fun e w1 => e = .returned (.bool (downF (fS s) k n)) ∧ Below W1.heap.size W1 w1 := fun W1 =>
    has_nat (n := n + k) hs (by omega)
  go_enter Try.func64, Try.ntmps64
  go_wp2_with fail
  refine (K1 _).mono ?_
  rintro e w1 ⟨rfl, hb⟩
  go_wp2
  go_ret
  exact ⟨rfl, hb⟩

set_option maxHeartbeats 400000 in
theorem clo_every (s T R : ByteArray) (P B C k r n : Nat) (W : World) (hk : k ≤ 20) (hr : r ≤ 100) (hn : n ≤ 10000) (_ : P < W.heap.size) (_ : B < W.heap.size) (hs : IsSplit s T R) (c1 : W.cell? ⟨P, 0, none⟩ = some (.string T)) (c2 : W.cell? ⟨P, 1, none⟩ = some (.string R)) (c0 : W.cell? ⟨B, 0, none⟩ = some (.int .i64 k)) (_ : C < W.heap.size) (c3 : W.cell? ⟨C, 0, none⟩ = some (.int .i64 r)) :
    Calls Try.prog 71 #[.int .i64 n, .pointer (some ⟨P, 0, none⟩), .pointer (some ⟨B, 0, none⟩), .pointer (some ⟨C, 0, none⟩)] W fun e w' => e = .returned (.bool (everyF (fS s) k r n)) ∧ Below W.heap.size W w' := by
  have hm : k * n ≤ 20 * 10000 := Nat.mul_le_mul hk hn
  obtain ⟨x, hx⟩ : ∃ x, x = k * n := ⟨_, rfl⟩
  have hxi : (k : Int) * (n : Int) = (x : Int) := by rw [hx, Int.natCast_mul]
  have K1 : ∀ W1 : World, Calls Try.prog 52 #[.agg #[.string T, .string R], .int .i64 ((x : Int) + (r : Int))] W1 fun e w1 => e = .returned (.bool (everyF (fS s) k r n)) ∧ Below W1.heap.size W1 w1 := fun W1 => by
    have := has_nat (n := x + r) (w := W1) hs (by omega)
    rw [hx] at this
    unfold everyF
    rw [hx]
    exact this
  rw [← hx] at hm
  clear hx
  go_enter Try.func71, Try.ntmps71
  go_wp2_with fail
  refine (K1 _).mono ?_
  rintro e w1 ⟨rfl, hb⟩
  go_wp2
  go_ret
  exact ⟨rfl, hb⟩

set_option maxHeartbeats 400000 in
theorem clo_over (s T R : ByteArray) (P B k n : Nat) (W : World) (hk : k ≤ 20) (hn : n ≤ 10000) (lP : P < W.heap.size) (lK : B < W.heap.size) (hs : IsSplit s T R) (c1 : W.cell? ⟨P, 0, none⟩ = some (.string T)) (c2 : W.cell? ⟨P, 1, none⟩ = some (.string R)) (c0 : W.cell? ⟨B, 0, none⟩ = some (.int .i64 k)) :
    Calls Try.prog 72 #[.int .i64 n, .pointer (some ⟨B, 0, none⟩), .pointer (some ⟨P, 0, none⟩)] W fun e w' => e = .returned (.bool (overF (fS s) k n)) ∧ Below W.heap.size W w' := by
  have hm : k * n ≤ 20 * 10000 := Nat.mul_le_mul hk hn
  obtain ⟨x, hx⟩ : ∃ x, x = k * n := ⟨_, rfl⟩
  have hxi : (k : Int) * (n : Int) = (x : Int) := by rw [hx, Int.natCast_mul]
  have K1 : ∀ (W1 : World) (i : Nat), i ≤ k → Calls Try.prog 52 #[.agg #[.string T, .string R], .int .i64 ((x : Int) + (i : Int))] W1 fun e w1 => e = .returned (.bool (fS s (x + i))) ∧ Below W1.heap.size W1 w1 := fun W1 i hi =>
    has_nat (n := x + i) hs (by omega)
  have HK1 := Lib.hid K1
  have e0 : overF (fS s) k n = someF (fS s) x k := by rw [hx]; rfl
  rw [e0, ← hx] at *
  clear hx e0 K1 hs
  go_enter Try.func72, Try.ntmps72
  go_wp2
  go_loopw [7] (fun i wr => ∃ j : Nat, j ≤ k ∧ i = .int .i64 j ∧ someF (fS s) x j = false ∧ Below W.heap.size W wr) (fun i _ => k + 1 - (intOf i).toNat)
  case atStart => exact ⟨0, Nat.zero_le _, rfl, rfl, Below.refl _ _⟩
  case round =>
    obtain ⟨j, hj, rfl, hf, hB⟩ := hrel
    have HF := Lib.hid hf
    have HB := Lib.hid hB
    have d0 := (hB.cell (p := ⟨B, 0, none⟩) lK).trans c0
    have d1 := (hB.cell (p := ⟨P, 0, none⟩) lP).trans c1
    have d2 := (hB.cell (p := ⟨P, 1, none⟩) lP).trans c2
    clear hf hB
    by_cases hlt : j < k
    · cases hv : fS s (x + j)
      · have K2 := fun W1 => HK1.out W1 j hj
        rw [hv] at K2
        have HV := Lib.hid hv
        have HK2 := Lib.hid K2
        clear hv K2
        go_wp2_with fail
        refine (HK2.out _).mono ?_
        rintro e w1 ⟨rfl, hb⟩
        have HB1 := Lib.hid (HB.out.trans (hb.mono HB.out.size))
        clear hb
        go_wp2
        go_roundw
        case rel => exact ⟨j + 1, by omega, by go_num, by unfold someF; rw [HF.out, HV.out]; rfl, HB1.out⟩
        case measure => simp [intOf]; omega
      · have K2 := fun W1 => HK1.out W1 j hj
        rw [hv] at K2
        have HV := Lib.hid hv
        have HK2 := Lib.hid K2
        clear hv K2
        go_wp2_with fail
        refine (HK2.out _).mono ?_
        rintro e w1 ⟨rfl, hb⟩
        have HB1 := Lib.hid (HB.out.trans (hb.mono HB.out.size))
        clear hb
        go_wp2
        go_ret
        exact ⟨ret_bool ((someF_iff _ _ _).2 ⟨j, hlt, HV.out⟩).symm, HB1.out⟩
    · obtain rfl : j = k := by omega
      go_wp2
      go_ret
      exact ⟨ret_bool HF.out.symm, HB.out⟩

set_option maxHeartbeats 1000000 in
theorem clo_times_yes (s T R : ByteArray) (P B k n : Nat) (W : World) (hk0 : 0 < k) (hk : k ≤ 20) (hn : n ≤ 1000000) (hz : n % k = 0) (lP : P < W.heap.size) (lK : B < W.heap.size) (hs : IsSplit s T R) (c1 : W.cell? ⟨P, 0, none⟩ = some (.string T)) (c2 : W.cell? ⟨P, 1, none⟩ = some (.string R)) (c0 : W.cell? ⟨B, 0, none⟩ = some (.int .i64 k)) :
    Calls Try.prog 68 #[.int .i64 n, .pointer (some ⟨B, 0, none⟩), .pointer (some ⟨P, 0, none⟩)] W fun e w' => e = .returned (.bool (timesF (fS s) k n)) ∧ Below W.heap.size W w' := by
  have SC : ∀ w1 w2 : World, (w1.cell? ⟨B, 0, none⟩ = some (.int .i64 k) ∧ w1.cell? ⟨P, 0, none⟩ = some (.string T) ∧ w1.cell? ⟨P, 1, none⟩ = some (.string R) ∧ Below W.heap.size W w1) → Below w1.heap.size w1 w2 →
      (w2.cell? ⟨B, 0, none⟩ = some (.int .i64 k) ∧ w2.cell? ⟨P, 0, none⟩ = some (.string T) ∧ w2.cell? ⟨P, 1, none⟩ = some (.string R) ∧ Below W.heap.size W w2) := by
    rintro w1 w2 ⟨d0, d1, d2, hB⟩ hb
    have hz := hB.size
    exact ⟨(hb.cell (p := ⟨B, 0, none⟩) (by show B < _; omega)).trans d0, (hb.cell (p := ⟨P, 0, none⟩) (by show P < _; omega)).trans d1, (hb.cell (p := ⟨P, 1, none⟩) (by show P < _; omega)).trans d2, hB.trans (hb.mono hz)⟩
  have HSD : W.drew.cell? ⟨B, 0, none⟩ = some (.int .i64 k) ∧ W.drew.cell? ⟨P, 0, none⟩ = some (.string T) ∧ W.drew.cell? ⟨P, 1, none⟩ = some (.string R) ∧ Below W.heap.size W W.drew := ⟨c0, c1, c2, (Below.refl _ _).drew⟩
  obtain ⟨z, hzd⟩ : ∃ z, z = n / k := ⟨_, rfl⟩
  have hq : z ≤ 1000000 := by rw [hzd]; exact Nat.le_trans (Nat.div_le_self _ _) hn
  have hdt : (n : Int).tdiv (k : Int) = (z : Int) := by rw [hzd, Int.tdiv_eq_ediv_of_nonneg (by omega)]; rfl
  have hdi : (n : Int) / (k : Int) = (z : Int) := by rw [hzd]; rfl
  have hwz : IntKind.i64.wrap (z : Int) = (z : Int) := IntWalk.i64_in _ (by omega)
  have K1 : ∀ W1 : World, (W1.cell? ⟨B, 0, none⟩ = some (.int .i64 k) ∧ W1.cell? ⟨P, 0, none⟩ = some (.string T) ∧ W1.cell? ⟨P, 1, none⟩ = some (.string R) ∧ Below W.heap.size W W1) →
      Calls Try.prog 52 #[.agg #[.string T, .string R], .int .i64 z] W1 fun e w1 => e = .returned (.bool (fS s z)) ∧
        (w1.cell? ⟨B, 0, none⟩ = some (.int .i64 k) ∧ w1.cell? ⟨P, 0, none⟩ = some (.string T) ∧ w1.cell? ⟨P, 1, none⟩ = some (.string R) ∧ Below W.heap.size W w1) :=
    fun W1 h1 => (has_nat (n := z) hs hq).mono fun e w1 ⟨he, hb⟩ => ⟨he, SC _ _ h1 hb⟩
  have HK1 := Lib.hid K1
  have hE : ¬ k = 0 := by omega
  clear K1 SC hs
  have HZD := Lib.hid hzd
  clear hzd
  have hzi : (n : Int) % (k : Int) = 0 := by omega
  have HT : Hid (timesF (fS s) k n = fS s z) := Lib.hid (by unfold timesF; rw [decide_eq_true hz, Bool.true_and, HZD.out])
  have hzt : (n : Int).tmod (k : Int) = 0 := by rw [Int.tmod_eq_emod_of_nonneg (by omega)]; exact hzi
  have HZ := Lib.hid hz
  clear hz
  go_enter Try.func68, Try.ntmps68
  go_wp2
  refine wp_region_noPanic ?_
  refine wp_region_held_drew (S := fun w' => w'.cell? ⟨B, 0, none⟩ = some (.int .i64 k) ∧ w'.cell? ⟨P, 0, none⟩ = some (.string T) ∧ w'.cell? ⟨P, 1, none⟩ = some (.string R) ∧ Below W.heap.size W w') (by kernel_rfl) (HSD) (fun HS => ?_)
  refine' doH 0 (v := ?v0) rfl (by kernel_rfl) (by kernel_rfl) (by kernel_rfl) (fun _ _ _ h => h) rfl HS ?hy0 ?rest0
  case hy0 => (rintro w ⟨s0, s1, s2, s3⟩; go_simp; try with_reducible rfl)
  try simp only [Act.put, List.setIfInBounds_toArray, List.set_cons_zero, List.set_cons_succ]
  refine' doH 1 (v := ?v1) rfl (by kernel_rfl) (by kernel_rfl) (by kernel_rfl) (fun _ _ _ h => h) rfl HS ?hy1 ?rest1
  case hy1 => (rintro w ⟨s0, s1, s2, s3⟩; go_simp; try with_reducible rfl)
  try simp only [Act.put, List.setIfInBounds_toArray, List.set_cons_zero, List.set_cons_succ]
  refine' doH 2 (v := .int .i64 0) rfl (by kernel_rfl) (by kernel_rfl) (by kernel_rfl) (fun _ _ _ h => h) rfl HS ?hy2 ?rest2
  case hy2 => (rintro w ⟨s0, s1, s2, s3⟩; go_simp; try with_reducible rfl)
  try simp only [Act.put, List.setIfInBounds_toArray, List.set_cons_zero, List.set_cons_succ]
  refine' doH 3 (v := .bool true) rfl (by kernel_rfl) (by kernel_rfl) (by kernel_rfl) (fun _ _ _ h => h) rfl HS ?hy3 ?rest3
  case hy3 => (rintro w ⟨s0, s1, s2, s3⟩; go_simp; try with_reducible rfl)
  try simp only [Act.put, List.setIfInBounds_toArray, List.set_cons_zero, List.set_cons_succ]
  refine' doH 4 (v := ?v4) rfl (by kernel_rfl) (by kernel_rfl) (by kernel_rfl) (fun _ _ _ h => h) rfl HS ?hy4 ?rest4
  case hy4 => (rintro w ⟨s0, s1, s2, s3⟩; go_simp; try with_reducible rfl)
  try simp only [Act.put, List.setIfInBounds_toArray, List.set_cons_zero, List.set_cons_succ]
  refine' doH 5 (v := ?v5) rfl (by kernel_rfl) (by kernel_rfl) (by kernel_rfl) (fun _ _ _ h => h) rfl HS ?hy5 ?rest5
  case hy5 => (rintro w ⟨s0, s1, s2, s3⟩; go_simp; try with_reducible rfl)
  try simp only [Act.put, List.setIfInBounds_toArray, List.set_cons_zero, List.set_cons_succ]
  refine' doH 6 (v := ?v6) rfl (by kernel_rfl) (by kernel_rfl) (by kernel_rfl) (fun _ _ _ h => h) rfl HS ?hy6 ?rest6
  case hy6 => (rintro w ⟨s0, s1, s2, s3⟩; go_simp; try with_reducible rfl)
  try simp only [Act.put, List.setIfInBounds_toArray, List.set_cons_zero, List.set_cons_succ]
  refine' doH 7 (v := ?v7) rfl (by kernel_rfl) (by kernel_rfl) (by kernel_rfl) (fun _ _ _ h => h) rfl HS ?hy7 ?rest7
  case hy7 => (rintro w ⟨s0, s1, s2, s3⟩; go_simp; try with_reducible rfl)
  try simp only [Act.put, List.setIfInBounds_toArray, List.set_cons_zero, List.set_cons_succ]
  refine' doH 8 (v := .int .i64 z) rfl (by kernel_rfl) (by kernel_rfl) (by kernel_rfl) (fun _ _ _ h => h) rfl HS ?hy8 ?rest8
  case hy8 => (rintro w ⟨s0, s1, s2, s3⟩; go_simp; try with_reducible rfl)
  try simp only [Act.put, List.setIfInBounds_toArray, List.set_cons_zero, List.set_cons_succ]
  refine oneH 9 (by kernel_rfl) rfl (fun K9 hK9 => ?_)
  go_simp
  refine (HK1.out _ HS).mono ?_
  rintro e w5 ⟨rfl, hb5⟩
  refine hK9.out _ _ (hb5) (fun HS => ?_)
  clear hK9 K9
  try simp only [Act.put, List.setIfInBounds_toArray, List.set_cons_zero, List.set_cons_succ]
  refine' doH 10 (v := ?v10) rfl (by kernel_rfl) (by kernel_rfl) (by kernel_rfl) (fun _ _ _ h => h) rfl HS ?hy10 ?rest10
  case hy10 => (rintro w ⟨s0, s1, s2, s3⟩; go_simp; try with_reducible rfl)
  try simp only [Act.put, List.setIfInBounds_toArray, List.set_cons_zero, List.set_cons_succ]
  refine' doH 11 (v := ?v11) rfl (by kernel_rfl) (by kernel_rfl) (by kernel_rfl) (fun _ _ _ h => h) rfl HS ?hy11 ?rest11
  case hy11 => (rintro w ⟨s0, s1, s2, s3⟩; go_simp; try with_reducible rfl)
  try simp only [Act.put, List.setIfInBounds_toArray, List.set_cons_zero, List.set_cons_succ]
  refine wpAnyH_done (by kernel_rfl) ?_ _
  refine NoPanic.normal ?_
  go_wp2
  go_ret
  exact ⟨ret_bool HT.out.symm, HS.2.2.2⟩

set_option maxHeartbeats 1000000 in
theorem clo_times_no (s T R : ByteArray) (P B k n : Nat) (W : World) (hk0 : 0 < k) (hk : k ≤ 20) (hn : n ≤ 1000000) (hz : ¬ n % k = 0) (lP : P < W.heap.size) (lK : B < W.heap.size) (hs : IsSplit s T R) (c1 : W.cell? ⟨P, 0, none⟩ = some (.string T)) (c2 : W.cell? ⟨P, 1, none⟩ = some (.string R)) (c0 : W.cell? ⟨B, 0, none⟩ = some (.int .i64 k)) :
    Calls Try.prog 68 #[.int .i64 n, .pointer (some ⟨B, 0, none⟩), .pointer (some ⟨P, 0, none⟩)] W fun e w' => e = .returned (.bool (timesF (fS s) k n)) ∧ Below W.heap.size W w' := by
  have SC : ∀ w1 w2 : World, (w1.cell? ⟨B, 0, none⟩ = some (.int .i64 k) ∧ w1.cell? ⟨P, 0, none⟩ = some (.string T) ∧ w1.cell? ⟨P, 1, none⟩ = some (.string R) ∧ Below W.heap.size W w1) → Below w1.heap.size w1 w2 →
      (w2.cell? ⟨B, 0, none⟩ = some (.int .i64 k) ∧ w2.cell? ⟨P, 0, none⟩ = some (.string T) ∧ w2.cell? ⟨P, 1, none⟩ = some (.string R) ∧ Below W.heap.size W w2) := by
    rintro w1 w2 ⟨d0, d1, d2, hB⟩ hb
    have hz := hB.size
    exact ⟨(hb.cell (p := ⟨B, 0, none⟩) (by show B < _; omega)).trans d0, (hb.cell (p := ⟨P, 0, none⟩) (by show P < _; omega)).trans d1, (hb.cell (p := ⟨P, 1, none⟩) (by show P < _; omega)).trans d2, hB.trans (hb.mono hz)⟩
  have HSD : W.drew.cell? ⟨B, 0, none⟩ = some (.int .i64 k) ∧ W.drew.cell? ⟨P, 0, none⟩ = some (.string T) ∧ W.drew.cell? ⟨P, 1, none⟩ = some (.string R) ∧ Below W.heap.size W W.drew := ⟨c0, c1, c2, (Below.refl _ _).drew⟩
  obtain ⟨z, hzd⟩ : ∃ z, z = n / k := ⟨_, rfl⟩
  have hq : z ≤ 1000000 := by rw [hzd]; exact Nat.le_trans (Nat.div_le_self _ _) hn
  have hdt : (n : Int).tdiv (k : Int) = (z : Int) := by rw [hzd, Int.tdiv_eq_ediv_of_nonneg (by omega)]; rfl
  have hdi : (n : Int) / (k : Int) = (z : Int) := by rw [hzd]; rfl
  have hwz : IntKind.i64.wrap (z : Int) = (z : Int) := IntWalk.i64_in _ (by omega)
  have K1 : ∀ W1 : World, (W1.cell? ⟨B, 0, none⟩ = some (.int .i64 k) ∧ W1.cell? ⟨P, 0, none⟩ = some (.string T) ∧ W1.cell? ⟨P, 1, none⟩ = some (.string R) ∧ Below W.heap.size W W1) →
      Calls Try.prog 52 #[.agg #[.string T, .string R], .int .i64 z] W1 fun e w1 => e = .returned (.bool (fS s z)) ∧
        (w1.cell? ⟨B, 0, none⟩ = some (.int .i64 k) ∧ w1.cell? ⟨P, 0, none⟩ = some (.string T) ∧ w1.cell? ⟨P, 1, none⟩ = some (.string R) ∧ Below W.heap.size W w1) :=
    fun W1 h1 => (has_nat (n := z) hs hq).mono fun e w1 ⟨he, hb⟩ => ⟨he, SC _ _ h1 hb⟩
  have HK1 := Lib.hid K1
  have hE : ¬ k = 0 := by omega
  clear K1 SC hs
  have HZD := Lib.hid hzd
  clear hzd
  have hzi : ¬ (n : Int) % (k : Int) = 0 := by omega
  have hzt : ¬ (n : Int).tmod (k : Int) = 0 := by rw [Int.tmod_eq_emod_of_nonneg (by omega)]; exact hzi
  have HT : Hid (timesF (fS s) k n = false) := Lib.hid (by unfold timesF; rw [decide_eq_false hz, Bool.false_and])
  have HZ := Lib.hid hz
  clear hz
  go_enter Try.func68, Try.ntmps68
  go_wp2
  refine wp_region_noPanic ?_
  refine wp_region_held_drew (S := fun w' => w'.cell? ⟨B, 0, none⟩ = some (.int .i64 k) ∧ w'.cell? ⟨P, 0, none⟩ = some (.string T) ∧ w'.cell? ⟨P, 1, none⟩ = some (.string R) ∧ Below W.heap.size W w') (by kernel_rfl) (HSD) (fun HS => ?_)
  refine' doH 0 (v := ?v0) rfl (by kernel_rfl) (by kernel_rfl) (by kernel_rfl) (fun _ _ _ h => h) rfl HS ?hy0 ?rest0
  case hy0 => (rintro w ⟨s0, s1, s2, s3⟩; go_simp; try with_reducible rfl)
  try simp only [Act.put, List.setIfInBounds_toArray, List.set_cons_zero, List.set_cons_succ]
  refine' doH 1 (v := ?v1) rfl (by kernel_rfl) (by kernel_rfl) (by kernel_rfl) (fun _ _ _ h => h) rfl HS ?hy1 ?rest1
  case hy1 => (rintro w ⟨s0, s1, s2, s3⟩; go_simp; try with_reducible rfl)
  try simp only [Act.put, List.setIfInBounds_toArray, List.set_cons_zero, List.set_cons_succ]
  refine' doH 2 (v := ?v2) rfl (by kernel_rfl) (by kernel_rfl) (by kernel_rfl) (fun _ _ _ h => h) rfl HS ?hy2 ?rest2
  case hy2 => (rintro w ⟨s0, s1, s2, s3⟩; go_simp; try with_reducible rfl)
  try simp only [Act.put, List.setIfInBounds_toArray, List.set_cons_zero, List.set_cons_succ]
  refine' doH 3 (v := .bool false) rfl (by kernel_rfl) (by kernel_rfl) (by kernel_rfl) (fun _ _ _ h => h) rfl HS ?hy3 ?rest3
  case hy3 => (rintro w ⟨s0, s1, s2, s3⟩; go_simp; try with_reducible rfl)
  try simp only [Act.put, List.setIfInBounds_toArray, List.set_cons_zero, List.set_cons_succ]
  refine' doH 4 (v := ?v4) rfl (by kernel_rfl) (by kernel_rfl) (by kernel_rfl) (fun _ _ _ h => h) rfl HS ?hy4 ?rest4
  case hy4 => (rintro w ⟨s0, s1, s2, s3⟩; go_simp; try with_reducible rfl)
  try simp only [Act.put, List.setIfInBounds_toArray, List.set_cons_zero, List.set_cons_succ]
  refine skipH 5 rfl (by kernel_rfl) (by kernel_rfl) (by kernel_rfl) (fun _ _ _ h => h) rfl HS ?_
  try simp only [Act.put, List.setIfInBounds_toArray, List.set_cons_zero, List.set_cons_succ]
  refine skipH 6 rfl (by kernel_rfl) (by kernel_rfl) (by kernel_rfl) (fun _ _ _ h => h) rfl HS ?_
  try simp only [Act.put, List.setIfInBounds_toArray, List.set_cons_zero, List.set_cons_succ]
  refine skipH 7 rfl (by kernel_rfl) (by kernel_rfl) (by kernel_rfl) (fun _ _ _ h => h) rfl HS ?_
  try simp only [Act.put, List.setIfInBounds_toArray, List.set_cons_zero, List.set_cons_succ]
  refine skipH 8 rfl (by kernel_rfl) (by kernel_rfl) (by kernel_rfl) (fun _ _ _ h => h) rfl HS ?_
  try simp only [Act.put, List.setIfInBounds_toArray, List.set_cons_zero, List.set_cons_succ]
  refine skipH 9 rfl (by kernel_rfl) (by kernel_rfl) (by kernel_rfl) (fun _ _ _ h => h) rfl HS ?_
  try simp only [Act.put, List.setIfInBounds_toArray, List.set_cons_zero, List.set_cons_succ]
  refine' doH 10 (v := ?v10) rfl (by kernel_rfl) (by kernel_rfl) (by kernel_rfl) (fun _ _ _ h => h) rfl HS ?hy10 ?rest10
  case hy10 => (rintro w ⟨s0, s1, s2, s3⟩; go_simp; try with_reducible rfl)
  try simp only [Act.put, List.setIfInBounds_toArray, List.set_cons_zero, List.set_cons_succ]
  refine' doH 11 (v := ?v11) rfl (by kernel_rfl) (by kernel_rfl) (by kernel_rfl) (fun _ _ _ h => h) rfl HS ?hy11 ?rest11
  case hy11 => (rintro w ⟨s0, s1, s2, s3⟩; go_simp; try with_reducible rfl)
  try simp only [Act.put, List.setIfInBounds_toArray, List.set_cons_zero, List.set_cons_succ]
  refine wpAnyH_done (by kernel_rfl) ?_ _
  refine NoPanic.normal ?_
  go_wp2
  go_ret
  exact ⟨ret_bool HT.out.symm, HS.2.2.2⟩

set_option maxHeartbeats 1000000 in
theorem clo_times (s T R : ByteArray) (P B k n : Nat) (W : World) (hk0 : 0 < k) (hk : k ≤ 20) (hn : n ≤ 1000000) (lP : P < W.heap.size) (lK : B < W.heap.size) (hs : IsSplit s T R) (c1 : W.cell? ⟨P, 0, none⟩ = some (.string T)) (c2 : W.cell? ⟨P, 1, none⟩ = some (.string R)) (c0 : W.cell? ⟨B, 0, none⟩ = some (.int .i64 k)) :
    Calls Try.prog 68 #[.int .i64 n, .pointer (some ⟨B, 0, none⟩), .pointer (some ⟨P, 0, none⟩)] W fun e w' => e = .returned (.bool (timesF (fS s) k n)) ∧ Below W.heap.size W w' := by
  by_cases hz : n % k = 0
  · exact clo_times_yes s T R P B k n W hk0 hk hn hz lP lK hs c1 c2 c0
  · exact clo_times_no s T R P B k n W hk0 hk hn hz lP lK hs c1 c2 c0

end Go.Proofs.Ytcljchngjaodgaa
