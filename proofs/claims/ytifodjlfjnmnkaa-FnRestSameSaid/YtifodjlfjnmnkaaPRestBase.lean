/-
  The walks of the drawing of what chapter 5's functions are asked. What the walks of chapter 5's promises share.
-/
import Derived.Test.YtifodjlfjnmnkaaDrawSet
import Derived.Test.YtifodjlfjnmnkaaDrawNumber
import Derived.Test.YtifodjlfjnmnkaaRowBytes
import Derived.Test.YtifodjlfjnmnkaaSetHasI
import Derived.Test.YtifodjlfjnmnkaaToldMath
import Derived.Test.YtifodjlfjnmnkaaMakeMath
set_option linter.unusedVariables false
set_option linter.unusedSimpArgs false
namespace Go.Proofs.Ytifodjlfjnmnkaa
open Go.RowKit

set_option maxRecDepth 100000 in
set_option maxHeartbeats 1000000 in
theorem drawRestMany (a : Option Addr) (n c : Nat) (w : World) (h : Bytes w a n) (hn : n ≤ 1048576) (hc : n ≤ c) :
    Calls Try.prog 22 #[.slice a n c] w fun e w' => ∃ s : ByteArray, e = .returned (.string s) ∧ s.size ≤ 12 ∧ Below w.heap.size w w' := by
  go_enter Try.func22, Try.ntmps22
  go_wp2_with fail
  refine (open_rd a n c _ h hn hc).mono ?_
  rintro e w1 ⟨n', rfl, hrd, hap⟩
  go_wp2_with fail
  refine (set_rd hrd (by omega)).mono ?_
  rintro e w2 ⟨s, p2, rfl, hs, hp2, hrd2, hap2⟩
  go_wp2
  go_ret
  exact ⟨s, rfl, hs, (hap.trans hap2).below⟩

set_option maxRecDepth 100000 in
set_option maxHeartbeats 1000000 in
theorem drawRestRound (a : Option Addr) (n c : Nat) (w : World) (h : Bytes w a n) (hn : n ≤ 1048576) (hc : n ≤ c) :
    Calls Try.prog 36 #[.slice a n c] w fun e w' => ∃ s : ByteArray, e = .returned (.string s) ∧ s.size ≤ 12 ∧ Below w.heap.size w w' := by
  go_enter Try.func36, Try.ntmps36
  go_wp2_with fail
  refine (open_rd a n c _ h hn hc).mono ?_
  rintro e w1 ⟨n', rfl, hrd, hap⟩
  go_wp2_with fail
  refine (set_rd hrd (by omega)).mono ?_
  rintro e w2 ⟨s, p2, rfl, hs, hp2, hrd2, hap2⟩
  go_wp2
  go_ret
  exact ⟨s, rfl, hs, (hap.trans hap2).below⟩

set_option maxRecDepth 100000 in
set_option maxHeartbeats 1000000 in
theorem drawRestFirst (a : Option Addr) (n c : Nat) (w : World) (h : Bytes w a n) (hn : n ≤ 1048576) (hc : n ≤ c) :
    Calls Try.prog 30 #[.slice a n c] w fun e w' => ∃ (s : ByteArray) (x : Int), e = .returned (.tuple #[.string s, .int .i64 x]) ∧ s.size ≤ 12 ∧ (-1 ≤ x ∧ x ≤ 1001) ∧ Below w.heap.size w w' := by
  go_enter Try.func30, Try.ntmps30
  go_wp2_with fail
  refine (open_rd a n c _ h hn hc).mono ?_
  rintro e w1 ⟨n', rfl, hrd, hap⟩
  go_wp2_with fail
  refine (set_rd hrd (by omega)).mono ?_
  rintro e w2 ⟨s, p2, rfl, hs, hp2, hrd2, hap2⟩
  go_wp2_with fail
  refine (number_rd hrd2 1000 (by omega) (by omega)).mono ?_
  rintro e w3 ⟨x, p3, rfl, hx, hp3, hrd3, hap3⟩
  go_wp2
  go_ret2
  exact ⟨s, x, rfl, hs, by omega, ((hap.trans hap2).trans hap3).below⟩

set_option maxRecDepth 100000 in
set_option maxHeartbeats 1000000 in
theorem drawRestText (a : Option Addr) (n c : Nat) (w : World) (h : Bytes w a n) (hn : n ≤ 1048576) (hc : n ≤ c) :
    Calls Try.prog 33 #[.slice a n c] w fun e w' => ∃ (s : ByteArray) (x : Int), e = .returned (.tuple #[.string s, .int .i64 x]) ∧ s.size ≤ 12 ∧ (-1 ≤ x ∧ x ≤ 1001) ∧ Below w.heap.size w w' := by
  go_enter Try.func33, Try.ntmps33
  go_wp2_with fail
  refine (open_rd a n c _ h hn hc).mono ?_
  rintro e w1 ⟨n', rfl, hrd, hap⟩
  go_wp2_with fail
  refine (set_rd hrd (by omega)).mono ?_
  rintro e w2 ⟨s, p2, rfl, hs, hp2, hrd2, hap2⟩
  go_wp2_with fail
  refine (number_rd hrd2 1000 (by omega) (by omega)).mono ?_
  rintro e w3 ⟨x, p3, rfl, hx, hp3, hrd3, hap3⟩
  go_wp2
  go_ret2
  exact ⟨s, x, rfl, hs, by omega, ((hap.trans hap2).trans hap3).below⟩

set_option maxRecDepth 100000 in
set_option maxHeartbeats 1000000 in
theorem drawRestSame (a : Option Addr) (n c : Nat) (w : World) (h : Bytes w a n) (hn : n ≤ 1048576) (hc : n ≤ c) :
    Calls Try.prog 27 #[.slice a n c] w fun e w' => ∃ (s : ByteArray) (x y : Int), e = .returned (.tuple #[.string s, .int .i64 x, .int .i64 y]) ∧ s.size ≤ 12 ∧ (-1 ≤ x ∧ x ≤ 1001) ∧ (-1 ≤ y ∧ y ≤ 1001) ∧ Below w.heap.size w w' := by
  go_enter Try.func27, Try.ntmps27
  go_wp2_with fail
  refine (open_rd a n c _ h hn hc).mono ?_
  rintro e w1 ⟨n', rfl, hrd, hap⟩
  go_wp2_with fail
  refine (set_rd hrd (by omega)).mono ?_
  rintro e w2 ⟨s, p2, rfl, hs, hp2, hrd2, hap2⟩
  go_wp2_with fail
  refine (number_rd hrd2 1000 (by omega) (by omega)).mono ?_
  rintro e w3 ⟨x, p3, rfl, hx, hp3, hrd3, hap3⟩
  go_wp2_with fail
  refine (number_rd hrd3 1000 (by omega) (by omega)).mono ?_
  rintro e w4 ⟨y, p4, rfl, hy, hp4, hrd4, hap4⟩
  go_wp2
  go_ret3
  exact ⟨s, x, y, rfl, hs, by omega, by omega, (((hap.trans hap2).trans hap3).trans hap4).below⟩

set_option maxRecDepth 100000 in
set_option maxHeartbeats 1000000 in
theorem drawRestSome (a : Option Addr) (n c : Nat) (w : World) (h : Bytes w a n) (hn : n ≤ 1048576) (hc : n ≤ c) :
    Calls Try.prog 15 #[.slice a n c] w fun e w' => ∃ s t : ByteArray, e = .returned (.tuple #[.string s, .string t]) ∧ s.size ≤ 12 ∧ t.size ≤ 12 ∧ Below w.heap.size w w' := by
  go_enter Try.func15, Try.ntmps15
  go_wp2_with fail
  refine (open_rd a n c _ h hn hc).mono ?_
  rintro e w1 ⟨n', rfl, hrd, hap⟩
  go_wp2_with fail
  refine (set_rd hrd (by omega)).mono ?_
  rintro e w2 ⟨s, p2, rfl, hs, hp2, hrd2, hap2⟩
  go_wp2_with fail
  refine (set_rd hrd2 (by omega)).mono ?_
  rintro e w3 ⟨t, p3, rfl, ht, hp3, hrd3, hap3⟩
  go_wp2
  go_ret2
  exact ⟨s, t, rfl, hs, ht, ((hap.trans hap2).trans hap3).below⟩

set_option maxRecDepth 100000 in
set_option maxHeartbeats 1000000 in
theorem drawRestAll (a : Option Addr) (n c : Nat) (w : World) (h : Bytes w a n) (hn : n ≤ 1048576) (hc : n ≤ c) :
    Calls Try.prog 19 #[.slice a n c] w fun e w' => ∃ s t : ByteArray, e = .returned (.tuple #[.string s, .string t]) ∧ s.size ≤ 12 ∧ t.size ≤ 12 ∧ Below w.heap.size w w' := by
  go_enter Try.func19, Try.ntmps19
  go_wp2_with fail
  refine (open_rd a n c _ h hn hc).mono ?_
  rintro e w1 ⟨n', rfl, hrd, hap⟩
  go_wp2_with fail
  refine (set_rd hrd (by omega)).mono ?_
  rintro e w2 ⟨s, p2, rfl, hs, hp2, hrd2, hap2⟩
  go_wp2_with fail
  refine (set_rd hrd2 (by omega)).mono ?_
  rintro e w3 ⟨t, p3, rfl, ht, hp3, hrd3, hap3⟩
  go_wp2
  go_ret2
  exact ⟨s, t, rfl, hs, ht, ((hap.trans hap2).trans hap3).below⟩

set_option maxRecDepth 100000 in
set_option maxHeartbeats 1000000 in
theorem drawSumOf (a : Option Addr) (n c : Nat) (w : World) (h : Bytes w a n) (hn : n ≤ 1048576) (hc : n ≤ c) :
    Calls Try.prog 39 #[.slice a n c] w fun e w' => ∃ s t : ByteArray, e = .returned (.tuple #[.string s, .string t]) ∧ s.size ≤ 12 ∧ t.size ≤ 12 ∧ Below w.heap.size w w' := by
  go_enter Try.func39, Try.ntmps39
  go_wp2_with fail
  refine (open_rd a n c _ h hn hc).mono ?_
  rintro e w1 ⟨n', rfl, hrd, hap⟩
  go_wp2_with fail
  refine (set_rd hrd (by omega)).mono ?_
  rintro e w2 ⟨s, p2, rfl, hs, hp2, hrd2, hap2⟩
  go_wp2_with fail
  refine (set_rd hrd2 (by omega)).mono ?_
  rintro e w3 ⟨t, p3, rfl, ht, hp3, hrd3, hap3⟩
  go_wp2
  go_ret2
  exact ⟨s, t, rfl, hs, ht, ((hap.trans hap2).trans hap3).below⟩

theorem setHas_nat {s : ByteArray} (h : okS s = true) (n : Nat) : setHas s (n : Int) = fS s n := by
  unfold setHas; rw [h, Bool.true_and, hasI_nat]; rfl
theorem told_size {T : ByteArray} (h : okS T = true) : T.size ≤ 1048576 := by
  rw [set_size h]
  have h1 := setT_le h
  have h2 := setR_le h
  omega
theorem makeIs_size {ok : Bool} {f : Nat → Bool} {T : ByteArray} {b : Bool} (h : MakeIs ok f T b) : T.size ≤ 1048576 := by
  cases ok
  · obtain ⟨rfl, _⟩ := h.2 rfl; decide
  · rcases h.1 rfl with ⟨_, h⟩ | ⟨_, rfl, _⟩
    · exact told_size h.told.ok
    · decide
theorem makeIs_true {ok : Bool} {f : Nat → Bool} {T : ByteArray} (h : MakeIs ok f T true) : ok = true ∧ TidyText f T := by
  cases ok
  · have := (h.2 rfl).2; cases this
  · rcases h.1 rfl with ⟨_, h⟩ | ⟨h, _⟩
    · exact ⟨rfl, h⟩
    · cases h
theorem and_both {a b : Bool} (h : (a && b) = true) : a = true ∧ b = true := by cases a <;> cases b <;> simp at h <;> exact ⟨rfl, rfl⟩
theorem and_left {a b : Bool} (h : (a && b) = true) : a = true := (and_both h).1
theorem and_right {a b : Bool} (h : (a && b) = true) : b = true := (and_both h).2
/-- A set is asked, in a walk's own terms. -/
theorem ask_set {s : ByteArray} (h : okS s = true) (n : Nat) (m : Int) (W : World) (hs : s.size ≤ 1048576) (hn : n ≤ 100000) (hL : LibAt m W) :
    Calls Try.prog 18 #[.string s, .int .i64 n] W fun e w' => e = .returned (.bool (fS s n)) ∧ Below W.heap.size W w' := by
  have := implSetHas s n m W hs (by omega) hL
  rw [setHas_nat h] at this
  exact this
/-- A number in its range, as a natural one. -/
theorem inR_nat {x : Int} (h : inR x 0 1000 = true) : ∃ k : Nat, x = k ∧ k ≤ 1000 := by
  rcases inR_cases x 0 1000 with ⟨_, k1, k2⟩ | ⟨h2, _⟩
  · obtain ⟨k, rfl⟩ := Int.eq_ofNat_of_zero_le k1
    exact ⟨k, rfl, by omega⟩
  · rw [h2] at h; cases h
theorem small_parts {s : ByteArray} {m q : Nat} (ho : okS s = true) (hs : s.size ≤ 12) (ht : Tidy (fS s) m q) : m + q ≤ 10 := by
  have h1 := tidy_short ho ht
  have h2 := set_size ho
  omega
end Go.Proofs.Ytifodjlfjnmnkaa
