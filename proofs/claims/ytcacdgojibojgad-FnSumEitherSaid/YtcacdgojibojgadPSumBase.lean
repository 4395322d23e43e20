/-
  The walks of the drawing of what chapter 4's functions are asked: small texts, small numbers. What the walks of chapter 4's promises share.
-/
import Derived.Test.YtcacdgojibojgadDrawSet
import Derived.Test.YtcacdgojibojgadDrawNumber
import Derived.Test.YtcacdgojibojgadRowBytes
import Derived.Test.YtcacdgojibojgadSetHasI
import Derived.Test.YtcacdgojibojgadTimesMath
import Derived.Test.YtcacdgojibojgadSteps
set_option linter.unusedVariables false
set_option linter.unusedSimpArgs false
namespace Go.Proofs.Ytcacdgojibojgad
open Go.RowKit

set_option maxRecDepth 100000 in
set_option maxHeartbeats 1000000 in
theorem drawStarOf (a : Option Addr) (n c : Nat) (w : World) (h : Bytes w a n) (hn : n ≤ 1048576) (hc : n ≤ c) :
    Calls Try.prog 21 #[.slice a n c] w fun e w' => ∃ s : ByteArray, e = .returned (.string s) ∧ s.size ≤ 12 ∧ Below w.heap.size w w' := by
  go_enter Try.func21, Try.ntmps21
  go_wp2_with fail
  refine (open_rd a n c _ h hn hc).mono ?_
  rintro e w1 ⟨n', rfl, hrd, hap⟩
  go_wp2_with fail
  refine (set_rd hrd (by omega)).mono ?_
  rintro e w2 ⟨s, p2, rfl, hs, hp2, hrd2, hap2⟩
  go_wp2
  go_ret
  exact ⟨s, rfl, hs, (hap.trans hap2).below⟩

set_option maxRecDepth 100000 in
set_option maxHeartbeats 1000000 in
theorem drawStarPlus (a : Option Addr) (n c : Nat) (w : World) (h : Bytes w a n) (hn : n ≤ 1048576) (hc : n ≤ c) :
    Calls Try.prog 25 #[.slice a n c] w fun e w' => ∃ s : ByteArray, e = .returned (.string s) ∧ s.size ≤ 12 ∧ Below w.heap.size w w' := by
  go_enter Try.func25, Try.ntmps25
  go_wp2_with fail
  refine (open_rd a n c _ h hn hc).mono ?_
  rintro e w1 ⟨n', rfl, hrd, hap⟩
  go_wp2_with fail
  refine (set_rd hrd (by omega)).mono ?_
  rintro e w2 ⟨s, p2, rfl, hs, hp2, hrd2, hap2⟩
  go_wp2
  go_ret
  exact ⟨s, rfl, hs, (hap.trans hap2).below⟩

set_option maxRecDepth 100000 in
set_option maxHeartbeats 1000000 in
theorem drawStarGap (a : Option Addr) (n c : Nat) (w : World) (h : Bytes w a n) (hn : n ≤ 1048576) (hc : n ≤ c) :
    Calls Try.prog 32 #[.slice a n c] w fun e w' => ∃ s : ByteArray, e = .returned (.string s) ∧ s.size ≤ 12 ∧ Below w.heap.size w w' := by
  go_enter Try.func32, Try.ntmps32
  go_wp2_with fail
  refine (open_rd a n c _ h hn hc).mono ?_
  rintro e w1 ⟨n', rfl, hrd, hap⟩
  go_wp2_with fail
  refine (set_rd hrd (by omega)).mono ?_
  rintro e w2 ⟨s, p2, rfl, hs, hp2, hrd2, hap2⟩
  go_wp2
  go_ret
  exact ⟨s, rfl, hs, (hap.trans hap2).below⟩

set_option maxRecDepth 100000 in
set_option maxHeartbeats 1000000 in
theorem drawStarParts (a : Option Addr) (n c : Nat) (w : World) (h : Bytes w a n) (hn : n ≤ 1048576) (hc : n ≤ c) :
    Calls Try.prog 35 #[.slice a n c] w fun e w' => ∃ s : ByteArray, e = .returned (.string s) ∧ s.size ≤ 12 ∧ Below w.heap.size w w' := by
  go_enter Try.func35, Try.ntmps35
  go_wp2_with fail
  refine (open_rd a n c _ h hn hc).mono ?_
  rintro e w1 ⟨n', rfl, hrd, hap⟩
  go_wp2_with fail
  refine (set_rd hrd (by omega)).mono ?_
  rintro e w2 ⟨s, p2, rfl, hs, hp2, hrd2, hap2⟩
  go_wp2
  go_ret
  exact ⟨s, rfl, hs, (hap.trans hap2).below⟩

set_option maxRecDepth 100000 in
set_option maxHeartbeats 1000000 in
theorem drawSumTimes (a : Option Addr) (n c : Nat) (w : World) (h : Bytes w a n) (hn : n ≤ 1048576) (hc : n ≤ c) :
    Calls Try.prog 16 #[.slice a n c] w fun e w' => ∃ (s : ByteArray) (x : Int), e = .returned (.tuple #[.string s, .int .i64 x]) ∧ s.size ≤ 12 ∧ (-1 ≤ x ∧ x ≤ 2001) ∧ Below w.heap.size w w' := by
  go_enter Try.func16, Try.ntmps16
  go_wp2_with fail
  refine (open_rd a n c _ h hn hc).mono ?_
  rintro e w1 ⟨n', rfl, hrd, hap⟩
  go_wp2_with fail
  refine (set_rd hrd (by omega)).mono ?_
  rintro e w2 ⟨s, p2, rfl, hs, hp2, hrd2, hap2⟩
  go_wp2_with fail
  refine (number_rd hrd2 6 (by omega) (by omega)).mono ?_
  rintro e w3 ⟨x, p3, rfl, hx, hp3, hrd3, hap3⟩
  go_wp2
  go_ret2
  exact ⟨s, x, rfl, hs, by omega, ((hap.trans hap2).trans hap3).below⟩

set_option maxRecDepth 100000 in
set_option maxHeartbeats 1000000 in
theorem drawSumOf (a : Option Addr) (n c : Nat) (w : World) (h : Bytes w a n) (hn : n ≤ 1048576) (hc : n ≤ c) :
    Calls Try.prog 12 #[.slice a n c] w fun e w' => ∃ s t : ByteArray, e = .returned (.tuple #[.string s, .string t]) ∧ s.size ≤ 12 ∧ t.size ≤ 12 ∧ Below w.heap.size w w' := by
  go_enter Try.func12, Try.ntmps12
  go_wp2_with fail
  refine (open_rd a n c _ h hn hc).mono ?_
  rintro e w1 ⟨n', rfl, hrd, hap⟩
  go_wp2_with fail
  refine (set_rd hrd (by omega)).mono ?_
  rintro e w2 ⟨s, p2, rfl, hs, hp2, hrd2, hap2⟩
  go_wp2_with fail
  refine (set_rd hrd2 (by omega)).mono ?_
  rintro e w3 ⟨t, p3, rfl, ht, hp3, hrd3, hap3⟩
  go_wp2
  go_ret2
  exact ⟨s, t, rfl, hs, ht, ((hap.trans hap2).trans hap3).below⟩

theorem setHas_nat {s : ByteArray} (h : okS s = true) (n : Nat) : setHas s (n : Int) = fS s n := by
  unfold setHas; rw [h, Bool.true_and, hasI_nat]; rfl
theorem told_size {T : ByteArray} (h : okS T = true) : T.size ≤ 1048576 := by
  rw [set_size h]
  have h1 := setT_le h
  have h2 := setR_le h
  omega
theorem makeIs_size {ok : Bool} {f : Nat → Bool} {T : ByteArray} {b : Bool} (h : MakeIs ok f T b) : T.size ≤ 1048576 := by
  cases ok
  · obtain ⟨rfl, _⟩ := h.2 rfl; decide
  · rcases h.1 rfl with ⟨_, h⟩ | ⟨_, rfl, _⟩
    · exact told_size h.told.ok
    · decide
theorem and_both {a b : Bool} (h : (a && b) = true) : a = true ∧ b = true := by cases a <;> cases b <;> simp at h <;> exact ⟨rfl, rfl⟩
theorem and_left {a b : Bool} (h : (a && b) = true) : a = true := (and_both h).1
theorem and_right {a b : Bool} (h : (a && b) = true) : b = true := (and_both h).2
theorem small_ok {s : ByteArray} (h : smallS s = true) : okS s = true := (smallS_iff.1 h).1
theorem times_size {s : ByteArray} {k : Int} {T : ByteArray} {b : Bool} (h : TimesIs s k T b) : T.size ≤ 1048576 := by
  cases e : (smallS s && inR k 0 6)
  · obtain ⟨_, rfl⟩ := h.2 e; decide
  · rcases h.1 e with ⟨_, h2⟩ | ⟨_, rfl, _⟩
    · exact chain_size h2
    · decide
/-- A set is asked, in a walk's own terms. -/
theorem ask_set {s : ByteArray} (h : okS s = true) (n : Nat) (m : Int) (W : World) (hs : s.size ≤ 1048576) (hn : n ≤ 100000) (hL : LibAt m W) :
    Calls Try.prog 15 #[.string s, .int .i64 n] W fun e w' => e = .returned (.bool (fS s n)) ∧ Below W.heap.size W w' := by
  have := implSetHas s n m W hs (by omega) hL
  rw [setHas_nat h] at this
  exact this

end Go.Proofs.Ytcacdgojibojgad
