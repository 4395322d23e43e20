/-
  The walks of the drawing of what chapter 2's functions are asked: small texts, small numbers.
-/
import Derived.Test.YtcljchngjaodgaaDrawSet
namespace Go.Proofs.Ytcljchngjaodgaa
open Go.RowKit

set_option maxRecDepth 100000 in
set_option maxHeartbeats 1000000 in
theorem drawMakeOther (a : Option Addr) (n c : Nat) (w : World) (h : Bytes w a n) (hn : n ≤ 1048576) (hc : n ≤ c) :
    Calls Try.prog 26 #[.slice a n c] w fun e w' => ∃ s : ByteArray, e = .returned (.string s) ∧ s.size ≤ 12 ∧ Below w.heap.size w w' := by
  go_enter Try.func26, Try.ntmps26
  go_wp2_with fail
  refine (open_rd a n c _ h hn hc).mono ?_
  rintro e w1 ⟨n', rfl, hrd, hap⟩
  go_wp2_with fail
  refine (set_rd hrd (by omega)).mono ?_
  rintro e w2 ⟨s, p2, rfl, hs, hp2, hrd2, hap2⟩
  go_wp2
  go_ret
  exact ⟨s, rfl, hs, (hap.trans hap2).below⟩

set_option maxRecDepth 100000 in
set_option maxHeartbeats 1000000 in
theorem drawMakeUp (a : Option Addr) (n c : Nat) (w : World) (h : Bytes w a n) (hn : n ≤ 1048576) (hc : n ≤ c) :
    Calls Try.prog 29 #[.slice a n c] w fun e w' => ∃ (s : ByteArray) (x : Int), e = .returned (.tuple #[.string s, .int .i64 x]) ∧ s.size ≤ 12 ∧ (-1 ≤ x ∧ x ≤ 1001) ∧ Below w.heap.size w w' := by
  go_enter Try.func29, Try.ntmps29
  go_wp2_with fail
  refine (open_rd a n c _ h hn hc).mono ?_
  rintro e w1 ⟨n', rfl, hrd, hap⟩
  go_wp2_with fail
  refine (set_rd hrd (by omega)).mono ?_
  rintro e w2 ⟨s, p2, rfl, hs, hp2, hrd2, hap2⟩
  go_wp2_with fail
  refine (number_rd hrd2 60 (by omega) (by omega)).mono ?_
  rintro e w3 ⟨x, p3, rfl, hx, hp3, hrd3, hap3⟩
  go_wp2
  go_ret2
  exact ⟨s, x, rfl, hs, by omega, ((hap.trans hap2).trans hap3).below⟩

set_option maxRecDepth 100000 in
set_option maxHeartbeats 1000000 in
theorem drawMakeDown (a : Option Addr) (n c : Nat) (w : World) (h : Bytes w a n) (hn : n ≤ 1048576) (hc : n ≤ c) :
    Calls Try.prog 34 #[.slice a n c] w fun e w' => ∃ (s : ByteArray) (x : Int), e = .returned (.tuple #[.string s, .int .i64 x]) ∧ s.size ≤ 12 ∧ (-1 ≤ x ∧ x ≤ 1001) ∧ Below w.heap.size w w' := by
  go_enter Try.func34, Try.ntmps34
  go_wp2_with fail
  refine (open_rd a n c _ h hn hc).mono ?_
  rintro e w1 ⟨n', rfl, hrd, hap⟩
  go_wp2_with fail
  refine (set_rd hrd (by omega)).mono ?_
  rintro e w2 ⟨s, p2, rfl, hs, hp2, hrd2, hap2⟩
  go_wp2_with fail
  refine (number_rd hrd2 1000 (by omega) (by omega)).mono ?_
  rintro e w3 ⟨x, p3, rfl, hx, hp3, hrd3, hap3⟩
  go_wp2
  go_ret2
  exact ⟨s, x, rfl, hs, by omega, ((hap.trans hap2).trans hap3).below⟩

set_option maxRecDepth 100000 in
set_option maxHeartbeats 1000000 in
theorem drawMakeTimes (a : Option Addr) (n c : Nat) (w : World) (h : Bytes w a n) (hn : n ≤ 1048576) (hc : n ≤ c) :
    Calls Try.prog 36 #[.slice a n c] w fun e w' => ∃ (s : ByteArray) (x : Int), e = .returned (.tuple #[.string s, .int .i64 x]) ∧ s.size ≤ 12 ∧ (-1 ≤ x ∧ x ≤ 1001) ∧ Below w.heap.size w w' := by
  go_enter Try.func36, Try.ntmps36
  go_wp2_with fail
  refine (open_rd a n c _ h hn hc).mono ?_
  rintro e w1 ⟨n', rfl, hrd, hap⟩
  go_wp2_with fail
  refine (set_rd hrd (by omega)).mono ?_
  rintro e w2 ⟨s, p2, rfl, hs, hp2, hrd2, hap2⟩
  go_wp2_with fail
  refine (number_rd hrd2 20 (by omega) (by omega)).mono ?_
  rintro e w3 ⟨x, p3, rfl, hx, hp3, hrd3, hap3⟩
  go_wp2
  go_ret2
  exact ⟨s, x, rfl, hs, by omega, ((hap.trans hap2).trans hap3).below⟩

set_option maxRecDepth 100000 in
set_option maxHeartbeats 1000000 in
theorem drawMakeOver (a : Option Addr) (n c : Nat) (w : World) (h : Bytes w a n) (hn : n ≤ 1048576) (hc : n ≤ c) :
    Calls Try.prog 43 #[.slice a n c] w fun e w' => ∃ (s : ByteArray) (x : Int), e = .returned (.tuple #[.string s, .int .i64 x]) ∧ s.size ≤ 12 ∧ (-1 ≤ x ∧ x ≤ 1001) ∧ Below w.heap.size w w' := by
  go_enter Try.func43, Try.ntmps43
  go_wp2_with fail
  refine (open_rd a n c _ h hn hc).mono ?_
  rintro e w1 ⟨n', rfl, hrd, hap⟩
  go_wp2_with fail
  refine (set_rd hrd (by omega)).mono ?_
  rintro e w2 ⟨s, p2, rfl, hs, hp2, hrd2, hap2⟩
  go_wp2_with fail
  refine (number_rd hrd2 19 (by omega) (by omega)).mono ?_
  rintro e w3 ⟨x, p3, rfl, hx, hp3, hrd3, hap3⟩
  go_wp2
  go_ret2
  exact ⟨s, 1 + x, rfl, hs, by omega, ((hap.trans hap2).trans hap3).below⟩

set_option maxRecDepth 100000 in
set_option maxHeartbeats 1000000 in
theorem drawMakeEither (a : Option Addr) (n c : Nat) (w : World) (h : Bytes w a n) (hn : n ≤ 1048576) (hc : n ≤ c) :
    Calls Try.prog 15 #[.slice a n c] w fun e w' => ∃ s t : ByteArray, e = .returned (.tuple #[.string s, .string t]) ∧ s.size ≤ 12 ∧ t.size ≤ 12 ∧ Below w.heap.size w w' := by
  go_enter Try.func15, Try.ntmps15
  go_wp2_with fail
  refine (open_rd a n c _ h hn hc).mono ?_
  rintro e w1 ⟨n', rfl, hrd, hap⟩
  go_wp2_with fail
  refine (set_rd hrd (by omega)).mono ?_
  rintro e w2 ⟨s, p2, rfl, hs, hp2, hrd2, hap2⟩
  go_wp2_with fail
  refine (set_rd hrd2 (by omega)).mono ?_
  rintro e w3 ⟨t, p3, rfl, ht, hp3, hrd3, hap3⟩
  go_wp2
  go_ret2
  exact ⟨s, t, rfl, hs, ht, ((hap.trans hap2).trans hap3).below⟩

set_option maxRecDepth 100000 in
set_option maxHeartbeats 1000000 in
theorem drawMakeBoth (a : Option Addr) (n c : Nat) (w : World) (h : Bytes w a n) (hn : n ≤ 1048576) (hc : n ≤ c) :
    Calls Try.prog 20 #[.slice a n c] w fun e w' => ∃ s t : ByteArray, e = .returned (.tuple #[.string s, .string t]) ∧ s.size ≤ 12 ∧ t.size ≤ 12 ∧ Below w.heap.size w w' := by
  go_enter Try.func20, Try.ntmps20
  go_wp2_with fail
  refine (open_rd a n c _ h hn hc).mono ?_
  rintro e w1 ⟨n', rfl, hrd, hap⟩
  go_wp2_with fail
  refine (set_rd hrd (by omega)).mono ?_
  rintro e w2 ⟨s, p2, rfl, hs, hp2, hrd2, hap2⟩
  go_wp2_with fail
  refine (set_rd hrd2 (by omega)).mono ?_
  rintro e w3 ⟨t, p3, rfl, ht, hp3, hrd3, hap3⟩
  go_wp2
  go_ret2
  exact ⟨s, t, rfl, hs, ht, ((hap.trans hap2).trans hap3).below⟩

set_option maxRecDepth 100000 in
set_option maxHeartbeats 1000000 in
theorem drawMakeWithout (a : Option Addr) (n c : Nat) (w : World) (h : Bytes w a n) (hn : n ≤ 1048576) (hc : n ≤ c) :
    Calls Try.prog 23 #[.slice a n c] w fun e w' => ∃ s t : ByteArray, e = .returned (.tuple #[.string s, .string t]) ∧ s.size ≤ 12 ∧ t.size ≤ 12 ∧ Below w.heap.size w w' := by
  go_enter Try.func23, Try.ntmps23
  go_wp2_with fail
  refine (open_rd a n c _ h hn hc).mono ?_
  rintro e w1 ⟨n', rfl, hrd, hap⟩
  go_wp2_with fail
  refine (set_rd hrd (by omega)).mono ?_
  rintro e w2 ⟨s, p2, rfl, hs, hp2, hrd2, hap2⟩
  go_wp2_with fail
  refine (set_rd hrd2 (by omega)).mono ?_
  rintro e w3 ⟨t, p3, rfl, ht, hp3, hrd3, hap3⟩
  go_wp2
  go_ret2
  exact ⟨s, t, rfl, hs, ht, ((hap.trans hap2).trans hap3).below⟩

set_option maxRecDepth 100000 in
set_option maxHeartbeats 1000000 in
theorem drawMakeEvery (a : Option Addr) (n c : Nat) (w : World) (h : Bytes w a n) (hn : n ≤ 1048576) (hc : n ≤ c) :
    Calls Try.prog 40 #[.slice a n c] w fun e w' => ∃ (s : ByteArray) (x y : Int), e = .returned (.tuple #[.string s, .int .i64 x, .int .i64 y]) ∧ s.size ≤ 12 ∧ (-1 ≤ x ∧ x ≤ 1001) ∧ (-1 ≤ y ∧ y ≤ 1001) ∧ Below w.heap.size w w' := by
  go_enter Try.func40, Try.ntmps40
  go_wp2_with fail
  refine (open_rd a n c _ h hn hc).mono ?_
  rintro e w1 ⟨n', rfl, hrd, hap⟩
  go_wp2_with fail
  refine (set_rd hrd (by omega)).mono ?_
  rintro e w2 ⟨s, p2, rfl, hs, hp2, hrd2, hap2⟩
  go_wp2_with fail
  refine (number_rd hrd2 19 (by omega) (by omega)).mono ?_
  rintro e w3 ⟨x, p3, rfl, hx, hp3, hrd3, hap3⟩
  go_wp2_with fail
  refine (number_rd hrd3 100 (by omega) (by omega)).mono ?_
  rintro e w4 ⟨y, p4, rfl, hy, hp4, hrd4, hap4⟩
  go_wp2
  go_ret3
  exact ⟨s, 1 + x, y, rfl, hs, by omega, by omega, (((hap.trans hap2).trans hap3).trans hap4).below⟩

end Go.Proofs.Ytcljchngjaodgaa
