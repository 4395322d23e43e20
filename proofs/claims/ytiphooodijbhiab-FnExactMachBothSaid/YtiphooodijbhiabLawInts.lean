/-
  The walks of the exact laws' own helpers on slices of integers: markIntS, heldIntS.
-/
import Derived.Test.YtiphooodijbhiabEqInts
import Derived.Lib.MinMax
import Derived.Test.YtiphooodijbhiabIsRow
namespace Go.Proofs.Ytiphooodijbhiab
open Go.RowKit

/-- The numbers that markIntS lays. -/
def marks (q k : Nat) : List Int := (List.range k).map fun i => ((q + i : Nat) : Int)
theorem marks_length (q k : Nat) : (marks q k).length = k := by simp [marks]
theorem marks_getD (q k i : Nat) (h : i < k) : (marks q k).getD i 0 = ((q + i : Nat) : Int) := by
  rw [List.getD_eq_getElem?_getD, List.getElem?_eq_getElem (by rw [marks_length]; exact h)]; simp [marks]
theorem marks_set (q k n : Nat) (xs : List Int) (hk : k < n) (hx : xs.length = n) :
    (ints (marks q k ++ xs.drop k)).set k (.int .i64 ((q + k : Nat) : Int)) = ints (marks q (k + 1) ++ xs.drop (k + 1)) := by
  have e : xs.drop k = xs[k] :: xs.drop (k + 1) := List.drop_eq_getElem_cons (by omega)
  have e2 : marks q (k + 1) = marks q k ++ [((q + k : Nat) : Int)] := by unfold marks; rw [List.range_succ]; simp
  have e3 : (ints (marks q k)).length = k := by rw [ints_length, marks_length]
  rw [e, e2]
  unfold ints at e3 ⊢
  rw [List.map_append, List.set_append_right _ _ (by omega), e3, Nat.sub_self, List.map_cons, List.set_cons_zero, List.map_append, List.map_append, List.append_assoc]
  rfl

set_option maxHeartbeats 400000 in
theorem markIntS_any (base : Nat) (a : Option Addr) (n c q : Nat) (xs : List Int) (w : World) (h : w.ownsRow base 3 1 (.slice a n c) n (ints xs)) (hn : n ≤ 1048576) (hq : q ≤ 1048576) :
    Calls Try.prog 91 #[.slice a n c, .int .i64 q] w fun e w' =>
      e = .returned (.int .i64 ((q + n : Nat) : Int)) ∧ Below base w w' ∧ w'.ownsRow base 3 1 (.slice a n c) n (ints (marks q n)) := by
  have hx : xs.length = n := by have := h.1; rw [ints_length, Nat.mul_one] at this; exact this
  have HX := Lib.hid hx
  have HO := Lib.hid h
  clear hx h
  go_enter Try.func91, Try.ntmps91
  go_wp2
  go_loopw [1, 5] (fun m i wr => ∃ k : Nat, k ≤ n ∧ i = .int .i64 k ∧ m = .int .i64 ((q + k : Nat) : Int) ∧ Below base w wr ∧ wr.ownsRow base 3 1 (.slice a n c) n (ints (marks q k ++ xs.drop k)))
    (fun _ i _ => n - (intOf i).toNat)
  case atStart => exact ⟨0, Nat.zero_le _, rfl, rfl, Below.refl _ _, HO.out⟩
  case round =>
    obtain ⟨k, hk, rfl, rfl, hB, hown⟩ := hrel
    by_cases hlt : k < n
    · rcases hown.2 with ⟨hv, h0⟩ | ⟨g, cap, cur, hv, hg, hh, hnc, hm, hs, ht⟩
      · omega
      · injection hv with ha _ hc
        subst ha
        have hc0 := hown.cellAt k (by omega)
        have hf0 := hown.frozenAt k
        obtain ⟨y, hy⟩ : ∃ y, (ints (marks q k ++ xs.drop k))[k]? = some y := by
          have : k < (ints (marks q k ++ xs.drop k)).length := by rw [hown.1]; omega
          exact ⟨_, List.getElem?_eq_getElem this⟩
        rw [hy] at hc0
        have hst := (hown.stored k (.int .i64 ((q + k : Nat) : Int))).1
        rw [marks_set q k n xs hlt HX.out] at hst
        have HB := Lib.hid (hB.setCell (p := ⟨g, k, none⟩) hg (.int .i64 ((q + k : Nat) : Int)))
        have HS := Lib.hid hst
        clear hst hh ht hs hy hown hB hc
        go_wp2
        go_roundw
        case rel => exact ⟨k + 1, by omega, by go_num, by go_num, HB.out, HS.out⟩
        case measure => simp [intOf]; omega
    · obtain rfl : k = n := by omega
      have HE : Hid (ints (marks q k ++ xs.drop k) = ints (marks q k)) := by
        refine Lib.hid ?_
        rw [List.drop_of_length_le (by rw [HX.out]; exact Nat.le_refl _), List.append_nil]
      rw [HE.out] at hown
      have HS := Lib.hid hown
      clear hown
      go_wp2
      go_ret
      exact ⟨rfl, hB, HS.out⟩

set_option maxHeartbeats 400000 in
theorem heldIntS_any (a : Option Addr) (n c q : Nat) (w : World) (h : ReadsI w a n (marks q n)) (hn : n ≤ 1048576) (hq : q ≤ 1048576) :
    Calls Try.prog 92 #[.slice a n c, .int .i64 q] w fun e w' => e = .returned (.int .i64 ((q + n : Nat) : Int)) ∧ w = w' := by
  have H := Lib.hid h
  clear h
  go_enter Try.func92, Try.ntmps92
  go_wp2
  go_loop [1, 5] (fun m i => ∃ k : Nat, k ≤ n ∧ i = .int .i64 k ∧ m = .int .i64 ((q + k : Nat) : Int)) (fun _ i => n - (intOf i).toNat)
  case atStart => exact ⟨0, Nat.zero_le _, rfl, rfl⟩
  case round =>
    obtain ⟨k, hk, rfl, rfl⟩ := hrel
    by_cases hlt : k < n
    · rcases H.out.cells with h | ⟨g, o, rfl, hg, hc⟩
      · omega
      have q1 := hc k hlt
      rw [marks_getD q n k hlt] at q1
      clear hc
      go_wp2
      go_round
      case rel => exact ⟨k + 1, by omega, by go_num, by go_num⟩
      case measure => simp [intOf]; omega
    · obtain rfl : k = n := by omega
      go_wp2
      go_ret
      exact ⟨rfl, rfl⟩

end Go.Proofs.Ytiphooodijbhiab
