/-
  The walks of the exact laws' own helpers on machines: markMachine, heldMachine. A machine handed back, as a law sees it.
-/
import Derived.Test.YtiphooodijbhiabLawMach
import Derived.Test.YtiphooodijbhiabLawInts
namespace Go.Proofs.Ytiphooodijbhiab
open Go.RowKit
set_option linter.unusedVariables false

theorem grown_trans {a b c : World} {r : Option Nat} (h : a.grownBy b r) (k : b.grownBy c r) : a.grownBy c r :=
  ⟨k.os.trans h.os, k.tape.trans h.tape, k.output.trans h.output, Nat.le_trans h.size k.size, fun i hi hr => (k.block i (Nat.lt_of_lt_of_le hi h.size) hr).trans (h.block i hi hr)⟩
theorem grown_after {a b c : World} {r : Option Nat} (h : Below a.heap.size a b) (k : b.grownBy c r) : a.grownBy c r :=
  ⟨k.os.trans h.os, k.tape.trans h.tape, k.output.trans h.output, Nat.le_trans h.size k.size, fun i hi hr => (k.block i (Nat.lt_of_lt_of_le hi h.size) hr).trans (h.block i hi)⟩

/-- A machine's box, where nothing else is said. -/
structure BoxC (a : Option Addr) (n c : Nat) (b e : Int) (S : Nat) (wr : World) : Prop where
  q0 : wr.cell? ⟨S, 0, none⟩ = some (.slice a n c)
  q1 : wr.cell? ⟨S, 1, none⟩ = some (.int .i64 b)
  q2 : wr.cell? ⟨S, 2, none⟩ = some (.int .i64 e)
  lt : S < wr.heap.size
theorem BoxM.only {a : Option Addr} {n c S : Nat} {b e : Int} {w wr : World} (h : BoxM a n c b e S w wr) : BoxC a n c b e S wr := ⟨h.q0, h.q1, h.q2, h.lt⟩
theorem BoxC.step {a : Option Addr} {n c S : Nat} {b e : Int} {wr w1 : World} (h : BoxC a n c b e S wr) (hb : Below wr.heap.size wr w1) : BoxC a n c b e S w1 :=
  ⟨(hb.cell (p := ⟨S, 0, none⟩) h.lt).trans h.q0, (hb.cell (p := ⟨S, 1, none⟩) h.lt).trans h.q1, (hb.cell (p := ⟨S, 2, none⟩) h.lt).trans h.q2, Nat.lt_of_lt_of_le h.lt hb.size⟩
theorem BoxC.grown {a : Option Addr} {n c S : Nat} {b e : Int} {wr w1 : World} {r : Option Nat} (h : BoxC a n c b e S wr) (hg : wr.grownBy w1 r) (hr : some S ≠ r) : BoxC a n c b e S w1 :=
  ⟨hg.cell h.q0 hr, hg.cell h.q1 hr, hg.cell h.q2 hr, Nat.lt_of_lt_of_le h.lt hg.size⟩
theorem BoxM.grown {a : Option Addr} {n c S : Nat} {b e : Int} {w wr w1 : World} {r : Option Nat} (h : BoxM a n c b e S w wr) (hg : wr.grownBy w1 r) (hr : ∀ j, r = some j → S < j) : BoxM a n c b e S w w1 := by
  have hs : some S ≠ r := fun e => by have := hr S e.symm; omega
  have h2 := h.only.grown hg hs
  exact ⟨h2.q0, h2.q1, h2.q2, h2.lt, h.below.grown hg (Nat.le_of_lt h.lt) (fun j hj => Nat.le_of_lt (hr j hj))⟩

set_option maxHeartbeats 400000 in
theorem markIntS_own (base : Nat) (a : Option Addr) (n c q : Nat) (xs : List Int) (w : World) (h : w.ownsRow base 3 1 (.slice a n c) n (ints xs)) (hn : n ≤ 1048576) (hq : q ≤ 2097153) :
    Calls Try.prog 91 #[.slice a n c, .int .i64 q] w fun e w' =>
      e = .returned (.int .i64 ((q + n : Nat) : Int)) ∧ w.grownBy w' (Value.slice a n c).ownBlock ∧ w'.ownsRow base 3 1 (.slice a n c) n (ints (marks q n)) := by
  have hx : xs.length = n := by have := h.1; rw [ints_length, Nat.mul_one] at this; exact this
  have HX := Lib.hid hx
  have HO := Lib.hid h
  clear hx h
  go_enter Try.func91, Try.ntmps91
  go_wp2
  go_loopw [1, 5] (fun m i wr => ∃ k : Nat, k ≤ n ∧ i = .int .i64 k ∧ m = .int .i64 ((q + k : Nat) : Int) ∧ w.grownBy wr (Value.slice a n c).ownBlock ∧ wr.ownsRow base 3 1 (.slice a n c) n (ints (marks q k ++ xs.drop k)))
    (fun _ i _ => n - (intOf i).toNat)
  case atStart => exact ⟨0, Nat.zero_le _, rfl, rfl, World.grownBy.refl _ _, HO.out⟩
  case round =>
    obtain ⟨k, hk, rfl, rfl, hB, hown⟩ := hrel
    by_cases hlt : k < n
    · rcases hown.2 with ⟨hv, h0⟩ | ⟨g, cap, cur, hv, hg, hh, hnc, hm, hs, ht⟩
      · omega
      · injection hv with ha _ hc
        subst ha
        have hc0 := hown.cellAt k (by omega)
        have hf0 := hown.frozenAt k
        obtain ⟨y, hy⟩ : ∃ y, (ints (marks q k ++ xs.drop k))[k]? = some y := by
          have : k < (ints (marks q k ++ xs.drop k)).length := by rw [hown.1]; omega
          exact ⟨_, List.getElem?_eq_getElem this⟩
        rw [hy] at hc0
        obtain ⟨hst, hgr⟩ := hown.stored k (.int .i64 ((q + k : Nat) : Int))
        rw [marks_set q k n xs hlt HX.out] at hst
        have HB := Lib.hid (grown_trans hB hgr)
        have HS := Lib.hid hst
        clear hgr hst hh ht hs hy hown hB hc
        go_wp2
        go_roundw
        case rel => exact ⟨k + 1, by omega, by go_num, by go_num, HB.out, HS.out⟩
        case measure => simp [intOf]; omega
    · obtain rfl : k = n := by omega
      have HE : Hid (ints (marks q k ++ xs.drop k) = ints (marks q k)) := by
        refine Lib.hid ?_
        rw [List.drop_of_length_le (by rw [HX.out]; exact Nat.le_refl _), List.append_nil]
      rw [HE.out] at hown
      have HS := Lib.hid hown
      clear hown
      go_wp2
      go_ret
      exact ⟨rfl, hB, HS.out⟩

set_option maxRecDepth 100000 in
set_option maxHeartbeats 2000000 in
theorem markMachine_is (base : Nat) (a : Option Addr) (n c q : Nat) (b e : Int) (xs : List Int) (w : World) (h : w.ownsRow base 3 1 (.slice a n c) n (ints xs)) (hn : n ≤ 1048576) (hq : q ≤ 2097153) :
    Calls Try.prog 50 #[.agg #[.slice a n c, .int .i64 b, .int .i64 e], .int .i64 q] w fun e1 w' =>
      e1 = .returned (.int .i64 ((q + n : Nat) : Int)) ∧ w.grownBy w' (Value.slice a n c).ownBlock ∧ w'.ownsRow base 3 1 (.slice a n c) n (ints (marks q n)) := by
  have hb := (Below.refl w.heap.size w).alloc (Nat.le_refl _) (.cells #[.slice a n c, .int .i64 b, .int .i64 e] 50)
  have H := Lib.hid (own_below h hb (Nat.le_refl _))
  have HB := Lib.hid hb
  clear h hb
  go_enter Try.func50, Try.ntmps50
  go_wp2_with fail
  refine (markIntS_own base a n c q xs _ H.out hn hq).mono ?_
  rintro e1 w1 ⟨rfl, hb1, hown⟩
  have HF := Lib.hid (grown_after HB.out hb1)
  have HO := Lib.hid hown
  clear hb1 hown
  go_wp2
  go_ret
  exact ⟨rfl, HF.out, HO.out⟩

set_option maxRecDepth 100000 in
set_option maxHeartbeats 2000000 in
theorem heldMachine_is (a : Option Addr) (n c q : Nat) (b e : Int) (w : World) (h : ReadsI w a n (marks q n)) (hn : n ≤ 1048576) (hq : q ≤ 1048576) :
    Calls Try.prog 51 #[.agg #[.slice a n c, .int .i64 b, .int .i64 e], .int .i64 q] w fun e1 w' =>
      e1 = .returned (.int .i64 ((q + n : Nat) : Int)) ∧ Below w.heap.size w w' := by
  have H := Lib.hid (h.alloc (.cells #[.slice a n c, .int .i64 b, .int .i64 e] 50))
  clear h
  have hd : ¬ ((q + n : Nat) : Int) < 0 := by omega
  obtain ⟨d, hd0⟩ : ∃ d, d = q + n := ⟨_, rfl⟩
  have HC := Lib.hid (fun W hW => heldIntS_any a n c q W hW hn hq)
  rw [← hd0] at HC hd ⊢
  clear hd0
  go_enter Try.func51, Try.ntmps51
  go_wp2_with fail
  refine (HC.out _ H.out).mono ?_
  rintro e1 w1 ⟨rfl, rfl⟩
  go_wp2
  go_ret
  exact ⟨rfl, (Below.refl _ _).alloc (Nat.le_refl _) _⟩

/-- A machine handed back, as it is known. -/
def MachAs (ok : Bool) (zs : List Int) (n : Nat) (x y : Int) (w : World) (e : Ending) (w' : World) : Prop :=
  ∃ a c, e = .returned (.tuple #[.agg #[.slice a n c, .int .i64 x, .int .i64 y], .bool ok]) ∧ w'.ownsRow w.heap.size 3 1 (.slice a n c) n (ints zs) ∧ Below w.heap.size w w'
theorem MachEnd.as {ok : Bool} {L : List Nat} {s t : Nat} {w w' : World} {e : Ending} (h : MachEnd ok L s t w e w') : MachAs ok (castM L) L.length s t w e w' := by
  obtain ⟨a, n, c, rfl, h1, rfl, h2⟩ := h
  exact ⟨a, c, rfl, h1, h2⟩

end Go.Proofs.Ytiphooodijbhiab
