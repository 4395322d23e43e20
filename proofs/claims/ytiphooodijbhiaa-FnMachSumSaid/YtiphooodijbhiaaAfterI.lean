/-
  The walks over the linked states: stateChain.tail, ring, after.
-/
import Derived.Test.YtiphooodijbhiaaChainI
namespace Go.Proofs.Ytiphooodijbhiaa
open Go.RowKit
set_option linter.unusedVariables false

/-- The chain's box, and what it links. -/
structure HeldC (g : Nat → Nat) (p q : Nat) (A : Nat → Nat) (S : Nat) (w wr : World) : Prop where
  q0 : wr.cell? ⟨S, 0, none⟩ = some (.pointer (some ⟨A 0, 0, none⟩))
  q1 : wr.cell? ⟨S, 1, none⟩ = some (.pointer (some ⟨A (p + q - 1), 0, none⟩))
  lt : S < wr.heap.size
  chain : ChainIn g p q A wr
  below : Below S w wr
theorem HeldC.step {g A : Nat → Nat} {p q S : Nat} {w wr w1 : World} (h : HeldC g p q A S w wr) (hb : Below wr.heap.size wr w1) : HeldC g p q A S w w1 :=
  ⟨(hb.cell (p := ⟨S, 0, none⟩) h.lt).trans h.q0, (hb.cell (p := ⟨S, 1, none⟩) h.lt).trans h.q1, Nat.lt_of_lt_of_le h.lt hb.size, h.chain.step hb, h.below.trans (hb.mono (Nat.le_of_lt h.lt))⟩
theorem heldC_start {g A : Nat → Nat} {p q : Nat} {w : World} (h : ChainIn g p q A w) : HeldC g p q A w.heap.size w (w.alloc (.cells #[.pointer (some ⟨A 0, 0, none⟩), .pointer (some ⟨A (p + q - 1), 0, none⟩)] 67)) := by
  have hb := (Below.refl w.heap.size w).alloc (Nat.le_refl _) (.cells #[.pointer (some ⟨A 0, 0, none⟩), .pointer (some ⟨A (p + q - 1), 0, none⟩)] 67)
  refine ⟨?_, ?_, by simp, h.step hb, hb⟩
  · rw [World.cell?_alloc_at _ _ _ _ rfl]; rfl
  · rw [World.cell?_alloc_at _ _ _ _ rfl]; rfl
/-- The last state's cells, and those of the one that follows it. -/
theorem ChainIn.ends {g A : Nat → Nat} {p q : Nat} {w : World} (h : ChainIn g p q A w) (hq : 0 < q) :
    w.cell? ⟨A (p + q - 1), 1, none⟩ = some (.int .i64 (p + q - 1 : Nat)) ∧ w.cell? ⟨A (p + q - 1), 2, none⟩ = some (.pointer (some ⟨A p, 0, none⟩)) ∧ w.cell? ⟨A p, 1, none⟩ = some (.int .i64 p) := by
  refine ⟨h.steps _ (by omega), ?_, h.steps _ (by omega)⟩
  have := h.next (p + q - 1) (by omega)
  rw [if_pos (by omega)] at this
  exact this

theorem chainTail_is {g A : Nat → Nat} {p q : Nat} (w : World) (h : ChainIn g p q A w) (hq : 0 < q) :
    Calls Try.prog 95 #[.agg #[.pointer (some ⟨A 0, 0, none⟩), .pointer (some ⟨A (p + q - 1), 0, none⟩)]] w fun e w' => e = .returned (.int .i64 p) ∧ Below w.heap.size w w' := by
  have hs := heldC_start h
  have q1 := hs.q1
  obtain ⟨z1, z2, z3⟩ := hs.chain.ends hq
  have HB := Lib.hid hs.below
  clear hs h
  obtain ⟨L, hL⟩ : ∃ L, L = A (p + q - 1) := ⟨_, rfl⟩
  rw [← hL] at q1 z1 z2 z3 HB ⊢
  clear hL
  go_enter Try.func95, Try.ntmps95
  go_wp2
  go_ret
  exact ⟨rfl, HB.out⟩

set_option maxHeartbeats 1000000 in
theorem chainRing_is {g A : Nat → Nat} {p q : Nat} (w : World) (h : ChainIn g p q A w) (hq : 0 < q) (hpq : p + q ≤ 32) :
    Calls Try.prog 96 #[.agg #[.pointer (some ⟨A 0, 0, none⟩), .pointer (some ⟨A (p + q - 1), 0, none⟩)]] w fun e w' => e = .returned (.int .i64 q) ∧ Below w.heap.size w w' := by
  have hs := (heldC_start h).step (Below.refl _ _).drew
  have K : ∀ W : World, HeldC g p q A w.heap.size w W → Calls Try.prog 95 #[.agg #[.pointer (some ⟨A 0, 0, none⟩), .pointer (some ⟨A (p + q - 1), 0, none⟩)]] W fun e w' => e = .returned (.int .i64 p) ∧ HeldC g p q A w.heap.size w w' :=
    fun W hW => (chainTail_is W hW.chain hq).mono fun e w' he => ⟨he.1, hW.step he.2⟩
  have KC : ∀ W : World, HeldC g p q A w.heap.size w W → W.cell? ⟨w.heap.size, 0, none⟩ = some (.pointer (some ⟨A 0, 0, none⟩)) ∧ W.cell? ⟨w.heap.size, 1, none⟩ = some (.pointer (some ⟨A (p + q - 1), 0, none⟩)) ∧ W.cell? ⟨A (p + q - 1), 1, none⟩ = some (.int .i64 (p + q - 1 : Nat)) ∧ HeldC g p q A w.heap.size w W :=
    fun W hW => ⟨hW.q0, hW.q1, (hW.chain.ends hq).1, hW⟩
  have HSD := KC _ hs
  have HW : Hid (IntKind.i64.wrap (IntKind.i64.wrap (((p + q - 1 : Nat) : Int) + 1) - (p : Int)) = (q : Int)) := Lib.hid (by rw [IntWalk.i64_in (((p + q - 1 : Nat) : Int) + 1) (by omega), IntWalk.i64_in _ (by omega)]; omega)
  have HK : Hid (∀ W : World, (W.cell? ⟨w.heap.size, 0, none⟩ = some (.pointer (some ⟨A 0, 0, none⟩)) ∧ W.cell? ⟨w.heap.size, 1, none⟩ = some (.pointer (some ⟨A (p + q - 1), 0, none⟩)) ∧ W.cell? ⟨A (p + q - 1), 1, none⟩ = some (.int .i64 (p + q - 1 : Nat)) ∧ HeldC g p q A w.heap.size w W) →
      Calls Try.prog 95 #[.agg #[.pointer (some ⟨A 0, 0, none⟩), .pointer (some ⟨A (p + q - 1), 0, none⟩)]] W fun e w' => e = .returned (.int .i64 p) ∧ (w'.cell? ⟨w.heap.size, 0, none⟩ = some (.pointer (some ⟨A 0, 0, none⟩)) ∧ w'.cell? ⟨w.heap.size, 1, none⟩ = some (.pointer (some ⟨A (p + q - 1), 0, none⟩)) ∧ w'.cell? ⟨A (p + q - 1), 1, none⟩ = some (.int .i64 (p + q - 1 : Nat)) ∧ HeldC g p q A w.heap.size w w')) :=
    Lib.hid fun W hW => (K W hW.2.2.2).mono fun e w' he => ⟨he.1, KC w' he.2⟩
  clear hs h K KC
  obtain ⟨N, hN⟩ : ∃ N, N = p + q - 1 := ⟨_, rfl⟩
  have hN3 : N ≤ 31 := by omega
  have hpN : p ≤ N := by omega
  rw [← hN] at HSD HW HK ⊢
  clear hN
  go_enter Try.func96, Try.ntmps96
  go_wp2
  go_region_held3 (fun w' => w'.cell? ⟨w.heap.size, 0, none⟩ = some (.pointer (some ⟨A 0, 0, none⟩)) ∧ w'.cell? ⟨w.heap.size, 1, none⟩ = some (.pointer (some ⟨A N, 0, none⟩)) ∧ w'.cell? ⟨A N, 1, none⟩ = some (.int .i64 N) ∧ HeldC g p q A w.heap.size w w') (first | assumption | (constructor <;> assumption))
    (first
      | (go_at_call 95; (with_reducible refine (HK.out _ ?_).mono ?_); assumption; rintro e w5 ⟨rfl, hb5⟩))
  all_goals
    go_wp2
    go_ret
    exact ⟨ret_int HW.out, hb5.2.2.2.below⟩

theorem chain_next {g A : Nat → Nat} {p q : Nat} {w : World} (h : ChainIn g p q A w) (hq : 0 < q) (k : Nat) :
    w.cell? ⟨A (placeM p q k), 2, none⟩ = some (.pointer (some ⟨A (placeM p q (k + 1)), 0, none⟩)) := by
  rw [placeM_succ hq]; exact h.next _ (placeM_lt hq k)
theorem placeM_zero {p q : Nat} (hq : 0 < q) : placeM p q 0 = 0 := placeM_self (by omega)

set_option maxHeartbeats 1000000 in
/-- The last part of after: along the links. -/
theorem chainAfter_is {g A : Nat → Nat} {p q : Nat} (k : Nat) (w : World) (h : ChainIn g p q A w) (hq : 0 < q) (hpq : p + q ≤ 32) (hk : k ≤ 1000000) :
    Calls Try.prog 67 #[.agg #[.pointer (some ⟨A 0, 0, none⟩), .pointer (some ⟨A (p + q - 1), 0, none⟩)], .int .i64 k] w fun e w' => e = .returned (.pointer (some ⟨A (placeM p q k), 0, none⟩)) ∧ Below w.heap.size w w' ∧ ChainIn g p q A w' := by
  have hs := heldC_start h
  have KT : ∀ W : World, HeldC g p q A w.heap.size w W → Calls Try.prog 95 #[.agg #[.pointer (some ⟨A 0, 0, none⟩), .pointer (some ⟨A (p + q - 1), 0, none⟩)]] W fun e w' => e = .returned (.int .i64 p) ∧ (w'.cell? ⟨w.heap.size, 0, none⟩ = some (.pointer (some ⟨A 0, 0, none⟩)) ∧ w'.cell? ⟨w.heap.size, 1, none⟩ = some (.pointer (some ⟨A (p + q - 1), 0, none⟩)) ∧ HeldC g p q A w.heap.size w w') :=
    fun W hW => (chainTail_is W hW.chain hq).mono fun e w' he => ⟨he.1, (hW.step he.2).q0, (hW.step he.2).q1, hW.step he.2⟩
  have KR : ∀ W : World, HeldC g p q A w.heap.size w W → Calls Try.prog 96 #[.agg #[.pointer (some ⟨A 0, 0, none⟩), .pointer (some ⟨A (p + q - 1), 0, none⟩)]] W fun e w' => e = .returned (.int .i64 q) ∧ (w'.cell? ⟨w.heap.size, 0, none⟩ = some (.pointer (some ⟨A 0, 0, none⟩)) ∧ w'.cell? ⟨w.heap.size, 1, none⟩ = some (.pointer (some ⟨A (p + q - 1), 0, none⟩)) ∧ HeldC g p q A w.heap.size w w') :=
    fun W hW => (chainRing_is W hW.chain hq hpq).mono fun e w' he => ⟨he.1, (hW.step he.2).q0, (hW.step he.2).q1, hW.step he.2⟩
  have q0 := hs.q0
  have q1 := hs.q1
  have HS := Lib.hid hs
  have HT := Lib.hid KT
  have HRR := Lib.hid KR
  obtain ⟨P, hP⟩ : ∃ P, P = placeM p q k := ⟨_, rfl⟩
  have hP2 : P < p + q := by rw [hP]; exact placeM_lt hq k
  have HPP : Hid (∀ j, j ≤ P → placeM p q j = j) := Lib.hid fun j hj => placeM_self (by omega)
  rw [← hP]
  clear hs h KT KR
  obtain ⟨L, hL⟩ : ∃ L, L = A (p + q - 1) := ⟨_, rfl⟩
  rw [← hL] at q1 HS HT HRR ⊢
  clear hL
  by_cases hkp : p < k
  · obtain ⟨d, rfl⟩ : ∃ d, k = p + d := ⟨k - p, by omega⟩
    have hPd : P = p + d % q := by
      rw [hP]; unfold placeM
      rw [if_neg (by omega), show p + d - p = d from by omega]
    have hm := Nat.mod_lt d hq
    have hd : IntKind.i64.wrap ((p : Int) + (d : Int) - (p : Int)) = (d : Int) := by rw [IntWalk.i64_in _ (by omega)]; omega
    have hq0 : ¬ (q : Int) = 0 := by omega
    have hq1 : ¬ q = 0 := by omega
    have hx1 : ((d : Int) % (q : Int)) < (q : Int) := Int.emod_lt_of_pos _ (by omega)
    have hx0 : (0 : Int) ≤ ((d : Int) % (q : Int)) := Int.emod_nonneg _ (by omega)
    have HW : Hid (IntKind.i64.wrap ((p : Int) + (d : Int).tmod (q : Int)) = (P : Int)) := Lib.hid (by rw [Int.tmod_eq_emod_of_nonneg (by omega), hPd, IntWalk.i64_in _ (by omega)]; omega)
    have hkI : (p : Int) < (p : Int) + (d : Int) := by omega
    clear hP hPd
    go_enter Try.func67, Try.ntmps67
    go_wp2_with fail
    refine (HT.out _ HS.out).mono ?_
    rintro e w1 ⟨rfl, y0, y1, hw1⟩
    have HW1 := Lib.hid hw1
    have HSD : w1.drew.cell? ⟨w.heap.size, 0, none⟩ = some (.pointer (some ⟨A 0, 0, none⟩)) ∧ w1.drew.cell? ⟨w.heap.size, 1, none⟩ = some (.pointer (some ⟨L, 0, none⟩)) ∧ HeldC g p q A w.heap.size w w1.drew := ⟨y0, y1, hw1.step (Below.refl _ _).drew⟩
    have HTT : Hid (∀ W : World, (W.cell? ⟨w.heap.size, 0, none⟩ = some (.pointer (some ⟨A 0, 0, none⟩)) ∧ W.cell? ⟨w.heap.size, 1, none⟩ = some (.pointer (some ⟨L, 0, none⟩)) ∧ HeldC g p q A w.heap.size w W) → Calls Try.prog 95 #[.agg #[.pointer (some ⟨A 0, 0, none⟩), .pointer (some ⟨L, 0, none⟩)]] W fun e w' => e = .returned (.int .i64 p) ∧ (w'.cell? ⟨w.heap.size, 0, none⟩ = some (.pointer (some ⟨A 0, 0, none⟩)) ∧ w'.cell? ⟨w.heap.size, 1, none⟩ = some (.pointer (some ⟨L, 0, none⟩)) ∧ HeldC g p q A w.heap.size w w')) := Lib.hid fun W h => HT.out W h.2.2
    have HRT : Hid (∀ W : World, (W.cell? ⟨w.heap.size, 0, none⟩ = some (.pointer (some ⟨A 0, 0, none⟩)) ∧ W.cell? ⟨w.heap.size, 1, none⟩ = some (.pointer (some ⟨L, 0, none⟩)) ∧ HeldC g p q A w.heap.size w W) → Calls Try.prog 96 #[.agg #[.pointer (some ⟨A 0, 0, none⟩), .pointer (some ⟨L, 0, none⟩)]] W fun e w' => e = .returned (.int .i64 q) ∧ (w'.cell? ⟨w.heap.size, 0, none⟩ = some (.pointer (some ⟨A 0, 0, none⟩)) ∧ w'.cell? ⟨w.heap.size, 1, none⟩ = some (.pointer (some ⟨L, 0, none⟩)) ∧ HeldC g p q A w.heap.size w w')) := Lib.hid fun W h => HRR.out W h.2.2
    clear hw1
    go_wp2
    go_region_held3 (fun w' => w'.cell? ⟨w.heap.size, 0, none⟩ = some (.pointer (some ⟨A 0, 0, none⟩)) ∧ w'.cell? ⟨w.heap.size, 1, none⟩ = some (.pointer (some ⟨L, 0, none⟩)) ∧ HeldC g p q A w.heap.size w w') (first | assumption | (constructor <;> assumption))
      (first
        | (go_at_call 95; (with_reducible refine (HTT.out _ ?_).mono ?_); assumption; rintro e w5 ⟨rfl, hb5⟩)
        | (go_at_call 96; (with_reducible refine (HRT.out _ ?_).mono ?_); assumption; rintro e w6 ⟨rfl, hb6⟩))
    rw [HW.out]
    have HW1 := Lib.hid hb6.2.2
    have v0 := hb6.1
    clear HSD HTT HRT hb6 hb5 hd hq0 hq1 hx1 hx0 hkI
    rename_i hHeld
    clear hHeld
    go_wp2
    go_loopw [5, 23] (fun v i wr => ∃ j : Nat, i = .int .i64 j ∧ j ≤ P ∧ v = .pointer (some ⟨A j, 0, none⟩) ∧ HeldC g p q A w.heap.size w wr) (fun _ i _ => P - (intOf i).toNat)
    case atStart => exact ⟨0, rfl, Nat.zero_le _, rfl, HW1.out⟩
    case round =>
      obtain ⟨j, rfl, hj, rfl, hl⟩ := hrel
      by_cases hlt : j < P
      · have z := hl.chain.next j (by omega)
        rw [if_neg (by omega)] at z
        have HL := Lib.hid hl
        clear hl
        go_wp2
        go_roundw
        case rel => exact ⟨j + 1, by go_num, by omega, rfl, HL.out⟩
        case measure => simp [intOf]; omega
      · obtain rfl : j = P := by omega
        have HL := Lib.hid hl
        clear hl
        go_wp2
        go_ret
        exact ⟨rfl, HL.out.below, HL.out.chain⟩
  · have hPk : P = k := by rw [hP]; exact placeM_self (by omega)
    clear hP
    subst hPk
    go_enter Try.func67, Try.ntmps67
    go_wp2_with fail
    refine (HT.out _ HS.out).mono ?_
    rintro e w1 ⟨rfl, y0, y1, hw1⟩
    have HW1 := Lib.hid hw1
    clear hw1
    go_wp2
    go_loopw [5, 23] (fun v i wr => ∃ j : Nat, i = .int .i64 j ∧ j ≤ P ∧ v = .pointer (some ⟨A j, 0, none⟩) ∧ HeldC g p q A w.heap.size w wr) (fun _ i _ => P - (intOf i).toNat)
    case atStart => exact ⟨0, rfl, Nat.zero_le _, rfl, HW1.out⟩
    case round =>
      obtain ⟨j, rfl, hj, rfl, hl⟩ := hrel
      by_cases hlt : j < P
      · have z := hl.chain.next j (by omega)
        rw [if_neg (by omega)] at z
        have HL := Lib.hid hl
        clear hl
        go_wp2
        go_roundw
        case rel => exact ⟨j + 1, by go_num, by omega, rfl, HL.out⟩
        case measure => simp [intOf]; omega
      · obtain rfl : j = P := by omega
        have HL := Lib.hid hl
        clear hl
        go_wp2
        go_ret
        exact ⟨rfl, HL.out.below, HL.out.chain⟩

end Go.Proofs.Ytiphooodijbhiaa
