/-
  The walk of stateChain.taken: the parts of a set text of all numbers of steps that lead to some state of a set.
-/
import Derived.Test.YtiphooodijbhiaaAfterI
import Derived.Test.YtiphooodijbhiaaText
import Derived.Test.YtiphooodijbhiaaToldMath
namespace Go.Proofs.Ytiphooodijbhiaa
open Go.RowKit
set_option linter.unusedVariables false

/-- The world of taken's loop. -/
structure TakenAt (g : Nat → Nat) (p q : Nat) (A : Nat → Nat) (e k : Nat) (v : Value) (w wr : World) : Prop where
  held : HeldC g p q A w.heap.size w wr
  res : wr.heap[w.heap.size + 1]? = some (.cells #[.string ⟨#[]⟩, .string ⟨#[]⟩] 84 (0, 0))
  own : wr.ownsRow (w.heap.size + 1 + 1) 4 1 v k ((part (endF g e) 0 k).map Value.bool)
  size : w.heap.size + 1 + 1 ≤ wr.heap.size
theorem TakenAt.step {g A : Nat → Nat} {p q e k : Nat} {v : Value} {w wr w1 : World} (h : TakenAt g p q A e k v w wr) (hb : Below wr.heap.size wr w1) : TakenAt g p q A e k v w w1 :=
  ⟨h.held.step hb, (hb.block _ (by have := h.size; omega)).trans h.res, own_below h.own hb (Nat.le_refl _), Nat.le_trans h.size hb.size⟩
theorem HeldC.grown {g A : Nat → Nat} {p q S : Nat} {w wr w1 : World} {row : Option Nat} (h : HeldC g p q A S w wr) (hA : ∀ i, i < p + q → A i < S) (hg : wr.grownBy w1 row) (hr : ∀ k, row = some k → S < k) : HeldC g p q A S w w1 := by
  have hb : Below (S + 1) wr w1 := (Below.refl _ _).grown hg (by have := h.lt; omega) (fun k hk => hr k hk)
  refine ⟨(hb.cell (p := ⟨S, 0, none⟩) (Nat.lt_succ_self _)).trans h.q0, (hb.cell (p := ⟨S, 1, none⟩) (Nat.lt_succ_self _)).trans h.q1, Nat.lt_of_lt_of_le h.lt hb.size, ?_, h.below.trans (hb.mono (Nat.le_succ _))⟩
  exact ⟨fun i hi => (hb.cell (p := ⟨A i, 0, none⟩) (Nat.lt_succ_of_lt (hA i hi))).trans (h.chain.set i hi), fun i hi => (hb.cell (p := ⟨A i, 1, none⟩) (Nat.lt_succ_of_lt (hA i hi))).trans (h.chain.steps i hi),
    fun i hi => (hb.cell (p := ⟨A i, 2, none⟩) (Nat.lt_succ_of_lt (hA i hi))).trans (h.chain.next i hi), fun i hi => Nat.lt_of_lt_of_le (h.chain.lt i hi) hb.size⟩
theorem TakenAt.next {g A : Nat → Nat} {p q e k : Nat} {v v' : Value} {w wr w1 : World} {o : Obj} (h : TakenAt g p q A e k v w wr) (hA : ∀ i, i < p + q → A i < w.heap.size)
    (hown : w1.ownsRow (w.heap.size + 1 + 1) 4 1 v' (k + 1) ((part (endF g e) 0 k).map Value.bool ++ [.bool (endF g e k)])) (hg : (wr.alloc o).grownBy w1 v.ownBlock) : TakenAt g p q A e (k + 1) v' w w1 := by
  have hs := h.size
  have h2 := h.step ((Below.refl _ _).alloc (Nat.le_refl _) o)
  have hr : ∀ j, v.ownBlock = some j → w.heap.size + 1 + 1 ≤ j := fun j hj => (h.own.lt j hj).1
  have hb : Below (w.heap.size + 1 + 1) (wr.alloc o) w1 := (Below.refl _ _).grown hg (by simp; omega) hr
  refine ⟨h2.held.grown hA hg (fun j hj => by have := hr j hj; omega), (hb.block _ (by omega)).trans h2.res, ?_, Nat.le_trans h2.size hb.size⟩
  rw [part_snoc, List.map_append, Nat.zero_add]
  exact hown

theorem TakenAt.resCells {g A : Nat → Nat} {p q e k : Nat} {v : Value} {w wr : World} (h : TakenAt g p q A e k v w wr) :
    wr.cell? ⟨w.heap.size + 1, 0, none⟩ = some (.string ⟨#[]⟩) ∧ wr.cell? ⟨w.heap.size + 1, 1, none⟩ = some (.string ⟨#[]⟩) ∧ wr.frozen? ⟨w.heap.size + 1, 0, none⟩ = false ∧ wr.frozen? ⟨w.heap.size + 1, 1, none⟩ = false :=
  ⟨by rw [cell_of_row _ _ _ _ _ _ h.res]; rfl, by rw [cell_of_row _ _ _ _ _ _ h.res]; rfl, frozen_of_row _ _ _ _ _ h.res, frozen_of_row _ _ _ _ _ h.res⟩
theorem TakenAt.stored {g A : Nat → Nat} {p q e k : Nat} {v : Value} {w wr : World} (h : TakenAt g p q A e k v w wr) (x y : Value) :
    ((wr.setCell ⟨w.heap.size + 1, 0, none⟩ x).setCell ⟨w.heap.size + 1, 1, none⟩ y).cell? ⟨w.heap.size + 1, 0, none⟩ = some x ∧ ((wr.setCell ⟨w.heap.size + 1, 0, none⟩ x).setCell ⟨w.heap.size + 1, 1, none⟩ y).cell? ⟨w.heap.size + 1, 1, none⟩ = some y ∧
    Below w.heap.size w ((wr.setCell ⟨w.heap.size + 1, 0, none⟩ x).setCell ⟨w.heap.size + 1, 1, none⟩ y) := by
  have hb := heap_setCell_same _ (w.heap.size + 1) 1 _ _ y (heap_setCell_same _ (w.heap.size + 1) 0 _ _ x h.res)
  refine ⟨by rw [cell_of_row _ _ _ _ _ _ hb]; rfl, by rw [cell_of_row _ _ _ _ _ _ hb]; rfl, (h.held.below.setCell (by show w.heap.size ≤ w.heap.size + 1; omega) _).setCell (by show w.heap.size ≤ w.heap.size + 1; omega) _⟩
theorem parts_of {f : Nat → Bool} {p q : Nat} {X : ByteArray} (h : X = ⟨(signsOf (part f 0 (p + q))).toArray⟩) : SignsIs (X.extract 0 p) (part f 0 p) ∧ SignsIs (X.extract p X.size) (part f p q) := by
  have hl : X.data.toList = signsOf (part f 0 (p + q)) := by rw [h]
  have hs : X.size = p + q := by rw [h]; show (signsOf (part f 0 (p + q))).length = _; rw [signsOf_length, part_length]
  unfold SignsIs
  constructor
  · rw [ByteArray.data_extract, Array.toList_extract, hl]
    unfold signsOf
    rw [List.extract_eq_take_drop, List.drop_zero, Nat.sub_zero, ← List.map_take, part_take]
  · rw [ByteArray.data_extract, Array.toList_extract, hl, hs]
    unfold signsOf
    rw [List.extract_eq_take_drop, ← List.map_drop, part_drop, show p + q - p = (part f p q).length from by rw [part_length]; omega]
    rw [← List.length_map (f := signOf), List.take_length]

def TakenPost (g : Nat → Nat) (p q e : Nat) (w : World) (e1 : Ending) (w' : World) : Prop :=
  ∃ T R : ByteArray, e1 = .returned (.agg #[.string T, .string R]) ∧ SignsIs T (part (endF g e) 0 p) ∧ SignsIs R (part (endF g e) p q) ∧ Below w.heap.size w w'

theorem taken_start {g A : Nat → Nat} {p q : Nat} (e : Nat) {w : World} (h : ChainIn g p q A w) :
    TakenAt g p q A e 0 (.slice (some ⟨w.heap.size + 1 + 1, 0, none⟩) 0 0) w (((w.alloc (.cells #[.pointer (some ⟨A 0, 0, none⟩), .pointer (some ⟨A (p + q - 1), 0, none⟩)] 67)).alloc (.cells #[.string ⟨#[]⟩, .string ⟨#[]⟩] 84)).alloc (.cells #[] 4)) := by
  have h1 := ((heldC_start h).step ((Below.refl _ _).alloc (Nat.le_refl _) (.cells #[.string ⟨#[]⟩, .string ⟨#[]⟩] 84))).step ((Below.refl _ _).alloc (Nat.le_refl _) (.cells #[] 4))
  refine ⟨h1, ?_, ?_, by simp⟩
  · rw [Below.heap_alloc _ _ _ (by simp)]
    have := heap_alloc_new (w.alloc (.cells #[.pointer (some ⟨A 0, 0, none⟩), .pointer (some ⟨A (p + q - 1), 0, none⟩)] 67)) (.cells #[.string ⟨#[]⟩, .string ⟨#[]⟩] 84)
    rw [World.size_alloc] at this
    exact this
  · have := World.ownsRow_made (e := 4) (size := 1) ((w.alloc (.cells #[.pointer (some ⟨A 0, 0, none⟩), .pointer (some ⟨A (p + q - 1), 0, none⟩)] 67)).alloc (.cells #[.string ⟨#[]⟩, .string ⟨#[]⟩] 84)) #[] 0 (Nat.le_refl _) (by decide) rfl
    simpa [part] using this

set_option maxRecDepth 100000 in
set_option maxHeartbeats 4000000 in
theorem taken_is {g A : Nat → Nat} {p q : Nat} (e : Nat) (w : World) (h : ChainIn g p q A w) (hq : 0 < q) (hpq : p + q ≤ 32) (hg : ∀ i, g i < 32) (he : e < 2 ^ 62) :
    Calls Try.prog 74 #[.agg #[.pointer (some ⟨A 0, 0, none⟩), .pointer (some ⟨A (p + q - 1), 0, none⟩)], .int .i64 e] w (TakenPost g p q e w) := by
  obtain ⟨i0, hi, hz0, hz1, hz2⟩ := info_parts Try.infoBool
  have HALT := Lib.hid h.lt
  have HST := Lib.hid (taken_start e h)
  have HG := Lib.hid hg
  obtain ⟨L, hL⟩ : ∃ L, L = A (p + q - 1) := ⟨_, rfl⟩
  have HCL : Hid (∀ (W : World), HeldC g p q A w.heap.size w W → W.cell? ⟨w.heap.size, 0, none⟩ = some (.pointer (some ⟨A 0, 0, none⟩)) ∧ W.cell? ⟨w.heap.size, 1, none⟩ = some (.pointer (some ⟨L, 0, none⟩))) := Lib.hid fun W hW => ⟨hW.q0, by rw [hL]; exact hW.q1⟩
  have HT : Hid (∀ (k : Nat) (v : Value) (W : World), (W.cell? ⟨w.heap.size, 0, none⟩ = some (.pointer (some ⟨A 0, 0, none⟩)) ∧ W.cell? ⟨w.heap.size, 1, none⟩ = some (.pointer (some ⟨L, 0, none⟩)) ∧ TakenAt g p q A e k v w W) → Calls Try.prog 95 #[.agg #[.pointer (some ⟨A 0, 0, none⟩), .pointer (some ⟨L, 0, none⟩)]] W fun e1 w' => e1 = .returned (.int .i64 p) ∧ (w'.cell? ⟨w.heap.size, 0, none⟩ = some (.pointer (some ⟨A 0, 0, none⟩)) ∧ w'.cell? ⟨w.heap.size, 1, none⟩ = some (.pointer (some ⟨L, 0, none⟩)) ∧ TakenAt g p q A e k v w w')) :=
    Lib.hid fun k v W hW => by rw [hL]; exact (chainTail_is W hW.2.2.held.chain hq).mono fun e1 w' hh => ⟨hh.1, (hW.2.2.step hh.2).held.q0, (hW.2.2.step hh.2).held.q1, hW.2.2.step hh.2⟩
  have HRI : Hid (∀ (k : Nat) (v : Value) (W : World), (W.cell? ⟨w.heap.size, 0, none⟩ = some (.pointer (some ⟨A 0, 0, none⟩)) ∧ W.cell? ⟨w.heap.size, 1, none⟩ = some (.pointer (some ⟨L, 0, none⟩)) ∧ TakenAt g p q A e k v w W) → Calls Try.prog 96 #[.agg #[.pointer (some ⟨A 0, 0, none⟩), .pointer (some ⟨L, 0, none⟩)]] W fun e1 w' => e1 = .returned (.int .i64 q) ∧ (w'.cell? ⟨w.heap.size, 0, none⟩ = some (.pointer (some ⟨A 0, 0, none⟩)) ∧ w'.cell? ⟨w.heap.size, 1, none⟩ = some (.pointer (some ⟨L, 0, none⟩)) ∧ TakenAt g p q A e k v w w')) :=
    Lib.hid fun k v W hW => by rw [hL]; exact (chainRing_is W hW.2.2.held.chain hq hpq).mono fun e1 w' hh => ⟨hh.1, (hW.2.2.step hh.2).held.q0, (hW.2.2.step hh.2).held.q1, hW.2.2.step hh.2⟩
  rw [← hL] at HST ⊢
  clear h hg hL
  have z := HCL.out _ HST.out.held
  have HSD : (((w.alloc (.cells #[.pointer (some ⟨A 0, 0, none⟩), .pointer (some ⟨L, 0, none⟩)] 67)).alloc (.cells #[.string ⟨#[]⟩, .string ⟨#[]⟩] 84)).alloc (.cells #[] 4)).drew.cell? ⟨w.heap.size, 0, none⟩ = some (.pointer (some ⟨A 0, 0, none⟩)) ∧ (((w.alloc (.cells #[.pointer (some ⟨A 0, 0, none⟩), .pointer (some ⟨L, 0, none⟩)] 67)).alloc (.cells #[.string ⟨#[]⟩, .string ⟨#[]⟩] 84)).alloc (.cells #[] 4)).drew.cell? ⟨w.heap.size, 1, none⟩ = some (.pointer (some ⟨L, 0, none⟩)) ∧ TakenAt g p q A e 0 (.slice (some ⟨w.heap.size + 1 + 1, 0, none⟩) 0 0) w (((w.alloc (.cells #[.pointer (some ⟨A 0, 0, none⟩), .pointer (some ⟨L, 0, none⟩)] 67)).alloc (.cells #[.string ⟨#[]⟩, .string ⟨#[]⟩] 84)).alloc (.cells #[] 4)).drew := ⟨z.1, z.2, HST.out.step (Below.refl _ _).drew⟩
  have HT0 := Lib.hid (HT.out 0 (.slice (some ⟨w.heap.size + 1 + 1, 0, none⟩) 0 0))
  have HR0 := Lib.hid (HRI.out 0 (.slice (some ⟨w.heap.size + 1 + 1, 0, none⟩) 0 0))
  have hsum : IntKind.i64.wrap ((p : Int) + (q : Int)) = ((p + q : Nat) : Int) := by rw [IntWalk.i64_in _ (by omega)]; omega
  clear z HST
  go_enter Try.func74, Try.ntmps74
  go_wp2
  go_region_held3 (fun w' => w'.cell? ⟨w.heap.size, 0, none⟩ = some (.pointer (some ⟨A 0, 0, none⟩)) ∧ w'.cell? ⟨w.heap.size, 1, none⟩ = some (.pointer (some ⟨L, 0, none⟩)) ∧ TakenAt g p q A e 0 (.slice (some ⟨w.heap.size + 1 + 1, 0, none⟩) 0 0) w w') (first | assumption | (constructor <;> assumption))
    (first
      | (go_at_call 95; (with_reducible refine (HT0.out _ ?_).mono ?_); assumption; rintro e1 w5 ⟨rfl, hb5⟩)
      | (go_at_call 96; (with_reducible refine (HR0.out _ ?_).mono ?_); assumption; rintro e1 w5 ⟨rfl, hb5⟩))
  have HA := Lib.hid hb5.2.2
  clear HSD HT0 HR0 hb5
  rename_i hHeld
  clear hHeld
  go_wp2
  go_loopw [5, 6, 16] (fun v at' i wr => ∃ k : Nat, i = .int .i64 k ∧ k ≤ p + q ∧ at' = .pointer (some ⟨A (placeM p q k), 0, none⟩) ∧ TakenAt g p q A e k v w wr) (fun _ _ i _ => p + q - (intOf i).toNat)
  case atStart => exact ⟨0, rfl, Nat.zero_le _, by rw [placeM_zero hq], HA.out⟩
  case round =>
    obtain ⟨k, rfl, hk, rfl, hl⟩ := hrel
    obtain ⟨a, c, rfl⟩ := own_form hl.own
    by_cases hlt : k < p + q
    · have hpl : placeM p q k = k := placeM_self hlt
      have z0 := hl.held.chain.set k hlt
      have z1 := chain_next hl.held.chain hq k
      rw [hpl] at z1 ⊢
      have hown := hl.own
      have hsz := hl.size
      obtain ⟨B, hB⟩ : ∃ B, B = endF g e k := ⟨_, rfl⟩
      have hbit := endF_bits g e k (HG.out k) he
      rw [← hB] at hbit
      obtain ⟨X, hX⟩ : ∃ X, X = A (placeM p q (k + 1)) := ⟨_, rfl⟩
      rw [← hX] at z1
      have HX := Lib.hid hX
      have HBB := Lib.hid hB
      have HL := Lib.hid hl
      have hltI : (k : Int) < (p : Int) + (q : Int) := by omega
      clear hl hpl hX hB
      go_wp2_with
        (at_builtin; refine wpList_append_own _ rfl _ _ 73 rfl (w.heap.size + 1 + 1) 4 i0 (.bool false) 1 1 Try.underlying73 hi hz0 hz1 hz2 rfl (by decide) _ _ _ rfl (hown.alloc _) ⟨wr.heap.size, 0, none⟩ 1 1 [.bool B] rfl rfl ?c1 ?c2 ?c3 ?c4 ?c5 ?_)
      case c1 =>
        intro j u hj
        match j, hj with
        | 0, hj => simp at hj; subst hj; simp [Addr.add]
      case c2 => intro u hu; simp at hu; subst hu; rfl
      case c3 => unfold maxLen; omega
      case c4 => omega
      case c5 => simp; omega
      intro v' w1 hown' hgrow _
      have HN := Lib.hid (HL.out.next HALT.out (by rw [← HBB.out]; exact hown') hgrow)
      have y1 := chain_next HN.out.held.chain hq k
      have y2 : placeM p q k = k := placeM_self hlt
      rw [y2, ← HX.out] at y1
      clear hown' hgrow hown y2 z0 z1
      go_wp2
      go_roundw
      case rel => exact ⟨k + 1, by go_num, by omega, by rw [← HX.out], HN.out⟩
      case measure => simp [intOf]; omega
    · obtain rfl : k = p + q := by omega
      obtain ⟨X, hX⟩ : ∃ X : ByteArray, X = ⟨(signsOf (part (endF g e) 0 (p + q))).toArray⟩ := ⟨_, rfl⟩
      have hcall := signsText_any a (p + q) c (part (endF g e) 0 (p + q)) wr (reads_own2 hl.own (part_length _ _ _)) (by omega)
      rw [← hX] at hcall
      have hXs : X.size = p + q := by rw [hX]; show (signsOf (part (endF g e) 0 (p + q))).length = _; rw [signsOf_length, part_length]
      have HXX := Lib.hid hX
      have HXS := Lib.hid hXs
      have HL := Lib.hid hl
      have hpX : (p : Int) ≤ (X.size : Int) := by omega
      have hp0 : p ≤ X.size := by omega
      clear hl hX hXs
      go_wp2_with fail
      refine hcall.mono ?_
      rintro e1 w6 ⟨rfl, hb6⟩
      have HL6 := Lib.hid (HL.out.step hb6)
      have z := HCL.out _ HL6.out.held
      have HSD : w6.drew.cell? ⟨w.heap.size, 0, none⟩ = some (.pointer (some ⟨A 0, 0, none⟩)) ∧ w6.drew.cell? ⟨w.heap.size, 1, none⟩ = some (.pointer (some ⟨L, 0, none⟩)) ∧ TakenAt g p q A e (p + q) (.slice a (p + q) c) w w6.drew := ⟨z.1, z.2, HL6.out.step (Below.refl _ _).drew⟩
      clear hb6 hcall
      obtain ⟨z0, z1⟩ := z
      go_wp2
      go_region_with (go_at_call 95; (with_reducible refine (HT.out (p + q) (.slice a (p + q) c) _ ?_).mono ?_); (first | exact HN5.out | exact HSD); rintro e1 w5 ⟨rfl, hb5⟩; have HN5 := Lib.hid hb5; have y0 := hb5.1; have y1 := hb5.2.1; obtain ⟨r0, r1, r2, r3⟩ := hb5.2.2.resCells; clear hb5)
      all_goals
        have HF := Lib.hid (HN5.out.2.2.stored (.string (X.extract 0 p)) (.string (X.extract p X.size)))
        generalize ((w5.setCell ⟨w.heap.size + 1, 0, none⟩ (.string (X.extract 0 p))).setCell ⟨w.heap.size + 1, 1, none⟩ (.string (X.extract p X.size))) = w9 at HF ⊢
        obtain ⟨d1, d2, d3⟩ := HF.out
        go_wp2
        exact bodyPost_ret (v := .agg #[.string (X.extract 0 p), .string (X.extract p X.size)]) (by simp [results, Try.results74, go_sem, d1, d2]) rfl ⟨_, _, rfl, (parts_of HXX.out).1, (parts_of HXX.out).2, d3⟩

end Go.Proofs.Ytiphooodijbhiaa
