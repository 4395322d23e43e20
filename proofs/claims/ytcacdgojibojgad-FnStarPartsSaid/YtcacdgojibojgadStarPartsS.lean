/-
  The walk of the model's StarParts.
-/
import Derived.Test.YtcacdgojibojgadStarS
import Derived.Test.YtcacdgojibojgadPartsMath
import Derived.Deep.AppendLies
set_option linter.unusedVariables false
set_option linter.unusedSimpArgs false
namespace Go.Proofs.Ytcacdgojibojgad
open Go.RowKit

/-- A block of truths is no row of integers. -/
theorem BRow.notInts {w : World} {g N base n : Nat} {c : Nat → Bool} {v : Value} {xs : List Value} (h : BRow w g N c) (ho : w.ownsRow base 3 1 v n xs) : v.ownBlock ≠ some g := by
  intro e
  obtain ⟨cur, h1, _⟩ := h
  rcases ho.2 with ⟨hv, _⟩ | ⟨b, cap, cur', hv, _, hh, _⟩
  · rw [hv] at e; cases e
  · rw [hv] at e
    have e2 : b = g := by simpa [Value.ownBlock] using e
    rw [e2, h1] at hh
    simp at hh
theorem BRow.grown {w w1 : World} {g N : Nat} {c : Nat → Bool} {row : Option Nat} (h : BRow w g N c) (hg : w.grownBy w1 row) (hr : row ≠ some g) : BRow w1 g N c := by
  have hl := h.lt
  obtain ⟨cur, h1, h2, h3⟩ := h
  exact ⟨cur, (hg.block g hl (fun e => hr e.symm)).trans h1, h2, h3⟩

/-- Is x a sum of one of the first numbers and another one, both greater than 0? -/
noncomputable def pairTo (f : Nat → Bool) (x i : Nat) : Bool := someF (fun y => starB f y && starB f (x - y)) 1 i
theorem pairTo_next {f : Nat → Bool} {x i : Nat} {b c : Bool} (h : pairTo f x i = b) (h2 : (starB f (1 + i) && starB f (x - (1 + i))) = c) : pairTo f x (i + 1) = (b || c) := by
  unfold pairTo at *
  rw [show someF (fun y => starB f y && starB f (x - y)) 1 (i + 1) = (someF (fun y => starB f y && starB f (x - y)) 1 i || (starB f (1 + i) && starB f (x - (1 + i)))) from rfl, h, h2]
theorem pair_gen {f : Nat → Bool} {x : Nat} (hx : 0 < x) : genB f x = (f x && !pairTo f x (x - 1)) := by
  apply bool_iff
  rw [genB_iff, gen_iff, Bool.and_eq_true, Bool.not_eq_true']
  refine and_congr_right fun hf => ?_
  constructor
  · rintro ⟨_, h⟩
    cases e : pairTo f x (x - 1)
    · rfl
    · unfold pairTo at e
      obtain ⟨i, hi, h2⟩ := (someF_iff _ _ _).1 e
      rw [Bool.and_eq_true, starB_iff, starB_iff] at h2
      exact absurd ⟨1 + i, by omega, by omega, h2.1, h2.2⟩ h
  · intro h
    refine ⟨hx, ?_⟩
    rintro ⟨y, h1, h2, h3, h4⟩
    have : pairTo f x (x - 1) = true := (someF_iff _ _ _).2 ⟨y - 1, by omega, by
      rw [show 1 + (y - 1) = y from by omega, Bool.and_eq_true, starB_iff, starB_iff]; exact ⟨h3, h4⟩⟩
    rw [this] at h; cases h

theorem heap_lt {w : World} {P : Nat} {o : Obj} (h : w.heap[P]? = some o) : P < w.heap.size := by
  rcases Nat.lt_or_ge P w.heap.size with k | k
  · exact k
  · rw [Array.getElem?_eq_none k] at h; cases h
/-- A slice stays where no block but an empty one has turned. -/
theorem Reads.away {W0 wr : World} {a : Option Addr} {n b0 : Nat} {bs : List Bool} (h : Reads W0 a n bs) (h0 : W0.heap[b0]? = some (.cells #[] 3 (0, 0))) (hk : ∀ k, k < W0.heap.size → k ≠ b0 → wr.heap[k]? = W0.heap[k]?) (hs : W0.heap.size ≤ wr.heap.size) : Reads wr a n bs := by
  refine ⟨h.len, ?_⟩
  rcases h.cells with h2 | ⟨g, o, ha, hg, hc⟩
  · exact .inl h2
  · refine .inr ⟨g, o, ha, by omega, fun i hi => ?_⟩
    have e := hc i hi
    have hne : g ≠ b0 := fun x => by
      subst x
      rw [cell_of_row W0 _ _ _ _ _ h0] at e
      simp at e
    exact (World.cell?_of_block (w := W0) (a := ⟨g, o + i, none⟩) (hk g hg hne)).trans e

/-- The world of the loops. -/
structure PLoop (f : Nat → Bool) (W0 : World) (G x : Nat) (w wr : World) (pv : Value) : Prop where
  away : ∀ k, k < W0.heap.size → k ≠ w.heap.size → wr.heap[k]? = W0.heap[k]?
  size : W0.heap.size ≤ wr.heap.size
  row : BRow wr G 300 (starB f)
  own : wr.ownsRow w.heap.size 3 1 pv (partsM f x).length (ints (partsM f x))
  lies : ∀ b, pv.ownBlock = some b → b = w.heap.size ∨ W0.heap.size ≤ b
  less : ∀ p, p ∈ parts f x → p ≤ 59
  below : Below w.heap.size w wr
theorem PLoop.cells {f : Nat → Bool} {W0 : World} {u1 u2 : Value} {P G x : Nat} {w wr : World} {pv : Value} (h : PLoop f W0 G x w wr pv) (hP : W0.heap[P]? = some (.cells #[u1, u2] 56 (0, 0))) (hn : P ≠ w.heap.size) : wr.cell? ⟨P, 0, none⟩ = some u1 ∧ wr.cell? ⟨P, 1, none⟩ = some u2 := by
  have hb := (h.away P (heap_lt hP) hn).trans hP
  exact ⟨by rw [cell_of_row wr _ _ _ _ _ hb]; rfl, by rw [cell_of_row wr _ _ _ _ _ hb]; rfl⟩
theorem PLoop.small {f : Nat → Bool} {W0 : World} {a1 a2 : Option Addr} {n1 n2 G x : Nat} {w wr : World} {pv : Value} (h : PLoop f W0 G x w wr pv) (hA : SmallIn W0 f a1 n1 a2 n2) (h0 : W0.heap[w.heap.size]? = some (.cells #[] 3 (0, 0))) : SmallIn wr f a1 n1 a2 n2 :=
  ⟨hA.tidy, hA.tail.away h0 h.away h.size, hA.ring.away h0 h.away h.size, hA.le1, hA.le2⟩
theorem PLoop.step {f : Nat → Bool} {W0 : World} {G x : Nat} {w wr w' : World} {pv : Value} (h : PLoop f W0 G x w wr pv) (hb : Below wr.heap.size wr w') : PLoop f W0 G x w w' pv :=
  ⟨fun k h1 h2 => (hb.block k (by have := h.size; omega)).trans (h.away k h1 h2), Nat.le_trans h.size hb.size, h.row.step hb, own_below h.own hb (Nat.le_refl _), h.lies, h.less, h.below.trans (hb.mono h.below.size)⟩
theorem PLoop.skip {f : Nat → Bool} {W0 : World} {G x : Nat} {w wr : World} {pv : Value} (h : PLoop f W0 G x w wr pv) (hg : genB f x = false) : PLoop f W0 G (x + 1) w wr pv :=
  ⟨h.away, h.size, h.row, by rw [partsM_miss hg]; exact h.own, h.lies, fun p hp => h.less p (by rw [parts_succ, hg] at hp; simpa using hp), h.below⟩
theorem PLoop.grow {f : Nat → Bool} {W0 : World} {G x g cap : Nat} {w wr w1 : World} {u : Value} {o : Obj} (h : PLoop f W0 G x w wr u)
    (hown : w1.ownsRow w.heap.size 3 1 (.slice (some ⟨g, 0, none⟩) ((partsM f x).length + 1) cap) ((partsM f x).length + 1) (ints (partsM f x) ++ [.int .i64 x])) (hgrow : (wr.alloc o).grownBy w1 u.ownBlock) (hat : u.ownBlock = some g ∨ g = wr.heap.size + 1) (hg : genB f x = true) :
    (∀ (hx : x ≤ 59), PLoop f W0 G (x + 1) w w1 (.slice (some ⟨g, 0, none⟩) ((partsM f x).length + 1) cap)) ∧ Below w.heap.size w w1 := by
  have hsz := h.size
  have ha : Below wr.heap.size wr (wr.alloc o) := (Below.refl _ _).alloc (Nat.le_refl _) o
  have hr := (h.row.step ha).grown hgrow (h.row.notInts h.own)
  have hb : Below w.heap.size w w1 := (h.below.trans (ha.mono h.below.size)).grown hgrow (by have := h.below.size; simp; omega) (fun j hj => (h.own.lt j hj).1)
  refine ⟨fun hx => ⟨fun k h1 h2 => ?_, by have := hgrow.size; simp at this; omega, hr, by rw [partsM_hit hg, intsM_more, List.length_append]; exact hown, fun b e => ?_, fun p hp => ?_, hb⟩, hb⟩
  · refine (hgrow.block k (by simp; omega) (fun e => ?_)).trans ((ha.block k (by omega)).trans (h.away k h1 h2))
    rcases h.lies k e.symm with e2 | e2 <;> omega
  · have e2 : g = b := by simpa [Value.ownBlock] using e
    subst e2
    rcases hat with e3 | e3
    · exact h.lies g e3
    · right; omega
  · rw [parts_succ, hg, if_pos rfl, List.mem_append] at hp
    rcases hp with hp | hp
    · exact h.less p hp
    · rw [List.mem_singleton.1 hp]; exact hx

theorem pLoop_start {f : Nat → Bool} {u1 u2 : Value} {G : Nat} {w w1 w2 : World} (hb : Below (w.alloc (.cells #[] 3)).heap.size (w.alloc (.cells #[] 3)) w1)
    (hb2 : Below (w1.alloc (.cells #[u1, u2] 56)).heap.size (w1.alloc (.cells #[u1, u2] 56)) w2) (hr : BRow w2 G 300 (starB f)) :
    PLoop f (w1.alloc (.cells #[u1, u2] 56)) G 1 w w2 (.slice (some ⟨w.heap.size, 0, none⟩) 0 0) ∧ (w1.alloc (.cells #[u1, u2] 56)).heap[w1.heap.size]? = some (.cells #[u1, u2] 56 (0, 0)) ∧ w1.heap.size ≠ w.heap.size ∧
      (w1.alloc (.cells #[u1, u2] 56)).heap[w.heap.size]? = some (.cells #[] 3 (0, 0)) := by
  have h0 : parts f 1 = [] := by rw [parts_succ, parts_zero, show genB f 0 = false from gen_zero f]; rfl
  have hs := hb.size
  simp at hs
  have hown := World.ownsRow_made (base := w.heap.size) (e := 3) (size := 1) w #[] 0 (Nat.le_refl _) (by decide) rfl
  have hbb : Below (w.alloc (.cells #[] 3)).heap.size (w.alloc (.cells #[] 3)) w2 := (hb.alloc hb.size _).trans (hb2.mono (by simp; omega))
  refine ⟨⟨fun k h1 _ => hb2.block k h1, hb2.size, hr, ?_, fun b e => .inl (by simpa [Value.ownBlock] using e.symm), fun p hp => by rw [h0] at hp; exact absurd hp (by simp), ((Below.refl _ _).alloc (Nat.le_refl _) _).trans (hbb.mono (by simp))⟩, heap_alloc_new w1 _, by omega, ?_⟩
  · have e1 : partsM f 1 = [] := by unfold partsM; rw [h0]; rfl
    rw [e1]
    exact own_below hown hbb (Nat.le_refl _)
  · have e := (hb.alloc hb.size (.cells #[u1, u2] 56)).block w.heap.size (by simp)
    exact e.trans (heap_alloc_new w _)

theorem partsEnd_kept {s : ByteArray} {w w1 : World} (h : partsOk s = false) (hb : Below (w.alloc (.cells #[] 3)).heap.size (w.alloc (.cells #[] 3)) w1) (o : Obj) :
    PartsEnd s w (.returned (.tuple #[.slice (some ⟨w.heap.size, 0, none⟩) 0 0, .bool false])) (w1.alloc o) := by
  have hbb := hb.alloc hb.size o
  refine ⟨some ⟨w.heap.size, 0, none⟩, 0, by rw [h, partsV_off h]; rfl, ((Below.refl _ _).alloc (Nat.le_refl _) _).trans (hbb.mono (by simp)), ?_⟩
  rw [partsV_off h]
  exact own_below (World.ownsRow_made (base := w.heap.size) (e := 3) (size := 1) w #[] 0 (Nat.le_refl _) (by decide) rfl) hbb (Nat.le_refl _)

set_option maxRecDepth 100000 in
set_option maxHeartbeats 3000000 in
theorem specParts_on (s : ByteArray) (w : World) (hs : s.size ≤ 1048576) (h1 : smallS s = true) :
    Calls Try.prog 37 #[.string s] w (PartsEnd s w) := by
  obtain ⟨j0, hj, hy0, hy1, hy2⟩ := info_parts Try.infoInt
  have H1 := Lib.hid h1
  have HS := Lib.hid (smallS_iff.1 h1).2
  go_enter Try.func37, Try.ntmps37
  go_wp2_with fail
  refine (l4Small_any s _ hs).mono ?_
  rintro e w1 ⟨a1, n1, c1, a2, n2, c2, rfl, hb, hA⟩
  have HB1 := Lib.hid hb
  have HA := Lib.hid ((hA h1).alloc (.cells #[.slice a1 n1 c1, .slice a2 n2 c2] 56))
  clear hb hA
  rw [h1]
  clear h1
  go_wp2_with fail
  refine (l4Star_any (fS s) a1 n1 c1 a2 n2 c2 300 _ HA.out (by decide)).mono ?_
  rintro e w2 ⟨G, rfl, hG, hrow, hb2⟩
  obtain ⟨hl0, hx1, hx2, hx3⟩ := pLoop_start (f := fS s) (u1 := .slice a1 n1 c1) (u2 := .slice a2 n2 c2) HB1.out hb2 hrow
  have HL0 := Lib.hid hl0
  have HX1 := Lib.hid hx1
  have HX2 := Lib.hid hx2
  have HX3 := Lib.hid hx3
  clear hrow hG hb2 hl0 hx1 hx2 hx3
  go_wp2
  generalize hW0 : w1.alloc (.cells #[.slice a1 n1 c1, .slice a2 n2 c2] 56) = W0 at HA HL0 HX1 HX3
  clear hW0
  go_loopw [4, 8] (fun pv xi wr => ∃ x : Nat, 1 ≤ x ∧ x ≤ 300 ∧ xi = .int .i64 x ∧ PLoop (fS s) W0 G x w wr pv) (fun _ i _ => 300 - (intOf i).toNat)
  case atStart => exact ⟨1, by decide, by decide, rfl, HL0.out⟩
  case round =>
    obtain ⟨x, hx1, hx, rfl, hl⟩ := hrel
    obtain ⟨pa, pc, rfl⟩ := own_form hl.own
    obtain ⟨q0, q1⟩ := hl.cells HX1.out HX2.out
    have HL := Lib.hid hl
    clear hl
    by_cases hlt : x < 300
    · have HSM := Lib.hid (HL.out.small HA.out HX3.out)
      have HC := Lib.hid (fun n (hn : n < 300) => HL.out.row.cell (i := n) hn)
      go_wp2
      go_loop [9, 10] (fun sv yi => ∃ i : Nat, i ≤ x - 1 ∧ yi = .int .i64 ((i + 1 : Nat) : Int) ∧ sv = .bool (pairTo (fS s) x i)) (fun _ yi => x - (intOf yi).toNat)
      case atStart => exact ⟨0, Nat.zero_le _, rfl, rfl⟩
      case round =>
        obtain ⟨i, hi, rfl, rfl⟩ := hrel
        by_cases hix : i + 1 < x
        · have hixi : (i : Int) + 1 < (x : Int) := by omega
          cases hp : pairTo (fS s) x i
          · have c0 := HC.out (1 + i) (by omega)
            rw [show 1 + i = i + 1 from by omega] at c0
            cases hv : starB (fS s) (i + 1)
            · rw [hv] at c0
              have HN := Lib.hid (pairTo_next hp (show (starB (fS s) (1 + i) && starB (fS s) (x - (1 + i))) = false by rw [show 1 + i = i + 1 from by omega, hv]; rfl))
              clear hv hp
              go_wp2
              go_round
              case rel => exact ⟨i + 1, by omega, by go_num, by rw [HN.out]; rfl⟩
              case measure => simp [intOf]; omega
            · rw [hv] at c0
              obtain ⟨y, hy⟩ : ∃ y, y = x - (i + 1) := ⟨_, rfl⟩
              have hyi : (x : Int) - ((i : Int) + 1) = (y : Int) := by omega
              have hy3 : y < 300 := by omega
              have c3 := HC.out y hy3
              obtain ⟨b, hb⟩ : ∃ b, starB (fS s) y = b := ⟨_, rfl⟩
              rw [hb] at c3
              have HN := Lib.hid (pairTo_next hp (show (starB (fS s) (1 + i) && starB (fS s) (x - (1 + i))) = b by rw [show 1 + i = i + 1 from by omega, hv, ← hy, hb]; rfl))
              clear hv hp hb hy
              go_wp2
              go_round
              case rel => exact ⟨i + 1, by omega, by go_num, by rw [HN.out]; rfl⟩
              case measure => simp [intOf]; omega
          · have HN : Hid (pairTo (fS s) x (i + 1) = true) := Lib.hid (pairTo_next hp rfl)
            clear hp
            go_wp2
            go_round
            case rel => exact ⟨i + 1, by omega, by go_num, by rw [HN.out]⟩
            case measure => simp [intOf]; omega
        · obtain rfl : x = i + 1 := by omega
          have hcall := small_has (c1 := c1) (c2 := c2) (i + 1) HSM.out (by omega)
          have HGen := Lib.hid (pair_gen (f := fS s) (x := i + 1) (by omega))
          have hnlt : ¬ (i : Int) + 1 < (i : Int) + 1 := by omega
          have hlen := partsM_len (fS s) (i + 1)
          cases hf : fS s (i + 1)
          · rw [hf] at hcall
            have HG1 : Hid (genB (fS s) (i + 1) = false) := Lib.hid (by rw [HGen.out, hf]; rfl)
            clear hf
            cases hp : pairTo (fS s) (i + 1) i
            all_goals
              clear hp
              go_wp2_with fail
              refine hcall.mono ?_
              rintro e w3 ⟨rfl, hb3⟩
              have HN := Lib.hid ((HL.out.step hb3).skip HG1.out)
              clear hb3
              go_wp2
              go_roundw
              case rel => exact ⟨i + 1 + 1, by omega, by omega, by go_num, HN.out⟩
              case measure => simp [intOf]; omega
          · rw [hf] at hcall
            cases hp : pairTo (fS s) (i + 1) i
            · have HG1 : Hid (genB (fS s) (i + 1) = true) := Lib.hid (by rw [HGen.out, hf, show i + 1 - 1 = i from by omega, hp]; rfl)
              clear hf hp
              go_wp2_with fail
              refine hcall.mono ?_
              rintro e w3 ⟨rfl, hb3⟩
              have HL3 := Lib.hid (HL.out.step hb3)
              have hsz3 := HL3.out.below.size
              clear hb3 hcall
              by_cases h59 : i + 1 ≤ 59
              · have hi59 : ¬ (59 : Int) < (i : Int) + 1 := by omega
                go_wp2_with
                  (at_builtin; refine wpList_append_lies _ rfl _ _ 33 rfl w.heap.size 3 j0 (.int .i64 0) 1 8 Try.underlying33 hj hy0 hy1 hy2 rfl (by decide) _ _ _ rfl (HL3.out.own.alloc _) ⟨w3.heap.size, 0, none⟩ 1 1 [.int .i64 ((i : Int) + 1)] rfl rfl ?c1 ?c2 ?c3 ?c4 ?c5 ?c6 (w3.heap.size + 1) (by simp) ?_)
                case c1 =>
                  intro j u hj
                  match j, hj with
                  | 0, hj => simp at hj; subst hj; simp [Addr.add]
                case c2 => intro u hu; simp at hu; subst hu; rfl
                case c3 => decide
                case c4 => unfold maxLen; omega
                case c5 => omega
                case c6 => simp; omega
                intro g cap w5 hown5 hgrow hat _
                have HN := Lib.hid ((HL3.out.grow hown5 hgrow hat HG1.out).1 h59)
                have HLen : Hid ((partsM (fS s) (i + 1)).length + 1 = (partsM (fS s) (i + 1 + 1)).length) := Lib.hid (by rw [partsM_hit HG1.out, List.length_append]; rfl)
                clear hown5 hgrow hat
                go_wp2
                go_roundw
                case rel => exact ⟨i + 1 + 1, by omega, by omega, by go_num, HN.out⟩
                case measure => simp [intOf]; omega
              · have hi59 : (59 : Int) < (i : Int) + 1 := by omega
                go_wp2_with
                  (at_builtin; refine wpList_append_lies _ rfl _ _ 33 rfl w.heap.size 3 j0 (.int .i64 0) 1 8 Try.underlying33 hj hy0 hy1 hy2 rfl (by decide) _ _ _ rfl (HL3.out.own.alloc _) ⟨w3.heap.size, 0, none⟩ 1 1 [.int .i64 ((i : Int) + 1)] rfl rfl ?d1 ?d2 ?d3 ?d4 ?d5 ?d6 (w3.heap.size + 1) (by simp) ?_)
                case d1 =>
                  intro j u hj
                  match j, hj with
                  | 0, hj => simp at hj; subst hj; simp [Addr.add]
                case d2 => intro u hu; simp at hu; subst hu; rfl
                case d3 => decide
                case d4 => unfold maxLen; omega
                case d5 => omega
                case d6 => simp; omega
                intro g cap w5 hown5 hgrow hat _
                have HB5 := Lib.hid (HL3.out.grow hown5 hgrow hat HG1.out).2
                have HX := Lib.hid (partsOk_great (genB_iff.1 HG1.out) (by omega) (by omega))
                clear hown5 hgrow hat
                go_wp2
                go_ret2
                exact partsEnd_off HX.out HB5.out rfl
            · have HG1 : Hid (genB (fS s) (i + 1) = false) := Lib.hid (by rw [HGen.out, hf, show i + 1 - 1 = i from by omega, hp]; rfl)
              clear hf hp
              go_wp2_with fail
              refine hcall.mono ?_
              rintro e w3 ⟨rfl, hb3⟩
              have HN := Lib.hid ((HL.out.step hb3).skip HG1.out)
              clear hb3
              go_wp2
              go_roundw
              case rel => exact ⟨i + 1 + 1, by omega, by omega, by go_num, HN.out⟩
              case measure => simp [intOf]; omega
    · obtain rfl : x = 300 := by omega
      have HX := Lib.hid (partsOk_all H1.out (fun p hp => HL.out.less p (by rw [parts_all HS.out (k := 300) (j := 2001) (by decide) (by decide)]; exact hp)))
      have HP : Hid (partsV s = partsM (fS s) 300) := Lib.hid (by rw [partsV_on HX.out, parts_all HS.out (k := 2001) (j := 300) (by decide) (by decide)]; rfl)
      go_wp2
      go_ret2
      refine ⟨pa, pc, ?_, HL.out.below, ?_⟩
      · rw [HX.out, HP.out]; rfl
      · rw [HP.out]; exact HL.out.own

set_option maxHeartbeats 400000 in
theorem specParts (s : ByteArray) (w : World) (hs : s.size ≤ 1048576) :
    Calls Try.prog 37 #[.string s] w (PartsEnd s w) := by
  cases h1 : smallS s
  · have H1 := Lib.hid (partsOk_off h1)
    go_enter Try.func37, Try.ntmps37
    go_wp2_with fail
    refine (l4Small_any s _ hs).mono ?_
    rintro e w1 ⟨a1, n1, c1, a2, n2, c2, rfl, hb, hA⟩
    have HB1 := Lib.hid hb
    clear hb hA
    rw [h1]
    clear h1
    go_wp2
    go_ret2
    exact partsEnd_kept H1.out HB1.out _
  · exact specParts_on s w hs h1

end Go.Proofs.Ytcacdgojibojgad
