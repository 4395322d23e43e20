/-
  The walks of equationOf, SolveLeast and SolveMost, of the program.
-/
import Derived.Test.YtiphooodijbhiabEquMath
import Derived.Test.YtiphooodijbhiabStarTextI
import Derived.Test.YtiphooodijbhiabSumOfAny
set_option linter.unusedVariables false
set_option linter.unusedSimpArgs false
namespace Go.Proofs.Ytiphooodijbhiab
open Go.RowKit

theorem makeIs_sizeI {ok : Bool} {f : Nat → Bool} {T : ByteArray} {b : Bool} (h : MakeIs ok f T b) : T.size ≤ 1048576 := by
  cases b
  · have : T = ⟨#[]⟩ := by
      cases ok
      · exact (h.2 rfl).1
      · rcases h.1 rfl with ⟨e, _⟩ | ⟨_, e, _⟩
        · cases e
        · exact e
    rw [this]; decide
  · have := set_size (makeIs_told h).2.told.ok
    have h1 := setT_le (makeIs_told h).2.told.ok
    have h2 := setR_le (makeIs_told h).2.told.ok
    omega

def EquEnd (s t : ByteArray) (e : Ending) : Prop := ∃ T R T2 R2, e = .returned (.tuple #[.agg #[.string T, .string R, .string T2, .string R2], .bool (smallS s && smallS t)]) ∧
  (smallS s = true → smallS t = true → SmallParts (fS s) T R ∧ SmallParts (fS t) T2 R2)

/-- The result's cell, and the first box, later. -/
theorem equ_cells {w w1 w3 : World} {a b c d u v : Value} {T T2 : TypeId} (h1 : Below (w.alloc (.cells #[a, b, c, d] T)).heap.size (w.alloc (.cells #[a, b, c, d] T)) w1) (h3 : Below (w1.alloc (.cells #[u, v] T2)).heap.size (w1.alloc (.cells #[u, v] T2)) w3) :
    w3.heap[w.heap.size]? = some (.cells #[a, b, c, d] T (0, 0)) ∧ (∀ i, w3.frozen? ⟨w.heap.size, i, none⟩ = false) ∧ True ∧ True ∧ w3.cell? ⟨w1.heap.size, 0, none⟩ = some u ∧ w3.cell? ⟨w1.heap.size, 1, none⟩ = some v ∧ Below w.heap.size w w3 := by
  have hs1 := h1.size
  rw [World.size_alloc] at hs1
  have h4 : Below (w.alloc (.cells #[a, b, c, d] T)).heap.size (w.alloc (.cells #[a, b, c, d] T)) w3 := (h1.alloc h1.size (.cells #[u, v] T2)).trans (h3.mono (by rw [World.size_alloc, World.size_alloc]; omega))
  have h5 : w3.heap[w.heap.size]? = some (.cells #[a, b, c, d] T (0, 0)) := (h4.block w.heap.size (by rw [World.size_alloc]; omega)).trans (heap_alloc_new w _)
  obtain ⟨x0, x1⟩ := box_later h3
  refine ⟨h5, fun i => frozen_of_row w3 _ _ _ _ h5, trivial, trivial, x0, x1, ?_⟩
  exact ((Below.refl w.heap.size w).alloc (Nat.le_refl _) _).trans (h4.mono (by rw [World.size_alloc]; omega))

theorem equ_set {w W : World} {g : Nat} {T : TypeId} {a b c d : Value} (h : W.heap[g]? = some (.cells #[a, b, c, d] T (0, 0))) (hb : Below w.heap.size w W) (hg : w.heap.size ≤ g) (x y z u : Value) :
    Below w.heap.size w ((((W.setCell ⟨g, 0, none⟩ x).setCell ⟨g, 1, none⟩ y).setCell ⟨g, 2, none⟩ z).setCell ⟨g, 3, none⟩ u) ∧
    ((((W.setCell ⟨g, 0, none⟩ x).setCell ⟨g, 1, none⟩ y).setCell ⟨g, 2, none⟩ z).setCell ⟨g, 3, none⟩ u).heap[g]? = some (.cells #[x, y, z, u] T (0, 0)) := by
  refine ⟨(((hb.setCell (p := ⟨g, 0, none⟩) hg x).setCell (p := ⟨g, 1, none⟩) hg y).setCell (p := ⟨g, 2, none⟩) hg z).setCell (p := ⟨g, 3, none⟩) hg u, ?_⟩
  have h1 := heap_setCell_same W g 0 _ _ x h
  have h2 := heap_setCell_same _ g 1 _ _ y h1
  have h3 := heap_setCell_same _ g 2 _ _ z h2
  have h4 := heap_setCell_same _ g 3 _ _ u h3
  exact h4
theorem equ_at {W : World} {g : Nat} {T : TypeId} {x y z u : Value} (h : W.heap[g]? = some (.cells #[x, y, z, u] T (0, 0))) :
    W.cell? ⟨g, 0, none⟩ = some x ∧ W.cell? ⟨g, 1, none⟩ = some y ∧ W.cell? ⟨g, 2, none⟩ = some z ∧ W.cell? ⟨g, 3, none⟩ = some u := by
  refine ⟨?_, ?_, ?_, ?_⟩ <;> (rw [cell_of_row W _ _ _ _ _ h]; rfl)

set_option maxHeartbeats 1000000 in
theorem equation_any (s t : ByteArray) (m : Int) (w : World) (hs : s.size ≤ 1048576) (ht : t.size ≤ 1048576) (hL : LibAt m w) :
    Calls Try.prog 66 #[.string s, .string t] w fun e w' => EquEnd s t e ∧ Below w.heap.size w w' := by
  go_enter Try.func66, Try.ntmps66
  have hb0 := (Below.refl w.heap.size w).alloc (Nat.le_refl _) (.cells #[.string ⟨#[]⟩, .string ⟨#[]⟩, .string ⟨#[]⟩, .string ⟨#[]⟩] 83)
  have hL0 := hL.below hb0
  go_wp2_with fail
  refine (smallSet_any s m _ hs hL0).mono ?_
  rintro e w1 ⟨⟨T, R, rfl, h1⟩, hb1⟩
  have hL1 := (hL0.below hb1).below ((Below.refl w1.heap.size w1).alloc (Nat.le_refl _) (.cells #[.string T, .string R] 81))
  have H1 := Lib.hid h1
  clear h1
  go_wp2_with fail
  refine (smallSet_any t m _ ht hL1).mono ?_
  rintro e w2 ⟨⟨T2, R2, rfl, h2⟩, hb2⟩
  have e4 := equ_cells hb1 (hb2.alloc hb2.size (.cells #[.string T2, .string R2] 81))
  obtain ⟨q0, q1, q2, q3, x0, x1, HB⟩ := e4
  have y0 := box_later (w1 := w2) (u := .string T2) (v := .string R2) (T := 81) (Below.refl _ _)
  obtain ⟨y0, y1⟩ := y0
  have HSet := Lib.hid (fun x y z u => equ_set q0 HB (Nat.le_refl _) x y z u)
  obtain ⟨z0, z1, z2, z3⟩ := equ_at q0
  have H2 := Lib.hid h2
  clear hb0 hb1 hb2 h2 hL hL0 hL1 HB q2 q3
  cases hp : smallS s
  · have HP := Lib.hid hp
    clear hp
    have HF := Lib.hid (HSet.out (.string ⟨#[]⟩) (.string ⟨#[]⟩) (.string ⟨#[]⟩) (.string ⟨#[]⟩))
    go_wp2
    generalize ((((w2.alloc _).setCell ⟨w.heap.size, 0, none⟩ _).setCell ⟨w.heap.size, 1, none⟩ _).setCell ⟨w.heap.size, 2, none⟩ _).setCell ⟨w.heap.size, 3, none⟩ _ = wF at HF ⊢
    obtain ⟨HBF, hF⟩ := HF.out
    obtain ⟨f0, f1, f2, f3⟩ := equ_at hF
    exact bodyPost_ret (v := .tuple #[.agg #[.string ⟨#[]⟩, .string ⟨#[]⟩, .string ⟨#[]⟩, .string ⟨#[]⟩], .bool false]) (by simp [results, Try.results66, go_sem, f0, f1, f2, f3]) rfl ⟨⟨_, _, _, _, by rw [HP.out]; rfl, fun h => by rw [HP.out] at h; cases h⟩, HBF⟩
  · cases hq : smallS t
    · have HP := Lib.hid hp
      have HQ := Lib.hid hq
      clear hp hq
      have HF := Lib.hid (HSet.out (.string ⟨#[]⟩) (.string ⟨#[]⟩) (.string ⟨#[]⟩) (.string ⟨#[]⟩))
      go_wp2
      generalize ((((w2.alloc _).setCell ⟨w.heap.size, 0, none⟩ _).setCell ⟨w.heap.size, 1, none⟩ _).setCell ⟨w.heap.size, 2, none⟩ _).setCell ⟨w.heap.size, 3, none⟩ _ = wF at HF ⊢
      obtain ⟨HBF, hF⟩ := HF.out
      obtain ⟨f0, f1, f2, f3⟩ := equ_at hF
      exact bodyPost_ret (v := .tuple #[.agg #[.string ⟨#[]⟩, .string ⟨#[]⟩, .string ⟨#[]⟩, .string ⟨#[]⟩], .bool false]) (by simp [results, Try.results66, go_sem, f0, f1, f2, f3]) rfl ⟨⟨_, _, _, _, by rw [HP.out, HQ.out]; rfl, fun _ h => by rw [HQ.out] at h; cases h⟩, HBF⟩
    · have HP := Lib.hid hp
      have HQ := Lib.hid hq
      clear hp hq
      have HF := Lib.hid (HSet.out (.string T) (.string R) (.string T2) (.string R2))
      go_wp2
      generalize ((((w2.alloc _).setCell ⟨w.heap.size, 0, none⟩ _).setCell ⟨w.heap.size, 1, none⟩ _).setCell ⟨w.heap.size, 2, none⟩ _).setCell ⟨w.heap.size, 3, none⟩ _ = wF at HF ⊢
      obtain ⟨HBF, hF⟩ := HF.out
      obtain ⟨f0, f1, f2, f3⟩ := equ_at hF
      exact bodyPost_ret (v := .tuple #[.agg #[.string T, .string R, .string T2, .string R2], .bool true]) (by simp [results, Try.results66, go_sem, f0, f1, f2, f3]) rfl ⟨⟨T, R, T2, R2, by rw [HP.out, HQ.out]; rfl, fun h1 h2 => ⟨H1.out h1, H2.out h2⟩⟩, HBF⟩

set_option maxHeartbeats 1000000 in
theorem implLeast (s t : ByteArray) (m : Int) (w : World) (hs : s.size ≤ 1048576) (ht : t.size ≤ 1048576) (hL : LibAt m w) :
    Calls Try.prog 22 #[.string s, .string t] w fun e w' => MakeEnd (leastOk s t) (lowF (fS s) (fS t)) e ∧ Below w.heap.size w w' := by
  go_enter Try.func22, Try.ntmps22
  go_wp2_with fail
  refine (implStar s m _ hs hL).mono ?_
  rintro e w1 ⟨⟨T, b, rfl, hm⟩, hb1⟩
  have hL1 := hL.below hb1
  have hsz := makeIs_sizeI hm
  have HM := Lib.hid hm
  clear hm
  go_wp2_with fail
  refine (implSum T t m _ hsz ht hL1).mono ?_
  rintro e w2 ⟨⟨U, c, rfl, hm2⟩, hb2⟩
  have HB2 := Lib.hid (below_step hb1 hb2)
  have HM2 := Lib.hid (least_is HM.out hm2)
  clear hb1 hb2 hm2 hL hL1
  go_wp2
  go_ret2
  exact ⟨⟨U, c, rfl, HM2.out⟩, HB2.out⟩

set_option maxHeartbeats 1000000 in
theorem implMost (s t : ByteArray) (m : Int) (w : World) (hs : s.size ≤ 1048576) (ht : t.size ≤ 1048576) (hL : LibAt m w) :
    Calls Try.prog 24 #[.string s, .string t] w fun e w' => MakeEnd (mostOk s t) (mostF (fS s) (fS t)) e ∧ Below w.heap.size w w' := by
  have HL := Lib.hid hL
  clear hL
  go_enter Try.func24, Try.ntmps24
  go_wp2_with fail
  refine (equation_any s t m _ hs ht HL.out).mono ?_
  rintro e w1 ⟨⟨T, R, T2, R2, rfl, h1⟩, hb1⟩
  have H1 := Lib.hid h1
  have HB1 := Lib.hid (hb1.alloc hb1.size (.cells #[.string T, .string R, .string T2, .string R2] 83))
  clear h1 hb1
  have low : (smallS s = true → smallS t = true → fS s 0 = false) → ∀ w1 : World, Below w.heap.size w w1 → Calls Try.prog 22 #[.string s, .string t] w1 fun e w' => MakeEnd (mostOk s t) (mostF (fS s) (fS t)) e ∧ Below w.heap.size w w' := fun h0 w1 hb => by
    refine (implLeast s t m w1 hs ht (HL.out.below hb)).mono ?_
    rintro e w2 ⟨⟨U, c, rfl, hm2⟩, hb2⟩
    exact ⟨⟨U, c, rfl, most_low h0 hm2⟩, below_step hb hb2⟩
  by_cases hb : smallS s = true ∧ smallS t = true
  · obtain ⟨hp, hq⟩ := hb
    have HP := Lib.hid (H1.out hp hq).1
    have HM := Lib.hid (most_all hp hq)
    rw [hp, hq]
    clear hp hq H1
    have hcall := fun W => tells_has HP.out.parts 0 W (by omega)
    cases h0 : fS s 0
    · rw [h0] at hcall
      have HLow := Lib.hid (low (fun _ _ => h0))
      clear h0 low
      go_wp2_with fail
      refine (hcall _).mono ?_
      rintro e w2 ⟨rfl, hb2⟩
      have HB2 := Lib.hid (below_step HB1.out hb2)
      clear hb2 hcall
      go_wp2_with fail
      refine (HLow.out _ HB2.out).mono ?_
      rintro e w3 ⟨⟨U, c, rfl, hm⟩, hb3⟩
      have HM3 := Lib.hid hm
      have HB3 := Lib.hid hb3
      clear hm hb3
      go_wp2
      go_ret2
      exact ⟨⟨U, c, rfl, HM3.out⟩, HB3.out⟩
    · rw [h0] at hcall
      have HM2 := Lib.hid (HM.out h0)
      clear h0 low
      go_wp2_with fail
      refine (hcall _).mono ?_
      rintro e w2 ⟨rfl, hb2⟩
      have HB2 := Lib.hid (below_step HB1.out hb2)
      clear hb2 hcall
      go_wp2
      go_ret2
      exact ⟨⟨_, _, rfl, HM2.out⟩, HB2.out⟩
  · have e : (smallS s && smallS t) = false := by
      cases k1 : smallS s
      · rfl
      · cases k2 : smallS t
        · rfl
        · exact absurd ⟨k1, k2⟩ hb
    rw [e]
    have HLow := Lib.hid (low (fun a b => absurd ⟨a, b⟩ hb))
    clear e hb low H1
    go_wp2_with fail
    refine (HLow.out _ HB1.out).mono ?_
    rintro e w3 ⟨⟨U, c, rfl, hm⟩, hb3⟩
    have HM3 := Lib.hid hm
    have HB3 := Lib.hid hb3
    clear hm hb3
    go_wp2
    go_ret2
    exact ⟨⟨U, c, rfl, HM3.out⟩, HB3.out⟩

end Go.Proofs.Ytiphooodijbhiab
