/-
  The walk of the model's MachOf.
-/
import Derived.Test.YtiphooodijbhiabMachS
import Derived.Test.YtiphooodijbhiabMachRes
import Derived.Test.YtiphooodijbhiabReadLess
import Derived.Test.YtiphooodijbhiabToldMath
import Derived.Test.YtiphooodijbhiabWrite
import Derived.Test.YtiphooodijbhiabHasS
import Derived.Deep.AppendLies
import Derived.Deep.RegionLaw
import Derived.Deep.RegionWith
namespace Go.Proofs.Ytiphooodijbhiab
open Go.RowKit
set_option linter.unusedVariables false

/-- An append of one number at a step of a region that draws its order. -/
theorem step_ints {ops : Array Oper} {o : Oper} {a : Act} {K : Act → World → Prop} {Q : Exit → Act → World → Prop} {E : Prop} {w : World} (hgd : o.guard = none) (s x : Operand)
    (ho : o.op = .call { callee := .builtin .append, args := #[s, x], argTypes := #[46, 46] })
    {base n g0 : Nat} {v : Value} {xs : List Value} {z : Int} (hs : a.eval s = v) (hx : a.eval x = .slice (some ⟨g0, 0, none⟩) 1 1) (hc : w.cell? ⟨g0, 0, none⟩ = some (.int .i64 z))
    (hown : w.ownsRow base 3 1 v n xs) (hT : base ≤ w.heap.size) (hn : n ≤ 1000000)
    (h : ∀ g cap w', w'.ownsRow base 3 1 (.slice (some ⟨g, 0, none⟩) (n + 1) cap) (n + 1) (xs ++ [.int .i64 z]) → w.grownBy w' v.ownBlock → K (a.put o.dst (.slice (some ⟨g, 0, none⟩) (n + 1) cap)) w') :
    if Region.wanted o (yielded ops a.tmps) = true then Oper.wp Try.prog o a w K Q else E := by
  obtain ⟨i0, hi, hz0, hz1, hz2⟩ := info_parts Try.infoInt
  refine step_append_lies _ hgd s x 46 ho base 3 i0 (.int .i64 0) 1 8 Try.underlying46 hi hz0 hz1 hz2 rfl (by decide) v n _ hs hown ⟨g0, 0, none⟩ 1 1 [.int .i64 z] hx rfl ?_ ?_ (by decide) (by unfold maxLen; omega) (by omega) hT _ rfl ?_
  · intro j u hj
    match j, hj with
    | 0, hj => simp at hj; subst hj; simpa [Addr.add] using hc
  · intro u hu; simp at hu; subst hu; rfl
  · intro g cap w' hown hgrow _ _
    exact h g cap w' hown hgrow

theorem cell_lit6 (w : World) (v : Value) (T : TypeId) : (w.alloc (.cells #[v] T)).cell? ⟨w.heap.size, 0, none⟩ = some v := by
  rw [World.cell?_alloc_at _ _ _ _ rfl]; rfl

/-- A row of the call's own is not a machine's block. -/
theorem own_not {w : World} {base n D : Nat} {v v0 v1 v2 : Value} {xs : List Value} (h : w.ownsRow base 3 1 v n xs) (hD : ResM v0 v1 v2 D w) : ∀ j, v.ownBlock = some j → j ≠ D := by
  intro j hj e
  rcases h.2 with ⟨hv, _⟩ | ⟨g, cap, cur, hv, _, hh, _⟩
  · rw [hv] at hj; cases hj
  · rw [hv] at hj
    have : g = j := by injection hj
    subst this
    subst e
    unfold ResM at hD
    rw [hh] at hD
    injection hD with hD
    injection hD with _ hD _
    exact absurd hD (by decide)

/-- The world of a machine that the model makes. -/
structure MakeM (L : List Nat) (n x y : Nat) (v : Value) (B D : Nat) (w wr : World) : Prop where
  below : Below B w wr
  mach : ResM v (.int .i64 x) (.int .i64 y) D wr
  own : wr.ownsRow B 3 1 v n (ints (castM L))
  ge : B ≤ D
  len : L.length = n
theorem MakeM.le {L : List Nat} {n x y B D : Nat} {v : Value} {w wr : World} (h : MakeM L n x y v B D w wr) : B ≤ wr.heap.size := Nat.le_of_lt (Nat.lt_of_le_of_lt h.ge (lt_of_block h.mach))
theorem MakeM.step {L : List Nat} {n x y B D : Nat} {v : Value} {w wr w1 : World} (h : MakeM L n x y v B D w wr) (hb : Below wr.heap.size wr w1) : MakeM L n x y v B D w w1 :=
  ⟨h.below.trans (hb.mono h.le), h.mach.step hb, own_below h.own hb (Nat.le_refl _), h.ge, h.len⟩
theorem own_keep {W : World} {base size n D : Nat} {e : TypeId} {v : Value} {xs : List Value} (h : W.ownsRow base e size v n xs) {p : Addr} (hp : ∀ j, v.ownBlock = some j → j ≠ p.block) (u : Value) : (W.setCell p u).ownsRow base e size v n xs := by
  obtain ⟨h1, h2⟩ := h
  refine ⟨h1, ?_⟩
  rcases h2 with h2 | ⟨g, cap, cur, hv, hg, hh, hr⟩
  · exact .inl h2
  · exact .inr ⟨g, cap, cur, hv, hg, (heap_setCell_other W _ _ _ (hp g (by rw [hv]; rfl))).trans hh, hr⟩
theorem MakeM.first {L : List Nat} {n x x' y B D : Nat} {v : Value} {w wr : World} (h : MakeM L n x y v B D w wr) : MakeM L n x' y v B D w (wr.setCell ⟨D, 1, none⟩ (.int .i64 x')) :=
  ⟨h.below.setCell h.ge _, heap_setCell_same _ D 1 _ _ (.int .i64 x') h.mach, own_keep (D := D) h.own (own_not h.own h.mach) _, h.ge, h.len⟩
theorem MakeM.second {L : List Nat} {n x y y' B D : Nat} {v : Value} {w wr : World} (h : MakeM L n x y v B D w wr) : MakeM L n x y' v B D w (wr.setCell ⟨D, 2, none⟩ (.int .i64 y')) :=
  ⟨h.below.setCell h.ge _, heap_setCell_same _ D 2 _ _ (.int .i64 y') h.mach, own_keep (D := D) h.own (own_not h.own h.mach) _, h.ge, h.len⟩
theorem MakeM.grown {L : List Nat} {n x y B D : Nat} {v : Value} {w wr w1 : World} (h : MakeM L n x y v B D w wr) (hg : wr.grownBy w1 v.ownBlock) : ResM v (.int .i64 x) (.int .i64 y) D w1 :=
  (hg.block D (lt_of_block h.mach) (fun e => own_not h.own h.mach D e.symm rfl)).trans h.mach
theorem MakeM.append {L : List Nat} {n x y B D z : Nat} {v v' : Value} {w wr w1 : World} (h : MakeM L n x y v B D w wr) (hown : w1.ownsRow B 3 1 v' (n + 1) (ints (castM L) ++ [.int .i64 z])) (hg : wr.grownBy w1 v.ownBlock) :
    MakeM (L ++ [z]) (n + 1) x y v' B D w (w1.setCell ⟨D, 0, none⟩ v') := by
  have hne := own_not h.own h.mach
  have hm1 : ResM v (.int .i64 x) (.int .i64 y) D w1 := (hg.block D (lt_of_block h.mach) (fun e => hne D e.symm rfl)).trans h.mach
  have hb : Below B wr w1 := (Below.refl _ _).grown hg h.le (fun j hj => (h.own.lt j hj).1)
  refine ⟨(h.below.trans hb).setCell h.ge _, heap_setCell_same _ D 0 _ _ v' hm1, ?_, h.ge, by rw [List.length_append, h.len]; rfl⟩
  have e : ints (castM (L ++ [z])) = ints (castM L) ++ [.int .i64 z] := by unfold castM ints; rw [List.map_append, List.map_append]; rfl
  rw [e]
  exact own_keep (D := D) hown (own_not hown hm1) _
theorem makeM_start (w : World) (x y : Nat) (B : Nat) (hB : B ≤ w.heap.size) (w0 : World) (hb : Below B w0 w) : MakeM [] 0 x y (.slice (some ⟨w.heap.size, 0, none⟩) 0 0) B (w.heap.size + 1) w0 ((w.alloc (.cells #[] 3)).alloc (.cells #[.slice (some ⟨w.heap.size, 0, none⟩) 0 0, .int .i64 x, .int .i64 y] 50)) := by
  refine ⟨(hb.alloc hB _).alloc (by simp; omega) _, ?_, ?_, by omega, rfl⟩
  · have := heap_alloc_new (w.alloc (.cells #[] 3)) (.cells #[.slice (some ⟨w.heap.size, 0, none⟩) 0 0, .int .i64 x, .int .i64 y] 50)
    rw [World.size_alloc] at this
    exact this
  · exact own_below (World.ownsRow_made (e := 3) (size := 1) w #[] 0 hB (by decide) rfl) ((Below.refl _ _).alloc (Nat.le_refl _) _) (Nat.le_refl _)

theorem bit_any (b : Bool) (w : World) : Calls Try.prog 95 #[.bool b] w fun e w' => e = .returned (.int .i64 (if b then 1 else 0)) ∧ w' = w := by
  cases b
  · refine (bit_false w).mono ?_
    rintro e w' ⟨rfl, rfl⟩
    exact ⟨rfl, rfl⟩
  · refine (bit_true w).mono ?_
    rintro e w' ⟨rfl, rfl⟩
    exact ⟨rfl, rfl⟩

/-- l1Has on the machine's set, in every later world. -/
theorem has_later {s : ByteArray} {b1 b2 : Option Addr} {m k1 q k2 i : Nat} {w2 w5 : World} (ho : LessOut w2 (fS s) b1 m k1 b2 q k2) (hb : Below w2.heap.size w2 w5) (hi : i ≤ 60) (hm : m ≤ 60) (hq : q ≤ 60) :
    ∀ W, Below w5.heap.size w5 W → Calls Try.prog 74 #[.agg #[.slice b1 m k1, .slice b2 q k2], .int .i64 i] W fun e w' =>
      e = .returned (.bool (fS s i)) ∧ Below w5.heap.size w5 w' := by
  intro W hW
  have hl := ho.lies
  have hA := (hl.tail.below hb (Nat.le_refl _)).below hW (Nat.le_refl _)
  have hB := (hl.ring.below hb (Nat.le_refl _)).below hW (Nat.le_refl _)
  refine (l1Has_any b1 b2 m k1 q k2 _ _ i W hA hB (by omega) (by omega) ho.tidy.pos (by omega)).mono ?_
  rintro e w' ⟨rfl, h⟩
  rw [fS_part ho.tidy]
  exact ⟨rfl, hW.trans (h.mono hW.size)⟩

theorem ofE_bits (f : Nat → Bool) (i : Nat) (hi : i ≤ 5) : Go.bits .or .i64 (ofE f i : Int) (IntKind.i64.wrap ((if f i then 1 else 0 : Int) * (2 : Int) ^ i)) = ((ofE f (i + 1) : Nat) : Int) := by
  have h62 := lt62 (ofE_lt f i 5 hi) (by decide)
  obtain ⟨p1, p2⟩ := pow_all hi
  show _ = ((if f i then ofE f i ||| 2 ^ i else ofE f i : Nat) : Int)
  cases f i
  · simp only [Bool.false_eq_true, if_false]
    rw [show IntKind.i64.wrap (0 * (2 : Int) ^ i) = ((0 : Nat) : Int) from by rw [Int.zero_mul]; rfl, bit_or _ _ h62 (by decide), Nat.or_zero]
  · simp only [if_true]
    rw [Int.one_mul, IntWalk.i64_in _ (by omega), pow_cast]
    exact bit_or _ _ h62 (lt62 (Nat.pow_lt_pow_right (by decide) (show i < 6 by omega)) (by decide))
theorem of_later {o : Obj} {w w1 : World} (h : Below (w.heap.size + 1) (w.alloc o) w1) : Below w.heap.size w w1 :=
  ((Below.refl _ _).alloc (Nat.le_refl _) o).trans (h.mono (Nat.le_succ _))

def OfEndS (s : ByteArray) (w : World) (e : Ending) (w' : World) : Prop := ∃ ok L t, OfIs (okS s) (fS s) ok L t ∧ MachEnd ok L (if ok then 1 else 0) t w e w'

end Go.Proofs.Ytiphooodijbhiab
