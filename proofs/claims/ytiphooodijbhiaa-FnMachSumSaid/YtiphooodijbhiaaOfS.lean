/-
  The walk of the model's MachOf.
-/
import Derived.Test.YtiphooodijbhiaaMachS
import Derived.Test.YtiphooodijbhiaaMachRes
import Derived.Test.YtiphooodijbhiaaReadLess
import Derived.Test.YtiphooodijbhiaaToldMath
import Derived.Test.YtiphooodijbhiaaWrite
import Derived.Test.YtiphooodijbhiaaHasS
import Derived.Deep.AppendLies
import Derived.Deep.RegionLaw
import Derived.Deep.RegionWith
namespace Go.Proofs.Ytiphooodijbhiaa
open Go.RowKit
set_option linter.unusedVariables false

/-- An append of one number at a step of a region that draws its order. -/
theorem step_ints {ops : Array Oper} {o : Oper} {a : Act} {K : Act → World → Prop} {Q : Exit → Act → World → Prop} {E : Prop} {w : World} (hgd : o.guard = none) (s x : Operand)
    (ho : o.op = .call { callee := .builtin .append, args := #[s, x], argTypes := #[23, 23] })
    {base n g0 : Nat} {v : Value} {xs : List Value} {z : Int} (hs : a.eval s = v) (hx : a.eval x = .slice (some ⟨g0, 0, none⟩) 1 1) (hc : w.cell? ⟨g0, 0, none⟩ = some (.int .i64 z))
    (hown : w.ownsRow base 3 1 v n xs) (hT : base ≤ w.heap.size) (hn : n ≤ 1000000)
    (h : ∀ g cap w', w'.ownsRow base 3 1 (.slice (some ⟨g, 0, none⟩) (n + 1) cap) (n + 1) (xs ++ [.int .i64 z]) → w.grownBy w' v.ownBlock → K (a.put o.dst (.slice (some ⟨g, 0, none⟩) (n + 1) cap)) w') :
    if Region.wanted o (yielded ops a.tmps) = true then Oper.wp Try.prog o a w K Q else E := by
  obtain ⟨i0, hi, hz0, hz1, hz2⟩ := info_parts Try.infoInt
  refine step_append_lies _ hgd s x 23 ho base 3 i0 (.int .i64 0) 1 8 Try.underlying23 hi hz0 hz1 hz2 rfl (by decide) v n _ hs hown ⟨g0, 0, none⟩ 1 1 [.int .i64 z] hx rfl ?_ ?_ (by decide) (by unfold maxLen; omega) (by omega) hT _ rfl ?_
  · intro j u hj
    match j, hj with
    | 0, hj => simp at hj; subst hj; simpa [Addr.add] using hc
  · intro u hu; simp at hu; subst hu; rfl
  · intro g cap w' hown hgrow _ _
    exact h g cap w' hown hgrow

theorem cell_lit6 (w : World) (v : Value) (T : TypeId) : (w.alloc (.cells #[v] T)).cell? ⟨w.heap.size, 0, none⟩ = some v := by
  rw [World.cell?_alloc_at _ _ _ _ rfl]; rfl

/-- A row of the call's own is not a machine's block. -/
theorem own_not {w : World} {base n D : Nat} {v v0 v1 v2 : Value} {xs : List Value} (h : w.ownsRow base 3 1 v n xs) (hD : ResM v0 v1 v2 D w) : ∀ j, v.ownBlock = some j → j ≠ D := by
  intro j hj e
  rcases h.2 with ⟨hv, _⟩ | ⟨g, cap, cur, hv, _, hh, _⟩
  · rw [hv] at hj; cases hj
  · rw [hv] at hj
    have : g = j := by injection hj
    subst this
    subst e
    unfold ResM at hD
    rw [hh] at hD
    injection hD with hD
    injection hD with _ hD _
    exact absurd hD (by decide)

/-- The world of a machine that the model makes. -/
structure MakeM (L : List Nat) (n x y : Nat) (v : Value) (B D : Nat) (w wr : World) : Prop where
  below : Below B w wr
  mach : ResM v (.int .i64 x) (.int .i64 y) D wr
  own : wr.ownsRow B 3 1 v n (ints (castM L))
  ge : B ≤ D
  len : L.length = n
theorem MakeM.le {L : List Nat} {n x y B D : Nat} {v : Value} {w wr : World} (h : MakeM L n x y v B D w wr) : B ≤ wr.heap.size := Nat.le_of_lt (Nat.lt_of_le_of_lt h.ge (lt_of_block h.mach))
theorem MakeM.step {L : List Nat} {n x y B D : Nat} {v : Value} {w wr w1 : World} (h : MakeM L n x y v B D w wr) (hb : Below wr.heap.size wr w1) : MakeM L n x y v B D w w1 :=
  ⟨h.below.trans (hb.mono h.le), h.mach.step hb, own_below h.own hb (Nat.le_refl _), h.ge, h.len⟩
theorem own_keep {W : World} {base size n D : Nat} {e : TypeId} {v : Value} {xs : List Value} (h : W.ownsRow base e size v n xs) {p : Addr} (hp : ∀ j, v.ownBlock = some j → j ≠ p.block) (u : Value) : (W.setCell p u).ownsRow base e size v n xs := by
  obtain ⟨h1, h2⟩ := h
  refine ⟨h1, ?_⟩
  rcases h2 with h2 | ⟨g, cap, cur, hv, hg, hh, hr⟩
  · exact .inl h2
  · exact .inr ⟨g, cap, cur, hv, hg, (heap_setCell_other W _ _ _ (hp g (by rw [hv]; rfl))).trans hh, hr⟩
theorem MakeM.first {L : List Nat} {n x x' y B D : Nat} {v : Value} {w wr : World} (h : MakeM L n x y v B D w wr) : MakeM L n x' y v B D w (wr.setCell ⟨D, 1, none⟩ (.int .i64 x')) :=
  ⟨h.below.setCell h.ge _, heap_setCell_same _ D 1 _ _ (.int .i64 x') h.mach, own_keep (D := D) h.own (own_not h.own h.mach) _, h.ge, h.len⟩
theorem MakeM.second {L : List Nat} {n x y y' B D : Nat} {v : Value} {w wr : World} (h : MakeM L n x y v B D w wr) : MakeM L n x y' v B D w (wr.setCell ⟨D, 2, none⟩ (.int .i64 y')) :=
  ⟨h.below.setCell h.ge _, heap_setCell_same _ D 2 _ _ (.int .i64 y') h.mach, own_keep (D := D) h.own (own_not h.own h.mach) _, h.ge, h.len⟩
theorem MakeM.grown {L : List Nat} {n x y B D : Nat} {v : Value} {w wr w1 : World} (h : MakeM L n x y v B D w wr) (hg : wr.grownBy w1 v.ownBlock) : ResM v (.int .i64 x) (.int .i64 y) D w1 :=
  (hg.block D (lt_of_block h.mach) (fun e => own_not h.own h.mach D e.symm rfl)).trans h.mach
theorem MakeM.append {L : List Nat} {n x y B D z : Nat} {v v' : Value} {w wr w1 : World} (h : MakeM L n x y v B D w wr) (hown : w1.ownsRow B 3 1 v' (n + 1) (ints (castM L) ++ [.int .i64 z])) (hg : wr.grownBy w1 v.ownBlock) :
    MakeM (L ++ [z]) (n + 1) x y v' B D w (w1.setCell ⟨D, 0, none⟩ v') := by
  have hne := own_not h.own h.mach
  have hm1 : ResM v (.int .i64 x) (.int .i64 y) D w1 := (hg.block D (lt_of_block h.mach) (fun e => hne D e.symm rfl)).trans h.mach
  have hb : Below B wr w1 := (Below.refl _ _).grown hg h.le (fun j hj => (h.own.lt j hj).1)
  refine ⟨(h.below.trans hb).setCell h.ge _, heap_setCell_same _ D 0 _ _ v' hm1, ?_, h.ge, by rw [List.length_append, h.len]; rfl⟩
  have e : ints (castM (L ++ [z])) = ints (castM L) ++ [.int .i64 z] := by unfold castM ints; rw [List.map_append, List.map_append]; rfl
  rw [e]
  exact own_keep (D := D) hown (own_not hown hm1) _
theorem makeM_start (w : World) (x y : Nat) (B : Nat) (hB : B ≤ w.heap.size) (w0 : World) (hb : Below B w0 w) : MakeM [] 0 x y (.slice (some ⟨w.heap.size, 0, none⟩) 0 0) B (w.heap.size + 1) w0 ((w.alloc (.cells #[] 3)).alloc (.cells #[.slice (some ⟨w.heap.size, 0, none⟩) 0 0, .int .i64 x, .int .i64 y] 25)) := by
  refine ⟨(hb.alloc hB _).alloc (by simp; omega) _, ?_, ?_, by omega, rfl⟩
  · have := heap_alloc_new (w.alloc (.cells #[] 3)) (.cells #[.slice (some ⟨w.heap.size, 0, none⟩) 0 0, .int .i64 x, .int .i64 y] 25)
    rw [World.size_alloc] at this
    exact this
  · exact own_below (World.ownsRow_made (e := 3) (size := 1) w #[] 0 hB (by decide) rfl) ((Below.refl _ _).alloc (Nat.le_refl _) _) (Nat.le_refl _)

theorem bit_any (b : Bool) (w : World) : Calls Try.prog 72 #[.bool b] w fun e w' => e = .returned (.int .i64 (if b then 1 else 0)) ∧ w' = w := by
  cases b
  · refine (bit_false w).mono ?_
    rintro e w' ⟨rfl, rfl⟩
    exact ⟨rfl, rfl⟩
  · refine (bit_true w).mono ?_
    rintro e w' ⟨rfl, rfl⟩
    exact ⟨rfl, rfl⟩

/-- l1Has on the machine's set, in every later world. -/
theorem has_later {s : ByteArray} {b1 b2 : Option Addr} {m k1 q k2 i : Nat} {w2 w5 : World} (ho : LessOut w2 (fS s) b1 m k1 b2 q k2) (hb : Below w2.heap.size w2 w5) (hi : i ≤ 60) (hm : m ≤ 60) (hq : q ≤ 60) :
    ∀ W, Below w5.heap.size w5 W → Calls Try.prog 73 #[.agg #[.slice b1 m k1, .slice b2 q k2], .int .i64 i] W fun e w' =>
      e = .returned (.bool (fS s i)) ∧ Below w5.heap.size w5 w' := by
  intro W hW
  have hl := ho.lies
  have hA := (hl.tail.below hb (Nat.le_refl _)).below hW (Nat.le_refl _)
  have hB := (hl.ring.below hb (Nat.le_refl _)).below hW (Nat.le_refl _)
  refine (l1Has_any b1 b2 m k1 q k2 _ _ i W hA hB (by omega) (by omega) ho.tidy.pos (by omega)).mono ?_
  rintro e w' ⟨rfl, h⟩
  rw [fS_part ho.tidy]
  exact ⟨rfl, hW.trans (h.mono hW.size)⟩

theorem ofE_bits (f : Nat → Bool) (i : Nat) (hi : i ≤ 5) : Go.bits .or .i64 (ofE f i : Int) (IntKind.i64.wrap ((if f i then 1 else 0 : Int) * (2 : Int) ^ i)) = ((ofE f (i + 1) : Nat) : Int) := by
  have h62 := lt62 (ofE_lt f i 5 hi) (by decide)
  obtain ⟨p1, p2⟩ := pow_all hi
  show _ = ((if f i then ofE f i ||| 2 ^ i else ofE f i : Nat) : Int)
  cases f i
  · simp only [Bool.false_eq_true, if_false]
    rw [show IntKind.i64.wrap (0 * (2 : Int) ^ i) = ((0 : Nat) : Int) from by rw [Int.zero_mul]; rfl, bit_or _ _ h62 (by decide), Nat.or_zero]
  · simp only [if_true]
    rw [Int.one_mul, IntWalk.i64_in _ (by omega), pow_cast]
    exact bit_or _ _ h62 (lt62 (Nat.pow_lt_pow_right (by decide) (show i < 6 by omega)) (by decide))
theorem of_later {o : Obj} {w w1 : World} (h : Below (w.heap.size + 1) (w.alloc o) w1) : Below w.heap.size w w1 :=
  ((Below.refl _ _).alloc (Nat.le_refl _) o).trans (h.mono (Nat.le_succ _))

def OfEndS (s : ByteArray) (w : World) (e : Ending) (w' : World) : Prop := ∃ ok L t, OfIs (okS s) (fS s) ok L t ∧ MachEnd ok L (if ok then 1 else 0) t w e w'

set_option maxRecDepth 100000 in
set_option maxHeartbeats 4000000 in
theorem specOf (s : ByteArray) (w : World) (hs : s.size ≤ 1048576) :
    Calls Try.prog 23 #[.string s] w (OfEndS s w) := by
  have HRX := Lib.hid (resM_start w)
  have HBX := Lib.hid ((Below.refl w.heap.size w).alloc (Nat.le_refl _) (.cells #[.slice none 0 0, .int .i64 0, .int .i64 0] 25))
  cases ho : okS s
  · have HIS : Hid (OfIs (okS s) (fS s) false [] 0) := Lib.hid (And.intro (fun h => by cases h) (fun _ => ⟨rfl, rfl, fun h => by rw [ho] at h; cases h⟩))
    go_enter Try.func23, Try.ntmps23
    go_wp2_with fail
    refine (read_off s _ hs ho).mono ?_
    rintro e1 w1 ⟨a1, n1, c1, a2, n2, c2, rfl, hb⟩
    have HR1 := Lib.hid (HRX.out.step hb)
    obtain ⟨x0, x1, x2, x3, x4, x5⟩ := HR1.out.cells
    have hlt := lt_of_block HR1.out
    have HF := Lib.hid ((HR1.out.stored (.slice none 0 0) (.int .i64 0) (.int .i64 0)).step ((Below.refl _ _).alloc (Nat.le_refl _) (.cells #[.slice a1 n1 c1, .slice a2 n2 c2] 75)))
    have hbf := (below_three (R := w.heap.size) (boxed hb) (Nat.le_refl _) (.slice none 0 0) (.int .i64 0) (.int .i64 0))
    have HBF := Lib.hid (hbf.alloc hbf.size (.cells #[.slice a1 n1 c1, .slice a2 n2 c2] 75))
    clear hb ho hbf
    go_wp2
    generalize ((((w1.setCell ⟨w.heap.size, 0, none⟩ (.slice none 0 0)).setCell ⟨w.heap.size, 1, none⟩ (.int .i64 0)).setCell ⟨w.heap.size, 2, none⟩ (.int .i64 0)).alloc (.cells #[.slice a1 n1 c1, .slice a2 n2 c2] 75)) = wz at HF HBF ⊢
    obtain ⟨d0, d1, d2, _⟩ := HF.out.cells
    exact bodyPost_ret (v := .tuple #[.agg #[.slice none 0 0, .int .i64 0, .int .i64 0], .bool false]) (by simp [results, Try.results23, go_sem, d0, d1, d2]) rfl ⟨false, [], 0, HIS.out, none, 0, 0, rfl, own_base (own_nil _) HBF.out.size, rfl, HBF.out⟩
  · obtain ⟨m, q, ht, hm, hq⟩ := tidy_there ho
    have HT := Lib.hid ht
    have hq0 := ht.pos
    go_enter Try.func23, Try.ntmps23
    go_wp2_with fail
    refine (read_less s _ hs ho).mono ?_
    rintro e1 w1 ⟨a1, n1, c1, a2, n2, c2, rfl, hb, hin⟩
    have hb2 : Below (w.alloc (.cells #[.slice none 0 0, .int .i64 0, .int .i64 0] 25)).heap.size (w.alloc (.cells #[.slice none 0 0, .int .i64 0, .int .i64 0] 25)) (w1.alloc (.cells #[.slice a1 n1 c1, .slice a2 n2 c2] 75)) := hb.alloc hb.size _
    have HR1 := Lib.hid (HRX.out.step hb2)
    have HB1 := Lib.hid (boxed hb2)
    have HI1 := Lib.hid (hin.below ((Below.refl w1.heap.size w1).alloc (Nat.le_refl _) (.cells #[.slice a1 n1 c1, .slice a2 n2 c2] 75)) (Nat.le_refl _))
    clear hb hb2 hin ht
    go_wp2_with fail
    refine (less_on s a1 n1 c1 a2 n2 c2 _ HI1.out).mono ?_
    rintro e1 w2 ⟨b1, m', k1, b2, q', k2, rfl, hb, hout⟩
    obtain ⟨rfl, rfl⟩ := tidy_unique HT.out hout.tidy
    have HR2 := Lib.hid (HR1.out.step hb)
    have HB2 := Lib.hid (HB1.out.trans (hb.mono HB1.out.size))
    have HO := Lib.hid hout
    obtain ⟨x0, x1, x2, x3, x4, x5⟩ := HR2.out.cells
    have hlt := lt_of_block HR2.out
    clear hb hout
    by_cases h5 : m + q ≤ 5
    · have HIS : Hid (OfIs (okS s) (fS s) true (ofL m q) (ofE (fS s) (m + q))) := Lib.hid (And.intro (fun _ => ⟨ho, m, q, HT.out, h5, rfl, rfl⟩) (fun h => by cases h))
      have HMS := Lib.hid (makeM_start (w2.alloc (.cells #[.slice b1 m k1, .slice b2 q k2] 75)) 1 0 _ (Nat.le_refl _) _ (Below.refl _ _))
      rw [World.size_alloc] at HMS
      clear ho hs
      go_wp2
      go_loopw [9] (fun t wr => ∃ (i : Nat) (v : Value), t = .int .i64 i ∧ i ≤ m + q ∧ MakeM (ofY m q i) i 1 (ofE (fS s) i) v (w2.heap.size + 1) (w2.heap.size + 1 + 1) (w2.alloc (.cells #[.slice b1 m k1, .slice b2 q k2] 75)) wr) (fun t _ => m + q - (intOf t).toNat)
      case atStart => exact ⟨0, _, rfl, Nat.zero_le _, HMS.out⟩
      case round =>
        obtain ⟨i, v, rfl, hin, hl⟩ := hrel
        obtain ⟨a3, c3, hv⟩ := own_form hl.own
        subst hv
        obtain ⟨d0, d1, d2, d3, d4, d5⟩ := hl.mach.cells
        by_cases hltN : i < m + q
        · have r0 : wr.cell? ⟨w2.heap.size, 0, none⟩ = some (.slice b1 m k1) := (hl.below.cell (p := ⟨w2.heap.size, 0, none⟩) (Nat.lt_succ_self _)).trans (by rw [World.cell?_alloc_at _ _ _ _ rfl]; rfl)
          have r1 : wr.cell? ⟨w2.heap.size, 1, none⟩ = some (.slice b2 q k2) := (hl.below.cell (p := ⟨w2.heap.size, 1, none⟩) (Nat.lt_succ_self _)).trans (by rw [World.cell?_alloc_at _ _ _ _ rfl]; rfl)
          have hltI : (i : Int) < (m : Int) + (q : Int) := by omega
          have HM := Lib.hid hl
          have hDlt : w2.heap.size + 1 + 1 < wr.heap.size := lt_of_block hl.mach
          by_cases hlast : i + 1 = m + q
          · have hlI : (i : Int) + 1 = (m : Int) + (q : Int) := by omega
            obtain ⟨p1, p2⟩ := pow_all (show m ≤ 5 by omega)
            have HY : Hid (ofY m q (i + 1) = ofY m q i ++ [2 ^ m]) := Lib.hid (by rw [ofY_snoc, if_pos hlast])

            clear hl hlast
            go_wp2
            go_region_law (refine step_ints (by rfl) _ _ (by rfl) (z := (2 : Int) ^ m) (by rfl) (by rfl) ?_ (HM.out.step ?_).own ?_ ?_ ?_; (rw [IntWalk.i64_in _ (by omega)]; exact cell_lit6 _ _ _); exact ((Below.refl _ _).alloc (Nat.le_refl _) _).drew; exact (by have := HM.out.le; simp; omega); exact (by omega); intro g cap w4 hown4 hgrow; obtain ⟨f0, f1, f2, f3, f4, f5⟩ := (MakeM.grown (HM.out.step ((Below.refl _ _).alloc (Nat.le_refl _) _).drew) hgrow).cells; have HA := Lib.hid (MakeM.append (HM.out.step ((Below.refl _ _).alloc (Nat.le_refl _) _).drew) (by rw [← pow_cast]; exact hown4) hgrow); clear hown4 hgrow)
            all_goals
              rw [← HY.out] at HA
              generalize w4.setCell ⟨w2.heap.size + 1 + 1, 0, none⟩ (.slice (some ⟨g, 0, none⟩) (i + 1) cap) = w5 at HA ⊢
              clear f0 f1 f2 f3 f4 f5 r0 r1 d0 d1 d2 d3 d4 d5
              have hbox : ∀ j, w5.cell? ⟨w2.heap.size, j, none⟩ = (w2.alloc (.cells #[.slice b1 m k1, .slice b2 q k2] 75)).cell? ⟨w2.heap.size, j, none⟩ := fun j => HA.out.below.cell (p := ⟨w2.heap.size, j, none⟩) (Nat.lt_succ_self _)
              have r0 := (hbox 0).trans (by rw [World.cell?_alloc_at _ _ _ _ rfl]; rfl : _ = some (.slice b1 m k1))
              have r1 := (hbox 1).trans (by rw [World.cell?_alloc_at _ _ _ _ rfl]; rfl : _ = some (.slice b2 q k2))
              have HHAS := Lib.hid (has_later HO.out (w5 := w5) (i := i) (of_later HA.out.below) (by omega) (by omega) (by omega))
              have hal := HA.out.mach
              have HE := Lib.hid (ofE_bits (fS s) i (by omega))
              have HEL := Lib.hid (HA.out.second (y' := ofE (fS s) (i + 1)))
              have HBB := Lib.hid HA.out
              obtain ⟨B, hB⟩ : ∃ B, B = fS s i := ⟨_, rfl⟩
              obtain ⟨E, hE⟩ : ∃ E, E = ofE (fS s) i := ⟨_, rfl⟩
              rw [← hB] at HHAS HE
              rw [← hE] at hal HE
              have HAL := Lib.hid hal
              obtain ⟨d0, d1, d2, d3, d4, d5⟩ := hal.cells
              obtain ⟨V, hV⟩ : ∃ V : Int, V = if B then 1 else 0 := ⟨_, rfl⟩
              have hV0 : 0 ≤ V := by rw [hV]; split <;> decide
              have hV1 : V ≤ 1 := by rw [hV]; split <;> decide
              have hbit : ∀ W : World, Calls Try.prog 72 #[.bool B] W fun e w' => e = .returned (.int .i64 V) ∧ w' = W := fun W => by rw [hV]; exact bit_any B W
              rw [← hV] at HE
              have HBIT := Lib.hid hbit
              clear hbox hal hB hE HA hV hbit
              obtain ⟨p3, p4⟩ := pow_all (show i ≤ 5 by omega)
              go_wp2
              go_region_with (first
                | (go_at_call 73; (with_reducible refine (HHAS.out _ ?_).mono ?_); exact (Below.refl _ _).drew; rintro e1 w6 ⟨rfl, hb6⟩; obtain ⟨y0, y1, y2, y3, y4, y5⟩ := (HAL.out.step hb6).cells; have HB6 := Lib.hid hb6; clear hb6)
                | (go_at_call 72; (with_reducible refine (HBIT.out _).mono ?_); rintro e1 w7 ⟨rfl, rfl⟩))
              all_goals
                have HN := Lib.hid ((HBB.out.step HB6.out).second (y' := ofE (fS s) (i + 1)))
                clear y0 y1 y2 y3 y4 y5 d0 d1 d2 d3 d4 d5
                rw [HE.out]
                go_wp2
                go_roundw
                case rel => exact ⟨i + 1, _, by go_num, by omega, HN.out⟩
                case measure => simp [intOf]; omega
          · have hlI : ¬ (i : Int) + 1 = (m : Int) + (q : Int) := by omega
            obtain ⟨p1, p2⟩ := pow_all (show (i + 1) ≤ 5 by omega)
            have HY : Hid (ofY m q (i + 1) = ofY m q i ++ [2 ^ (i + 1)]) := Lib.hid (by rw [ofY_snoc, if_neg hlast])

            clear hl hlast
            go_wp2
            go_region_law (refine step_ints (by rfl) _ _ (by rfl) (z := (2 : Int) ^ (i + 1)) (by rfl) (by rfl) ?_ (HM.out.step ?_).own ?_ ?_ ?_; (rw [IntWalk.i64_in _ (by omega)]; exact cell_lit6 _ _ _); exact ((Below.refl _ _).alloc (Nat.le_refl _) _).drew; exact (by have := HM.out.le; simp; omega); exact (by omega); intro g cap w4 hown4 hgrow; obtain ⟨f0, f1, f2, f3, f4, f5⟩ := (MakeM.grown (HM.out.step ((Below.refl _ _).alloc (Nat.le_refl _) _).drew) hgrow).cells; have HA := Lib.hid (MakeM.append (HM.out.step ((Below.refl _ _).alloc (Nat.le_refl _) _).drew) (by rw [← pow_cast]; exact hown4) hgrow); clear hown4 hgrow)
            all_goals
              rw [← HY.out] at HA
              generalize w4.setCell ⟨w2.heap.size + 1 + 1, 0, none⟩ (.slice (some ⟨g, 0, none⟩) (i + 1) cap) = w5 at HA ⊢
              clear f0 f1 f2 f3 f4 f5 r0 r1 d0 d1 d2 d3 d4 d5
              have hbox : ∀ j, w5.cell? ⟨w2.heap.size, j, none⟩ = (w2.alloc (.cells #[.slice b1 m k1, .slice b2 q k2] 75)).cell? ⟨w2.heap.size, j, none⟩ := fun j => HA.out.below.cell (p := ⟨w2.heap.size, j, none⟩) (Nat.lt_succ_self _)
              have r0 := (hbox 0).trans (by rw [World.cell?_alloc_at _ _ _ _ rfl]; rfl : _ = some (.slice b1 m k1))
              have r1 := (hbox 1).trans (by rw [World.cell?_alloc_at _ _ _ _ rfl]; rfl : _ = some (.slice b2 q k2))
              have HHAS := Lib.hid (has_later HO.out (w5 := w5) (i := i) (of_later HA.out.below) (by omega) (by omega) (by omega))
              have hal := HA.out.mach
              have HE := Lib.hid (ofE_bits (fS s) i (by omega))
              have HEL := Lib.hid (HA.out.second (y' := ofE (fS s) (i + 1)))
              have HBB := Lib.hid HA.out
              obtain ⟨B, hB⟩ : ∃ B, B = fS s i := ⟨_, rfl⟩
              obtain ⟨E, hE⟩ : ∃ E, E = ofE (fS s) i := ⟨_, rfl⟩
              rw [← hB] at HHAS HE
              rw [← hE] at hal HE
              have HAL := Lib.hid hal
              obtain ⟨d0, d1, d2, d3, d4, d5⟩ := hal.cells
              obtain ⟨V, hV⟩ : ∃ V : Int, V = if B then 1 else 0 := ⟨_, rfl⟩
              have hV0 : 0 ≤ V := by rw [hV]; split <;> decide
              have hV1 : V ≤ 1 := by rw [hV]; split <;> decide
              have hbit : ∀ W : World, Calls Try.prog 72 #[.bool B] W fun e w' => e = .returned (.int .i64 V) ∧ w' = W := fun W => by rw [hV]; exact bit_any B W
              rw [← hV] at HE
              have HBIT := Lib.hid hbit
              clear hbox hal hB hE HA hV hbit
              obtain ⟨p3, p4⟩ := pow_all (show i ≤ 5 by omega)
              go_wp2
              go_region_with (first
                | (go_at_call 73; (with_reducible refine (HHAS.out _ ?_).mono ?_); exact (Below.refl _ _).drew; rintro e1 w6 ⟨rfl, hb6⟩; obtain ⟨y0, y1, y2, y3, y4, y5⟩ := (HAL.out.step hb6).cells; have HB6 := Lib.hid hb6; clear hb6)
                | (go_at_call 72; (with_reducible refine (HBIT.out _).mono ?_); rintro e1 w7 ⟨rfl, rfl⟩))
              all_goals
                have HN := Lib.hid ((HBB.out.step HB6.out).second (y' := ofE (fS s) (i + 1)))
                clear y0 y1 y2 y3 y4 y5 d0 d1 d2 d3 d4 d5
                rw [HE.out]
                go_wp2
                go_roundw
                case rel => exact ⟨i + 1, _, by go_num, by omega, HN.out⟩
                case measure => simp [intOf]; omega
        · obtain rfl : i = m + q := by omega
          have hb2 := of_later hl.below
          have hr := HR2.out.step hb2
          obtain ⟨x0, x1, x2, x3, x4, x5⟩ := hr.cells
          have HFR := Lib.hid (hr.stored (.slice a3 (m + q) c3) (.int .i64 1) (.int .i64 (ofE (fS s) (m + q))))
          have HFB := Lib.hid (below_three (R := w.heap.size) (HB2.out.trans (hb2.mono HB2.out.size)) (Nat.le_refl _) (.slice a3 (m + q) c3) (.int .i64 1) (.int .i64 (ofE (fS s) (m + q))))
          have HFO := Lib.hid (own_three (R := w.heap.size) hl.own (by omega) (.slice a3 (m + q) c3) (.int .i64 1) (.int .i64 (ofE (fS s) (m + q))))
          have HLEN := Lib.hid hl.len
          rw [ofY_end] at HFO HLEN
          obtain ⟨E, hE⟩ : ∃ E, E = ofE (fS s) (m + q) := ⟨_, rfl⟩
          rw [← hE] at HFR HFB HFO d2 HIS
          have hni : ¬ (m : Int) + (q : Int) < (m : Int) + (q : Int) := by omega
          clear hl hb2 hr hE hltN
          go_wp2
          generalize (((wr.setCell ⟨w.heap.size, 0, none⟩ (.slice a3 (m + q) c3)).setCell ⟨w.heap.size, 1, none⟩ (.int .i64 1)).setCell ⟨w.heap.size, 2, none⟩ (.int .i64 E)) = wz at HFR HFB HFO ⊢
          obtain ⟨e0, e1, e2, _⟩ := HFR.out.cells
          exact bodyPost_ret (v := .tuple #[.agg #[.slice a3 (m + q) c3, .int .i64 1, .int .i64 E], .bool true]) (by simp [results, Try.results23, go_sem, e0, e1, e2]) rfl ⟨true, _, _, HIS.out, a3, _, c3, rfl, own_base HFO.out (by omega), HLEN.out, HFB.out⟩
    · have HIS : Hid (OfIs (okS s) (fS s) false [] 0) := Lib.hid (And.intro (fun h => by cases h) (fun _ => ⟨rfl, rfl, fun _ => ⟨m, q, HT.out, by omega⟩⟩))
      have HF := Lib.hid ((HR2.out.stored (.slice none 0 0) (.int .i64 0) (.int .i64 0)).step ((Below.refl _ _).alloc (Nat.le_refl _) (.cells #[.slice b1 m k1, .slice b2 q k2] 75)))
      have hbf := (below_three (R := w.heap.size) HB2.out (Nat.le_refl _) (.slice none 0 0) (.int .i64 0) (.int .i64 0))
      have HBF := Lib.hid (hbf.alloc hbf.size (.cells #[.slice b1 m k1, .slice b2 q k2] 75))
      clear ho hbf
      go_wp2
      generalize ((((w2.setCell ⟨w.heap.size, 0, none⟩ (.slice none 0 0)).setCell ⟨w.heap.size, 1, none⟩ (.int .i64 0)).setCell ⟨w.heap.size, 2, none⟩ (.int .i64 0)).alloc (.cells #[.slice b1 m k1, .slice b2 q k2] 75)) = wz at HF HBF ⊢
      obtain ⟨d0, d1, d2, _⟩ := HF.out.cells
      exact bodyPost_ret (v := .tuple #[.agg #[.slice none 0 0, .int .i64 0, .int .i64 0], .bool false]) (by simp [results, Try.results23, go_sem, d0, d1, d2]) rfl ⟨false, [], 0, HIS.out, none, 0, 0, rfl, own_base (own_nil _) HBF.out.size, rfl, HBF.out⟩

end Go.Proofs.Ytiphooodijbhiaa
