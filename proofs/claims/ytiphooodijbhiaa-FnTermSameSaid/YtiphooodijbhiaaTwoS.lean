/-
  The walk of spec.l2Two: two sets are made into one.
-/
import Derived.Test.YtiphooodijbhiaaSteps
import Derived.Test.YtiphooodijbhiaaMarks
import Derived.Test.YtiphooodijbhiaaMakeMath
import Derived.Test.YtiphooodijbhiaaReadS
import Derived.Test.YtiphooodijbhiaaHasS
import Derived.Test.YtiphooodijbhiaaShapeS
import Derived.Test.YtiphooodijbhiaaWrite
namespace Go.Proofs.Ytiphooodijbhiaa
open Go.RowKit

theorem bit_any (b : Bool) (w : World) : Calls Try.prog 72 #[.bool b] w fun e w' => e = .returned (.int .i64 (b.toNat : Int)) ∧ w = w' := by
  cases b
  · exact bit_false w
  · exact bit_true w
theorem shape_two (s t : ByteArray) (a1 a2 b1 b2 : Option Addr) (n1 c1 n2 c2 m1 d1 m2 d2 : Nat) (w : World) (h : IsRead w s a1 n1 a2 n2) (h2 : IsRead w t b1 m1 b2 m2) :
    Calls Try.prog 148 #[.agg #[.slice a1 n1 c1, .slice a2 n2 c2], .agg #[.slice b1 m1 d1, .slice b2 m2 d2]] w fun e w' =>
      ∃ tl p : Nat, e = .returned (.tuple #[.int .i64 tl, .int .i64 p]) ∧ Below w.heap.size w w' ∧ tl ≤ 60 ∧ p ≤ 3600 ∧ 0 < p ∧ ∀ kind n, tl ≤ n → twoF kind (fS s) (fS t) (n + p) = twoF kind (fS s) (fS t) n := by
  refine (shape_any a1 a2 b1 b2 n1 c1 n2 c2 m1 d1 m2 d2 w h.ringLe h.ringPos h2.ringLe h2.ringPos).mono ?_
  rintro e w' ⟨rfl, hb⟩
  obtain ⟨p0, p1, p2, p3⟩ := shape_common h.ringPos h2.ringPos
  have l1 := h.tailLe
  have l2 := h2.tailLe
  have l3 : n2 * m2 ≤ 60 * 60 := Nat.mul_le_mul h.ringLe h2.ringLe
  refine ⟨_, _, rfl, hb, by omega, by omega, p0, fun kind n hn => ?_⟩
  refine twoF_round kind s t (max n1 m1) _ n ?_ ?_ (by rw [h.ring.len]; exact p1) (by rw [h2.ring.len]; exact p2) hn
  · rw [h.tail.len]; omega
  · rw [h2.tail.len]; omega

/-- The rows of the set that is made: its box, its tail, its ring. -/
structure TwoRows (f : Nat → Bool) (tl B3 T0 n : Nat) (wr : World) (g1 k1 g2 k2 : Nat) : Prop where
  lt : B3 < wr.heap.size
  t0 : wr.cell? ⟨B3, 0, none⟩ = some (.slice (some ⟨g1, 0, none⟩) (min n tl : Nat) k1)
  t1 : wr.cell? ⟨B3, 1, none⟩ = some (.slice (some ⟨g2, 0, none⟩) (n - tl) k2)
  f0 : wr.frozen? ⟨B3, 0, none⟩ = false
  f1 : wr.frozen? ⟨B3, 1, none⟩ = false
  r0 : wr.ownsRow T0 4 1 (.slice (some ⟨g1, 0, none⟩) (min n tl) k1) (min n tl) ((part f 0 (min n tl)).map Value.bool)
  r1 : wr.ownsRow T0 4 1 (.slice (some ⟨g2, 0, none⟩) (n - tl) k2) (n - tl) ((part f tl (n - tl)).map Value.bool)
  l0 : g1 < wr.heap.size
  l1 : g2 < wr.heap.size
  ne : g1 ≠ g2
  n0 : g1 ≠ B3
  n1 : g2 ≠ B3
theorem TwoRows.step {f : Nat → Bool} {tl B3 T0 n : Nat} {wr w' : World} {g1 k1 g2 k2 : Nat} (h : TwoRows f tl B3 T0 n wr g1 k1 g2 k2) (hb : Below wr.heap.size wr w') : TwoRows f tl B3 T0 n w' g1 k1 g2 k2 :=
  ⟨Nat.lt_of_lt_of_le h.lt hb.size, (hb.cell (p := ⟨B3, 0, none⟩) h.lt).trans h.t0, (hb.cell (p := ⟨B3, 1, none⟩) h.lt).trans h.t1, (hb.frozen (p := ⟨B3, 0, none⟩) h.lt).trans h.f0, (hb.frozen (p := ⟨B3, 1, none⟩) h.lt).trans h.f1,
    own_below h.r0 hb (Nat.le_refl _), own_below h.r1 hb (Nat.le_refl _), Nat.lt_of_lt_of_le h.l0 hb.size, Nat.lt_of_lt_of_le h.l1 hb.size, h.ne, h.n0, h.n1⟩

theorem bit_low (q : Nat) (h : q ≤ 15) : Go.bits BinOp.and .i64 (q : Int) 1 = ((q % 2 : Nat) : Int) := by
  have h16 : ∀ q : Fin 16, Go.bits BinOp.and .i64 ((q.val : Nat) : Int) 1 = ((q.val % 2 : Nat) : Int) := by decide
  exact h16 ⟨q, by omega⟩
theorem bit_one (q : Nat) : ((((q % 2 : Nat) : Int)) == 1) = (q % 2 == 1) := by
  rcases Nat.mod_two_eq_zero_or_one q with h | h <;> rw [h] <;> rfl
theorem own_set {w : World} {base n c g : Nat} {e : TypeId} {xs : List Value} (h : w.ownsRow base e 1 (.slice (some ⟨g, 0, none⟩) n c) n xs) {p : Addr} (hp : p.block ≠ g) (v : Value) :
    (w.setCell p v).ownsRow base e 1 (.slice (some ⟨g, 0, none⟩) n c) n xs := by
  refine ⟨h.1, ?_⟩
  rcases h.2 with h2 | ⟨g', cap, cur, hv, hg, hh, r⟩
  · exact .inl h2
  · have hv' := hv
    injection hv with ha _ _
    injection ha with ha
    injection ha with ha _ _
    subst ha
    exact .inr ⟨g, cap, cur, hv', hg, by rw [Below.heap_setCell _ _ _ _ (Ne.symm hp)]; exact hh, r⟩
theorem two_below {B : Nat} {W w6 w7 : World} {o : Obj} {row : Option Nat} (h : Below B W w6) (hg : (w6.alloc o).grownBy w7 row) (hr : ∀ j, row = some j → B ≤ j) (hB : B ≤ w6.heap.size) : Below B W w7 :=
  (h.alloc hB o).grown hg (by simp; omega) hr
/-- What an append to a row of its own leaves of the box and of the other row. -/
theorem TwoRows.tail {f : Nat → Bool} {tl B3 T0 n : Nat} {wr w7 : World} {g1 k1 g2 k2 g cap : Nat} {b : Bool} {o : Obj} (h : TwoRows f tl B3 T0 n wr g1 k1 g2 k2) (hn : n < tl) (hf : f n = b)
    (hown : w7.ownsRow T0 4 1 (.slice (some ⟨g, 0, none⟩) (n + 1) cap) (n + 1) ((part f 0 n).map Value.bool ++ [.bool b])) (hgrow : (wr.alloc o).grownBy w7 (some g1)) (hat : some g1 = some g ∨ g = wr.heap.size + 1) (hg : g < w7.heap.size) :
    w7.cell? ⟨B3, 0, none⟩ = some (.slice (some ⟨g1, 0, none⟩) n k1) ∧ w7.frozen? ⟨B3, 0, none⟩ = false ∧
      TwoRows f tl B3 T0 (n + 1) (w7.setCell ⟨B3, 0, none⟩ (.slice (some ⟨g, 0, none⟩) (n + 1 : Nat) cap)) g cap g2 k2 := by
  have hm : min n tl = n := by omega
  have hm1 : min (n + 1) tl = n + 1 := by omega
  have hz : n - tl = 0 := by omega
  have hz1 : n + 1 - tl = 0 := by omega
  have lB := h.lt
  have la : B3 < (wr.alloc o).heap.size := by simp; omega
  have ne0 : some B3 ≠ some g1 := fun e => h.n0 (by injection e with e; exact e.symm)
  have hs : wr.heap.size ≤ w7.heap.size := by have := hgrow.size; simp at this; omega
  have t0 := (hgrow.cell_far ⟨B3, 0, none⟩ la ne0).trans ((World.cell?_alloc_past _ _ _ lB).trans h.t0)
  have t1 := (hgrow.cell_far ⟨B3, 1, none⟩ la ne0).trans ((World.cell?_alloc_past _ _ _ lB).trans h.t1)
  have f0 := (hgrow.frozen_far ⟨B3, 0, none⟩ la ne0).trans ((Below.refl _ _).alloc (Nat.le_refl _) o |>.frozen (p := ⟨B3, 0, none⟩) lB |>.trans h.f0)
  have f1 := (hgrow.frozen_far ⟨B3, 1, none⟩ la ne0).trans ((Below.refl _ _).alloc (Nat.le_refl _) o |>.frozen (p := ⟨B3, 1, none⟩) lB |>.trans h.f1)
  have r1 := (own_below h.r1 ((Below.refl wr.heap.size wr).alloc (Nat.le_refl _) o) (Nat.le_refl _)).kept hgrow (Or.inr (fun e => h.ne (by injection e with e; exact e.symm)))
  have hgB : g ≠ B3 := by rcases hat with e | e; (injection e with e; rw [← e]; exact h.n0); omega
  have hg2 : g ≠ g2 := by rcases hat with e | e; (injection e with e; rw [← e]; exact h.ne); (have := h.l1; omega)
  rw [hm] at t0
  refine ⟨t0, f0, ⟨?_, ?_, ?_, ?_, ?_, ?_, ?_, ?_, ?_, hg2, hgB, h.n1⟩⟩
  · simp; omega
  · rw [hm1]; exact World.cell?_setCell_same _ _ _ t0
  · rw [hz1, World.cell?_setCell_other _ _ _ _ (by simp)]; rw [hz] at t1; exact t1
  · rw [World.frozen?_setCell]; exact f0
  · rw [World.frozen?_setCell]; exact f1
  · rw [hm1, part_snoc, List.map_append, Nat.zero_add, hf]; exact own_set hown (Ne.symm hgB) _
  · rw [hz1]; rw [hz] at r1; exact own_set r1 (Ne.symm h.n1) _
  · simpa using hg
  · have := h.l1; simp; omega
theorem TwoRows.ring {f : Nat → Bool} {tl B3 T0 n : Nat} {wr w7 : World} {g1 k1 g2 k2 g cap : Nat} {b : Bool} {o : Obj} (h : TwoRows f tl B3 T0 n wr g1 k1 g2 k2) (hn : tl ≤ n) (hf : f n = b)
    (hown : w7.ownsRow T0 4 1 (.slice (some ⟨g, 0, none⟩) (n - tl + 1) cap) (n - tl + 1) ((part f tl (n - tl)).map Value.bool ++ [.bool b])) (hgrow : (wr.alloc o).grownBy w7 (some g2)) (hat : some g2 = some g ∨ g = wr.heap.size + 1) (hg : g < w7.heap.size) :
    w7.cell? ⟨B3, 1, none⟩ = some (.slice (some ⟨g2, 0, none⟩) (n - tl : Nat) k2) ∧ w7.frozen? ⟨B3, 1, none⟩ = false ∧
      TwoRows f tl B3 T0 (n + 1) (w7.setCell ⟨B3, 1, none⟩ (.slice (some ⟨g, 0, none⟩) (n - tl + 1 : Nat) cap)) g1 k1 g cap := by
  have hm : min n tl = tl := by omega
  have hm1 : min (n + 1) tl = tl := by omega
  have hz1 : n + 1 - tl = n - tl + 1 := by omega
  have lB := h.lt
  have la : B3 < (wr.alloc o).heap.size := by simp; omega
  have ne0 : some B3 ≠ some g2 := fun e => h.n1 (by injection e with e; exact e.symm)
  have hs : wr.heap.size ≤ w7.heap.size := by have := hgrow.size; simp at this; omega
  have t0 := (hgrow.cell_far ⟨B3, 0, none⟩ la ne0).trans ((World.cell?_alloc_past _ _ _ lB).trans h.t0)
  have t1 := (hgrow.cell_far ⟨B3, 1, none⟩ la ne0).trans ((World.cell?_alloc_past _ _ _ lB).trans h.t1)
  have f0 := (hgrow.frozen_far ⟨B3, 0, none⟩ la ne0).trans ((Below.refl _ _).alloc (Nat.le_refl _) o |>.frozen (p := ⟨B3, 0, none⟩) lB |>.trans h.f0)
  have f1 := (hgrow.frozen_far ⟨B3, 1, none⟩ la ne0).trans ((Below.refl _ _).alloc (Nat.le_refl _) o |>.frozen (p := ⟨B3, 1, none⟩) lB |>.trans h.f1)
  have r0 := (own_below h.r0 ((Below.refl wr.heap.size wr).alloc (Nat.le_refl _) o) (Nat.le_refl _)).kept hgrow (Or.inr (fun e => h.ne (by injection e with e)))
  have hgB : g ≠ B3 := by rcases hat with e | e; (injection e with e; rw [← e]; exact h.n1); omega
  have hg1 : g1 ≠ g := by rcases hat with e | e; (injection e with e; rw [← e]; exact h.ne); (have := h.l0; omega)
  refine ⟨t1, f1, ⟨?_, ?_, ?_, ?_, ?_, ?_, ?_, ?_, ?_, hg1, h.n0, hgB⟩⟩
  · simp; omega
  · rw [hm1, World.cell?_setCell_other _ _ _ _ (by simp)]; rw [hm] at t0; exact t0
  · rw [hz1]; exact World.cell?_setCell_same _ _ _ t1
  · rw [World.frozen?_setCell]; exact f0
  · rw [World.frozen?_setCell]; exact f1
  · rw [hm1]; rw [hm] at r0; exact own_set r0 (Ne.symm h.n0) _
  · rw [hz1, part_snoc, List.map_append, show tl + (n - tl) = n from by omega, hf]; exact own_set hown (Ne.symm hgB) _
  · have := h.l0; simp; omega
  · simpa using hg
theorem below_three (w : World) (o1 o2 o3 : Obj) : Below w.heap.size w (((w.alloc o1).alloc o2).alloc o3) :=
  (((Below.refl _ _).alloc (Nat.le_refl _) _).alloc (by simp) _).alloc (by simp; omega) _
theorem twoRows_start (f : Nat → Bool) (tl : Nat) (w : World) : TwoRows f tl (w.heap.size + 1 + 1) w.heap.size 0 (((w.alloc (.cells #[] 4)).alloc (.cells #[] 4)).alloc (.cells #[.slice (some ⟨w.heap.size, 0, none⟩) 0 0, .slice (some ⟨w.heap.size + 1, 0, none⟩) 0 0] 75)) w.heap.size 0 (w.heap.size + 1) 0 := by
  have h0 := World.ownsRow_made (base := w.heap.size) (e := 4) (size := 1) w #[] 0 (Nat.le_refl _) (by decide) rfl
  have h1 := World.ownsRow_made (base := w.heap.size) (e := 4) (size := 1) (w.alloc (.cells #[] 4)) #[] 0 (by simp) (by decide) rfl
  rw [World.size_alloc] at h1
  have hm : min 0 tl = 0 := by omega
  refine ⟨by simp, ?_, ?_, ?_, ?_, ?_, ?_, by simp; omega, by simp, by omega, by omega, by omega⟩
  · rw [hm]; go_simp
  · rw [Nat.zero_sub]; go_simp
  · go_simp
  · go_simp
  · rw [hm]
    exact own_below (own_below h0 ((Below.refl _ _).alloc (Nat.le_refl _) _) (Nat.le_refl _)) ((Below.refl _ _).alloc (Nat.le_refl _) _) (Nat.le_refl _)
  · rw [Nat.zero_sub]
    exact own_below h1 ((Below.refl _ _).alloc (Nat.le_refl _) _) (Nat.le_refl _)

set_option maxRecDepth 100000 in
set_option maxHeartbeats 1000000 in
theorem specTwo_on (s t : ByteArray) (kind : Nat) (w : World) (hs : s.size ≤ 1048576) (ht : t.size ≤ 1048576) (h1 : okS s = true) (h2 : okS t = true) (hk : kind < 16) :
    Calls Try.prog 136 #[.string s, .string t, .int .i64 kind] w fun e w' => MadeEnd (twoF kind (fS s) (fS t)) e ∧ Below w.heap.size w w' := by
  obtain ⟨i0, hi, hz0, hz1, hz2⟩ := info_parts Try.infoBool
  go_enter Try.func136, Try.ntmps136
  go_wp2_with fail
  refine (read_on s _ hs h1).mono ?_
  rintro e w1 ⟨a1, n1, c1, a2, n2, c2, rfl, hb, hr⟩
  go_wp2_with fail
  refine (read_on t _ ht h2).mono ?_
  rintro e w2 ⟨b1, m1, d1, b2, m2, d2, rfl, hb2, hr2⟩
  have HL := belowLoop_start (d1 := d1) (d2 := d2) hb (hr.alloc _) hb2 hr2
  have q0 := HL.q0; have q1 := HL.q1; have q2 := HL.q2; have q3 := HL.q3
  have HH := Lib.hid HL
  clear hb hr hb2 hr2 HL
  go_wp2_with fail
  refine (shape_two s t a1 a2 b1 b2 n1 c1 n2 c2 m1 d1 m2 d2 _ HH.out.r1 HH.out.r2).mono ?_
  rintro e w3 ⟨tl, p, rfl, hb3, htl, hp, hp0, hper⟩
  have HH3 := Lib.hid (HH.out.step hb3)
  have HP := Lib.hid (hper kind)
  clear hb3 HH q0 q1 q2 q3 hper
  go_wp2
  go_loopw [15] (fun i wr => ∃ n : Nat, n ≤ tl + p ∧ i = .int .i64 n ∧ Below w3.heap.size w3 wr ∧
      ∃ g1 k1 g2 k2, TwoRows (twoF kind (fS s) (fS t)) tl (w3.heap.size + 1 + 1) w3.heap.size n wr g1 k1 g2 k2)
    (fun i _ => tl + p - (intOf i).toNat)
  case atStart => exact ⟨0, Nat.zero_le _, rfl, below_three _ _ _ _, _, _, _, _, twoRows_start _ _ _⟩
  case round =>
    obtain ⟨n, hn, rfl, hB3, g1, k1, g2, k2, hTR⟩ := hrel
    have hBL := HH3.out.step hB3
    have HW := Lib.hid hB3
    clear hB3
    by_cases hlt : n < tl + p
    · have hlt' : (n : Int) < (tl : Int) + (p : Int) := by omega
      obtain ⟨x, hx⟩ : ∃ x, fS s n = x := ⟨_, rfl⟩
      obtain ⟨y, hy⟩ : ∃ y, fS t n = y := ⟨_, rfl⟩
      have HA := Lib.hid (fun W' (hW : BelowLoop s t a1 n1 c1 a2 n2 c2 b1 m1 d1 b2 m2 d2 w1.heap.size w2.heap.size w W') => l1Has_on s a1 a2 n1 c1 n2 c2 n W' hW.r1 (by omega))
      have HC := Lib.hid (fun W' (hW : BelowLoop s t a1 n1 c1 a2 n2 c2 b1 m1 d1 b2 m2 d2 w1.heap.size w2.heap.size w W') => l1Has_on t b1 b2 m1 d1 m2 d2 n W' hW.r2 (by omega))
      rw [hasI_nat, ← fS_eq, hx] at HA
      rw [hasI_nat, ← fS_eq, hy] at HC
      have HV : Hid (twoF kind (fS s) (fS t) n = bitOf kind x y) := Lib.hid (by unfold twoF; rw [hx, hy])
      have HB := Lib.hid hBL
      have HTR := Lib.hid hTR
      have hx2 := Bool.toNat_lt x
      have hy2 := Bool.toNat_lt y
      obtain ⟨z, hz⟩ : ∃ z : Nat, 2 * x.toNat + y.toNat = z := ⟨_, rfl⟩
      have hzw : IntKind.i64.wrap (IntKind.i64.wrap (2 * (x.toNat : Int)) + (y.toNat : Int)) = (z : Int) := by
        rw [IntWalk.i64_in (2 * (x.toNat : Int)) (by omega), IntWalk.i64_in _ (by omega)]; omega
      have hz64 : (z : Int) ≤ 64 := by omega
      have hz00 : (0 : Int) ≤ (z : Int) := by omega
      obtain ⟨q, hq⟩ : ∃ q : Nat, kind / 2 ^ z = q := ⟨_, rfl⟩
      have hqi : (kind : Int) / 2 ^ z = (q : Int) := by rw [← hq]; simp
      have HQ : Hid (bitOf kind x y = (q % 2 == 1)) := Lib.hid (by unfold bitOf; rw [hz, hq])
      have hq15 : q ≤ 15 := by rw [← hq]; exact Nat.le_trans (Nat.div_le_self _ _) (by omega)
      obtain ⟨bv, hbv⟩ : ∃ bv : Bool, (q % 2 == 1) = bv := ⟨_, rfl⟩
      have hbb : (Go.bits BinOp.and .i64 (q : Int) 1 == 1) = bv := by rw [bit_low q hq15, ← hbv]; exact bit_one q
      rw [hbv] at HQ
      rw [HQ.out] at HV
      clear hx hy hBL hTR hz hq hbv HQ
      go_wp2
      refine wp_region_noPanic ?_
      refine wp_region_held_drew (S := fun w' => BelowLoop s t a1 n1 c1 a2 n2 c2 b1 m1 d1 b2 m2 d2 w1.heap.size w2.heap.size w w') (by kernel_rfl) (HB.out.step (Below.refl _ _).drew) (fun HS => ?_)
      refine' doH 0 (v := ?v0) rfl (by kernel_rfl) (by kernel_rfl) (by kernel_rfl) (fun _ _ _ h => h) rfl HS ?hy0 ?rest0
      case hy0 => (rintro w hSw; go_simp; try with_reducible rfl)
      try simp only [Act.put, List.setIfInBounds_toArray, List.set_cons_zero, List.set_cons_succ]
      refine' doH 1 (v := ?v1) rfl (by kernel_rfl) (by kernel_rfl) (by kernel_rfl) (fun _ _ _ h => h) rfl HS ?hy1 ?rest1
      case hy1 => (rintro w hSw; have s0 := hSw.q0; have s1 := hSw.q1; go_simp; try with_reducible rfl)
      try simp only [Act.put, List.setIfInBounds_toArray, List.set_cons_zero, List.set_cons_succ]
      refine' doH 2 (v := ?v2) rfl (by kernel_rfl) (by kernel_rfl) (by kernel_rfl) (fun _ _ _ h => h) rfl HS ?hy2 ?rest2
      case hy2 => (rintro w hSw; go_simp; try with_reducible rfl)
      try simp only [Act.put, List.setIfInBounds_toArray, List.set_cons_zero, List.set_cons_succ]
      refine' doH 6 (v := ?v6) rfl (by kernel_rfl) (by kernel_rfl) (by kernel_rfl) (fun _ _ _ h => h) rfl HS ?hy6 ?rest6
      case hy6 => (rintro w hSw; have s0 := hSw.q2; have s1 := hSw.q3; go_simp; try with_reducible rfl)
      try simp only [Act.put, List.setIfInBounds_toArray, List.set_cons_zero, List.set_cons_succ]
      refine' doH 7 (v := ?v7) rfl (by kernel_rfl) (by kernel_rfl) (by kernel_rfl) (fun _ _ _ h => h) rfl HS ?hy7 ?rest7
      case hy7 => (rintro w hSw; go_simp; try with_reducible rfl)
      try simp only [Act.put, List.setIfInBounds_toArray, List.set_cons_zero, List.set_cons_succ]
      refine oneH 3 (by kernel_rfl) rfl (fun K3 hK3 => ?_)
      go_simp
      (with_reducible refine (HA.out _ HS).mono ?_)
      rintro e w4 ⟨rfl, hb4⟩
      have HB4 := Lib.hid (HS.step hb4)
      have HT4 := Lib.hid (HTR.out.step ((Below.refl _ _).drew.trans hb4))
      have HW4 := Lib.hid (HW.out.trans (((Below.refl _ _).drew.trans hb4).mono HW.out.size))
      clear hb4
      refine hK3.out _ _ (HB4.out) (fun HS => ?_)
      clear hK3 K3
      try simp only [Act.put, List.setIfInBounds_toArray, List.set_cons_zero, List.set_cons_succ]
      refine oneH 4 (by kernel_rfl) rfl (fun K4 hK4 => ?_)
      go_simp
      (with_reducible refine (bit_any _ _).mono ?_)
      rintro e w5 ⟨rfl, rfl⟩
      refine hK4.out _ _ (HB4.out) (fun HS => ?_)
      clear hK4 K4
      try simp only [Act.put, List.setIfInBounds_toArray, List.set_cons_zero, List.set_cons_succ]
      refine' doH 5 (v := ?v5) rfl (by kernel_rfl) (by kernel_rfl) (by kernel_rfl) (fun _ _ _ h => h) rfl HS ?hy5 ?rest5
      case hy5 => (rintro w hSw; go_simp; try with_reducible rfl)
      try simp only [Act.put, List.setIfInBounds_toArray, List.set_cons_zero, List.set_cons_succ]
      refine oneH 8 (by kernel_rfl) rfl (fun K8 hK8 => ?_)
      go_simp
      (with_reducible refine (HC.out _ HS).mono ?_)
      rintro e w6 ⟨rfl, hb6⟩
      have HB6 := Lib.hid (HS.step hb6)
      have HT6 := Lib.hid (HT4.out.step hb6)
      have HW6 := Lib.hid (HW4.out.trans (hb6.mono HW4.out.size))
      clear hb6
      refine hK8.out _ _ (HB6.out) (fun HS => ?_)
      clear hK8 K8
      try simp only [Act.put, List.setIfInBounds_toArray, List.set_cons_zero, List.set_cons_succ]
      refine oneH 9 (by kernel_rfl) rfl (fun K9 hK9 => ?_)
      go_simp
      (with_reducible refine (bit_any _ _).mono ?_)
      rintro e w7 ⟨rfl, rfl⟩
      refine hK9.out _ _ (HB6.out) (fun HS => ?_)
      clear hK9 K9
      try simp only [Act.put, List.setIfInBounds_toArray, List.set_cons_zero, List.set_cons_succ]
      refine' doH 10 (v := ?v10) rfl (by kernel_rfl) (by kernel_rfl) (by kernel_rfl) (fun _ _ _ h => h) rfl HS ?hy10 ?rest10
      case hy10 => (rintro w hSw; go_simp; try with_reducible rfl)
      try simp only [Act.put, List.setIfInBounds_toArray, List.set_cons_zero, List.set_cons_succ]
      refine' doH 11 (v := ?v11) rfl (by kernel_rfl) (by kernel_rfl) (by kernel_rfl) (fun _ _ _ h => h) rfl HS ?hy11 ?rest11
      case hy11 => (rintro w hSw; go_simp; try with_reducible rfl)
      try simp only [Act.put, List.setIfInBounds_toArray, List.set_cons_zero, List.set_cons_succ]
      refine' doH 12 (v := ?v12) rfl (by kernel_rfl) (by kernel_rfl) (by kernel_rfl) (fun _ _ _ h => h) rfl HS ?hy12 ?rest12
      case hy12 => (rintro w hSw; go_simp; try with_reducible rfl)
      try simp only [Act.put, List.setIfInBounds_toArray, List.set_cons_zero, List.set_cons_succ]
      refine' doH 13 (v := ?v13) rfl (by kernel_rfl) (by kernel_rfl) (by kernel_rfl) (fun _ _ _ h => h) rfl HS ?hy13 ?rest13
      case hy13 => (rintro w hSw; go_simp; try with_reducible rfl)
      try simp only [Act.put, List.setIfInBounds_toArray, List.set_cons_zero, List.set_cons_succ]
      refine' doH 14 (v := ?v14) rfl (by kernel_rfl) (by kernel_rfl) (by kernel_rfl) (fun _ _ _ h => h) rfl HS ?hy14 ?rest14
      case hy14 => (rintro w hSw; go_simp; try with_reducible rfl)
      try simp only [Act.put, List.setIfInBounds_toArray, List.set_cons_zero, List.set_cons_succ]
      refine wpAnyH_done (by kernel_rfl) ?_ _
      refine NoPanic.normal ?_
      by_cases hnt : n < tl
      · have hmin : min n tl = n := by omega
        have hnt' : (n : Int) < (tl : Int) := by omega
        have r0 := HT6.out.r0
        have t0 := HT6.out.t0
        rw [hmin] at r0 t0
        have HB5 := Lib.hid (HT6.out.l0)
        go_wp2_with
          (at_builtin; refine wpList_append_lies _ rfl _ _ 73 rfl w3.heap.size 4 i0 (.bool false) 1 1 Try.underlying73 hi hz0 hz1 hz2 rfl (by decide) _ n _ rfl (r0.alloc _) ⟨w6.heap.size, 0, none⟩ 1 1 [.bool bv] rfl rfl ?c1 ?c2 (by decide) ?c3 ?c4 ?c5 (w6.heap.size + 1) (by simp) ?_)
        case c1 =>
          intro j u hj
          match j, hj with
          | 0, hj => simp at hj; subst hj; simp [Addr.add]
        case c2 => intro u hu; simp at hu; subst hu; rfl
        case c3 => unfold maxLen; omega
        case c4 => omega
        case c5 => have := HW6.out.size; simp; omega
        intro g cap w7 hown7 hgrow hat hg7
        have HPush := Lib.hid (HT6.out.tail hnt HV.out hown7 hgrow hat hg7)
        have p0 := HPush.out.1
        have p1 := HPush.out.2.1
        have HWn := Lib.hid (two_below HW6.out hgrow (fun j hj => (r0.lt j hj).1) HW6.out.size)
        clear hown7 hgrow hat hg7 r0 t0
        go_wp2
        go_roundw
        case rel => exact ⟨n + 1, by omega, by go_num, HWn.out.setCell (by simp; omega) _, _, _, _, _, HPush.out.2.2⟩
        case measure => simp [intOf]; omega
      · have hnt' : ¬ (n : Int) < (tl : Int) := by omega
        have r0 := HT6.out.r1
        have t0 := HT6.out.t1
        obtain ⟨j, hj⟩ : ∃ j : Nat, j = n - tl := ⟨_, rfl⟩
        rw [← hj] at r0 t0
        have hj3 : j ≤ 3600 := by omega
        have HJ := Lib.hid hj
        clear hj
        have HB5 := Lib.hid (HT6.out.l0)
        go_wp2_with
          (at_builtin; refine wpList_append_lies _ rfl _ _ 73 rfl w3.heap.size 4 i0 (.bool false) 1 1 Try.underlying73 hi hz0 hz1 hz2 rfl (by decide) _ j _ rfl (r0.alloc _) ⟨w6.heap.size, 0, none⟩ 1 1 [.bool bv] rfl rfl ?d1 ?d2 (by decide) ?d3 ?d4 ?d5 (w6.heap.size + 1) (by simp) ?_)
        case d2 => rfl
        case d3 => unfold maxLen; omega
        case d4 => omega
        case d5 => have := HW6.out.size; simp; omega
        intro g cap w7 hown7 hgrow hat hg7
        rw [HJ.out] at hown7
        have HPush := Lib.hid (HT6.out.ring (by omega) HV.out hown7 hgrow hat hg7)
        rw [← HJ.out] at HPush
        have p0 := HPush.out.1
        have p1 := HPush.out.2.1
        have HWn := Lib.hid (two_below HW6.out hgrow (fun j hj => (r0.lt j hj).1) HW6.out.size)
        clear hown7 hgrow hat hg7 r0 t0
        go_wp2
        go_roundw
        case rel => exact ⟨n + 1, by omega, by go_num, HWn.out.setCell (by simp; omega) _, _, _, _, _, HPush.out.2.2⟩
        case measure => simp [intOf]; omega
    · obtain rfl : n = tl + p := by omega
      have hlt' : ¬ (tl : Int) + (p : Int) < (tl : Int) + (p : Int) := by omega
      have hmin : min (tl + p) tl = tl := by omega
      have hsub : tl + p - tl = p := by omega
      have r0 := hTR.r0
      have r1 := hTR.r1
      have t0 := hTR.t0
      have t1 := hTR.t1
      rw [hmin] at r0 t0
      rw [hsub] at r1 t1
      have hin : LessIn wr (part (twoF kind (fS s) (fS t)) 0 tl) (part (twoF kind (fS s) (fS t)) tl p) (some ⟨g1, 0, none⟩) tl k1 (some ⟨g2, 0, none⟩) p k2 :=
        ⟨reads_own2 r0 (part_length _ _ _), reads_own2 r1 (part_length _ _ _), (own_cap r0).1, (own_cap r1).1, (own_cap r0).2, (own_cap r1).2, by omega, by omega, hp0⟩
      have HIn := Lib.hid hin
      have HX := Lib.hid (hasB_part hp0 HP.out)
      clear hin r0 r1 hTR hBL
      go_wp2_with fail
      refine (done_gen _ _ _ _ _ _ _ _ _ HIn.out).mono ?_
      rintro e w4 ⟨⟨T, b, rfl, hmade⟩, hb4⟩
      rw [HX.out] at hmade
      have HMd := Lib.hid hmade
      have HB4 := Lib.hid hb4
      clear hmade hb4
      go_wp2
      go_ret2
      exact ⟨⟨T, b, rfl, HMd.out⟩, HH3.out.below.trans ((HW.out.trans (HB4.out.mono HW.out.size)).mono HH3.out.below.size)⟩

set_option maxHeartbeats 400000 in
theorem specTwo_off (s t : ByteArray) (kind : Int) (w : World) (hs : s.size ≤ 1048576) (ht : t.size ≤ 1048576) (h : (okS s && okS t) = false) :
    Calls Try.prog 136 #[.string s, .string t, .int .i64 kind] w fun e w' => e = .returned (.tuple #[.string ⟨#[]⟩, .bool false]) ∧ Below w.heap.size w w' := by
  cases h1 : okS s
  · cases h2 : okS t
    · go_enter Try.func136, Try.ntmps136
      go_wp2_with fail
      refine (read_off s _ hs h1).mono ?_
      rintro e w1 ⟨a1, n1, c1, a2, n2, c2, rfl, hb⟩
      go_wp2_with fail
      refine (read_off t _ ht h2).mono ?_
      rintro e w2 ⟨b1, m1, d1, b2, m2, d2, rfl, hb2⟩
      go_wp2
      go_ret2
      exact ⟨rfl, below_second hb hb2 _⟩
    · go_enter Try.func136, Try.ntmps136
      go_wp2_with fail
      refine (read_off s _ hs h1).mono ?_
      rintro e w1 ⟨a1, n1, c1, a2, n2, c2, rfl, hb⟩
      go_wp2_with fail
      refine (read_on t _ ht h2).mono ?_
      rintro e w2 ⟨b1, m1, d1, b2, m2, d2, rfl, hb2, _⟩
      go_wp2
      go_ret2
      exact ⟨rfl, below_second hb hb2 _⟩
  · have h2 : okS t = false := by rw [h1, Bool.true_and] at h; exact h
    go_enter Try.func136, Try.ntmps136
    go_wp2_with fail
    refine (read_on s _ hs h1).mono ?_
    rintro e w1 ⟨a1, n1, c1, a2, n2, c2, rfl, hb, _⟩
    go_wp2_with fail
    refine (read_off t _ ht h2).mono ?_
    rintro e w2 ⟨b1, m1, d1, b2, m2, d2, rfl, hb2⟩
    go_wp2
    go_ret2
    exact ⟨rfl, below_second hb hb2 _⟩
theorem specTwo (s t : ByteArray) (kind : Nat) (w : World) (hs : s.size ≤ 1048576) (ht : t.size ≤ 1048576) (hk : kind < 16) :
    Calls Try.prog 136 #[.string s, .string t, .int .i64 kind] w fun e w' => MakeEnd (okS s && okS t) (twoF kind (fS s) (fS t)) e ∧ Below w.heap.size w w' := by
  cases h : (okS s && okS t)
  · exact (specTwo_off s t kind w hs ht h).mono fun e w' ⟨he, hb⟩ => ⟨by rw [he]; exact makeEnd_off rfl, hb⟩
  · rw [Bool.and_eq_true] at h
    exact (specTwo_on s t kind w hs ht h.1 h.2 hk).mono fun e w' ⟨⟨T, b, he, hm⟩, hb⟩ => ⟨by rw [he]; exact makeEnd_on hm, hb⟩

end Go.Proofs.Ytiphooodijbhiaa
