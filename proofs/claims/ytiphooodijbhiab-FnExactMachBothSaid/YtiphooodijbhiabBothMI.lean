/-
  The walks of pairSet and of the program's MachBoth.
-/
import Derived.Test.YtiphooodijbhiabTurnI
import Derived.Test.YtiphooodijbhiabSteps
import Derived.Deep.RegionHeld3
namespace Go.Proofs.Ytiphooodijbhiab
open Go.RowKit
set_option linter.unusedVariables false

theorem pairK_lt {a b n k : Nat} (hb : b < 2 ^ n) (hn : n ≤ 5) (hk : k ≤ 5) : pairK a b n k < 2 ^ 30 := by
  induction k with
  | zero => exact Nat.two_pow_pos _
  | succ k ih =>
    unfold pairK
    split
    · refine Nat.or_lt_two_pow (ih (by omega)) ?_
      have h1 : n * k ≤ 5 * 4 := Nat.mul_le_mul hn (by omega)
      have h2 : 2 ^ (n * k) ≤ 2 ^ 20 := Nat.pow_le_pow_right (by decide) h1
      have h3 : 2 ^ n ≤ 2 ^ 5 := Nat.pow_le_pow_right (by decide) hn
      calc b * 2 ^ (n * k) ≤ 31 * 2 ^ 20 := Nat.mul_le_mul (by omega) h2
        _ < 2 ^ 30 := by decide
    · exact ih (by omega)
theorem pairK_succ (a b n k : Nat) : pairK a b n (k + 1) = if a.testBit k then pairK a b n k ||| b * 2 ^ (n * k) else pairK a b n k := rfl

set_option maxHeartbeats 1000000 in
theorem pairSet_is (a b n : Nat) (w : World) (ha : a < 2 ^ 62) (hb : b < 2 ^ n) (hn : n ≤ 5) :
    Calls Try.prog 89 #[.int .i64 a, .int .i64 b, .int .i64 n] w fun e w' => e = .returned (.int .i64 (pairN a b n : Nat)) ∧ w' = w := by
  go_enter Try.func89, Try.ntmps89
  go_wp2
  go_loopw [7, 9] (fun v i wr => ∃ k : Nat, i = .int .i64 k ∧ k ≤ 5 ∧ v = .int .i64 (pairK a b n k : Nat) ∧ wr = w) (fun _ i _ => 5 - (intOf i).toNat)
  case atStart => exact ⟨0, rfl, Nat.zero_le _, rfl, rfl⟩
  case round =>
    obtain ⟨k, rfl, hk, rfl, rfl⟩ := hrel
    by_cases hlt : k < 5
    · have HS := pairK_succ a b n k
      have x1 := pairK_lt (a := a) hb hn hk
      have x2 : b * 2 ^ (n * k) < 2 ^ 30 := by
        have h1 : n * k ≤ 5 * 4 := Nat.mul_le_mul hn (by omega)
        have h2 : 2 ^ (n * k) ≤ 2 ^ 20 := Nat.pow_le_pow_right (by decide) h1
        have h3 : 2 ^ n ≤ 2 ^ 5 := Nat.pow_le_pow_right (by decide) hn
        calc b * 2 ^ (n * k) ≤ 31 * 2 ^ 20 := Nat.mul_le_mul (by omega) h2
          _ < 2 ^ 30 := by decide
      have hm20 : n * k ≤ 20 := by have : n * k ≤ 5 * 4 := Nat.mul_le_mul hn (by omega); omega
      obtain ⟨m, hm⟩ : ∃ m, m = n * k := ⟨_, rfl⟩
      have hmul : (n : Int) * (k : Int) = (m : Int) := by rw [hm]; simp
      rw [← hm] at HS x2 hm20
      obtain ⟨B, hB⟩ : ∃ B, B = b * 2 ^ m := ⟨_, rfl⟩
      have hbm : (b : Int) * 2 ^ m = (B : Int) := by rw [hB, pow_cast]; simp
      rw [← hB] at HS x2
      obtain ⟨X, hX⟩ : ∃ X, X = pairK a b n k := ⟨_, rfl⟩
      rw [← hX] at HS x1 ⊢
      have HO : Hid (Go.bits .or .i64 (X : Int) (B : Int) = ((X ||| B : Nat) : Int)) := Lib.hid (bit_or _ _ (by omega) (by omega))
      clear hX hB hm
      cases hd : a.testBit k
      · rw [hd] at HS
        simp only [Bool.false_eq_true, if_false] at HS
        have HS := Lib.hid HS
        go_wp2_with fail
        refine (hasState_is a k _ ha (by omega)).mono ?_
        rw [hd]
        rintro e1 w1 ⟨rfl, rfl⟩
        clear hd
        go_wp2
        go_roundw
        case rel => exact ⟨k + 1, by go_num, by omega, by rw [HS.out], trivial⟩
        case measure => simp [intOf]; omega
      · rw [hd] at HS
        simp only [if_true] at HS
        have HS := Lib.hid HS
        go_wp2_with fail
        refine (hasState_is a k _ ha (by omega)).mono ?_
        rw [hd]
        rintro e1 w1 ⟨rfl, rfl⟩
        clear hd
        go_wp2
        rw [HO.out]
        go_roundw
        case rel => exact ⟨k + 1, by go_num, by omega, by rw [HS.out], trivial⟩
        case measure => simp [intOf]; omega
    · obtain rfl : k = 5 := by omega
      go_wp2
      go_ret
      exact ⟨rfl, rfl⟩

/-- Is there a machine of pairs? -/
def okBoth (zs : List Int) (b e : Int) (ys : List Int) (d f : Int) : Bool := okM zs b e && okM ys d f && decide (zs.length * ys.length ≤ 5)

/-- The world of MachBoth's loops: both boxes, the result's cell, and the sets so far. -/
structure PairAt (a : Option Addr) (n c : Nat) (b e : Int) (a2 : Option Addr) (n2 c2 : Nat) (d f : Int) (la lb : List Nat) (m : Nat) (v : Value) (w wr : World) : Prop where
  box : BoxM a n c b e w.heap.size w wr
  k0 : wr.cell? ⟨w.heap.size + 1, 0, none⟩ = some (.slice a2 n2 c2)
  k1 : wr.cell? ⟨w.heap.size + 1, 1, none⟩ = some (.int .i64 d)
  k2 : wr.cell? ⟨w.heap.size + 1, 2, none⟩ = some (.int .i64 f)
  res : ResM (.slice none 0 0) (.int .i64 0) (.int .i64 0) (w.heap.size + 1 + 1) wr
  own : wr.ownsRow (w.heap.size + 1 + 1 + 1) 3 1 v m (ints (castM (pairT la lb n2 m)))
  size : w.heap.size + 1 + 1 + 1 ≤ wr.heap.size
theorem PairAt.step {a a2 : Option Addr} {n c n2 c2 m : Nat} {b e d f : Int} {la lb : List Nat} {v : Value} {w wr w1 : World} (h : PairAt a n c b e a2 n2 c2 d f la lb m v w wr) (hb : Below wr.heap.size wr w1) : PairAt a n c b e a2 n2 c2 d f la lb m v w w1 := by
  have hs := h.size
  have hl : w.heap.size + 1 < wr.heap.size := by omega
  exact ⟨h.box.step hb, (hb.cell (p := ⟨w.heap.size + 1, 0, none⟩) hl).trans h.k0, (hb.cell (p := ⟨w.heap.size + 1, 1, none⟩) hl).trans h.k1, (hb.cell (p := ⟨w.heap.size + 1, 2, none⟩) hl).trans h.k2, h.res.step hb, own_below h.own hb (Nat.le_refl _), Nat.le_trans hs hb.size⟩
theorem PairAt.next {a a2 : Option Addr} {n c n2 c2 i k : Nat} {b e d f : Int} {la lb : List Nat} {v v' : Value} {w wr w1 : World} {o : Obj} (h : PairAt a n c b e a2 n2 c2 d f la lb (n2 * i + k) v w wr) (hk : k < n2)
    (hown : w1.ownsRow (w.heap.size + 1 + 1 + 1) 3 1 v' (n2 * i + k + 1) (ints (castM (pairT la lb n2 (n2 * i + k))) ++ [.int .i64 (pairN (la.getD i 0) (lb.getD k 0) n2 : Nat)])) (hg : (wr.alloc o).grownBy w1 v.ownBlock) :
    PairAt a n c b e a2 n2 c2 d f la lb (n2 * i + (k + 1)) v' w w1 := by
  have h2 := h.step ((Below.refl _ _).alloc (Nat.le_refl _) o)
  have hs := h2.size
  have hr : ∀ j, v.ownBlock = some j → w.heap.size + 1 + 1 + 1 ≤ j := fun j hj => (h.own.lt j hj).1
  have hb : Below (w.heap.size + 1 + 1 + 1) (wr.alloc o) w1 := (Below.refl _ _).grown hg hs hr
  have hl : w.heap.size + 1 < w.heap.size + 1 + 1 + 1 := by omega
  have hl0 : w.heap.size < w.heap.size + 1 + 1 + 1 := by omega
  refine ⟨⟨(hb.cell (p := ⟨w.heap.size, 0, none⟩) hl0).trans h2.box.q0, (hb.cell (p := ⟨w.heap.size, 1, none⟩) hl0).trans h2.box.q1, (hb.cell (p := ⟨w.heap.size, 2, none⟩) hl0).trans h2.box.q2, Nat.lt_of_lt_of_le h2.box.lt hb.size, h2.box.below.trans (hb.mono (by omega))⟩,
    (hb.cell (p := ⟨w.heap.size + 1, 0, none⟩) hl).trans h2.k0, (hb.cell (p := ⟨w.heap.size + 1, 1, none⟩) hl).trans h2.k1, (hb.cell (p := ⟨w.heap.size + 1, 2, none⟩) hl).trans h2.k2, (hb.block _ (by omega)).trans h2.res, ?_, Nat.le_trans hs hb.size⟩
  obtain ⟨e1, e2, _⟩ := two_index (x := i + 1) (by omega) hk (Nat.lt_succ_self i)
  rw [show n2 * i + (k + 1) = n2 * i + k + 1 from rfl, pairT_succ, e1, e2]
  unfold castM ints at hown ⊢
  rw [List.map_append, List.map_append]
  exact hown
theorem kept_three {a a2 : Option Addr} {n c n2 c2 m : Nat} {b e d f : Int} {la lb : List Nat} {v : Value} {w wr : World} (h : PairAt a n c b e a2 n2 c2 d f la lb m v w wr) (x y z : Value) :
    (((wr.setCell ⟨w.heap.size + 1 + 1, 0, none⟩ x).setCell ⟨w.heap.size + 1 + 1, 1, none⟩ y).setCell ⟨w.heap.size + 1 + 1, 2, none⟩ z).drew.cell? ⟨w.heap.size, 1, none⟩ = some (.int .i64 b) ∧
    (((wr.setCell ⟨w.heap.size + 1 + 1, 0, none⟩ x).setCell ⟨w.heap.size + 1 + 1, 1, none⟩ y).setCell ⟨w.heap.size + 1 + 1, 2, none⟩ z).drew.cell? ⟨w.heap.size, 2, none⟩ = some (.int .i64 e) ∧
    (((wr.setCell ⟨w.heap.size + 1 + 1, 0, none⟩ x).setCell ⟨w.heap.size + 1 + 1, 1, none⟩ y).setCell ⟨w.heap.size + 1 + 1, 2, none⟩ z).drew.cell? ⟨w.heap.size + 1, 1, none⟩ = some (.int .i64 d) ∧
    (((wr.setCell ⟨w.heap.size + 1 + 1, 0, none⟩ x).setCell ⟨w.heap.size + 1 + 1, 1, none⟩ y).setCell ⟨w.heap.size + 1 + 1, 2, none⟩ z).drew.cell? ⟨w.heap.size + 1, 2, none⟩ = some (.int .i64 f) := by
  have hb : Below (w.heap.size + 1 + 1) wr (((wr.setCell ⟨w.heap.size + 1 + 1, 0, none⟩ x).setCell ⟨w.heap.size + 1 + 1, 1, none⟩ y).setCell ⟨w.heap.size + 1 + 1, 2, none⟩ z).drew := (below_three (Below.refl _ _) (Nat.le_refl _) x y z).drew
  exact ⟨(hb.cell (p := ⟨w.heap.size, 1, none⟩) (by show w.heap.size < _; omega)).trans h.box.q1, (hb.cell (p := ⟨w.heap.size, 2, none⟩) (by show w.heap.size < _; omega)).trans h.box.q2, (hb.cell (p := ⟨w.heap.size + 1, 1, none⟩) (by show w.heap.size + 1 < _; omega)).trans h.k1, (hb.cell (p := ⟨w.heap.size + 1, 2, none⟩) (by show w.heap.size + 1 < _; omega)).trans h.k2⟩
/-- Both boxes and the result's cell. -/
structure BothBox (a : Option Addr) (n c : Nat) (b e : Int) (a2 : Option Addr) (n2 c2 : Nat) (d f : Int) (w wr : World) : Prop where
  box : BoxM a n c b e w.heap.size w wr
  k0 : wr.cell? ⟨w.heap.size + 1, 0, none⟩ = some (.slice a2 n2 c2)
  k1 : wr.cell? ⟨w.heap.size + 1, 1, none⟩ = some (.int .i64 d)
  k2 : wr.cell? ⟨w.heap.size + 1, 2, none⟩ = some (.int .i64 f)
  res : ResM (.slice none 0 0) (.int .i64 0) (.int .i64 0) (w.heap.size + 1 + 1) wr
theorem BothBox.step {a a2 : Option Addr} {n c n2 c2 : Nat} {b e d f : Int} {w wr w1 : World} (h : BothBox a n c b e a2 n2 c2 d f w wr) (hb : Below wr.heap.size wr w1) : BothBox a n c b e a2 n2 c2 d f w w1 := by
  have hl := lt_of_block h.res
  exact ⟨h.box.step hb, (hb.cell (p := ⟨w.heap.size + 1, 0, none⟩) (by show w.heap.size + 1 < _; omega)).trans h.k0, (hb.cell (p := ⟨w.heap.size + 1, 1, none⟩) (by show w.heap.size + 1 < _; omega)).trans h.k1, (hb.cell (p := ⟨w.heap.size + 1, 2, none⟩) (by show w.heap.size + 1 < _; omega)).trans h.k2, h.res.step hb⟩
theorem bothBox_start (a : Option Addr) (n c : Nat) (b e : Int) (a2 : Option Addr) (n2 c2 : Nat) (d f : Int) (w : World) :
    BothBox a n c b e a2 n2 c2 d f w (((w.alloc (.cells #[.slice a n c, .int .i64 b, .int .i64 e] 50)).alloc (.cells #[.slice a2 n2 c2, .int .i64 d, .int .i64 f] 50)).alloc (.cells #[.slice none 0 0, .int .i64 0, .int .i64 0] 50)) := by
  have h1 := boxM_start a2 n2 c2 d f (w.alloc (.cells #[.slice a n c, .int .i64 b, .int .i64 e] 50)) 50
  have h2 := h1.step ((Below.refl _ _).alloc (Nat.le_refl _) (.cells #[.slice none 0 0, .int .i64 0, .int .i64 0] 50))
  have h3 := resM_start ((w.alloc (.cells #[.slice a n c, .int .i64 b, .int .i64 e] 50)).alloc (.cells #[.slice a2 n2 c2, .int .i64 d, .int .i64 f] 50))
  have k0 := h2.q0
  have k1 := h2.q1
  have k2 := h2.q2
  rw [World.size_alloc] at k0 k1 k2
  rw [World.size_alloc, World.size_alloc] at h3
  exact ⟨((boxM_start a n c b e w 50).step ((Below.refl _ _).alloc (Nat.le_refl _) _)).step ((Below.refl _ _).alloc (Nat.le_refl _) _), k0, k1, k2, h3⟩
theorem BothBox.start {a a2 : Option Addr} {n c n2 c2 : Nat} {b e d f : Int} {w wr : World} (la lb : List Nat) (h : BothBox a n c b e a2 n2 c2 d f w wr) :
    PairAt a n c b e a2 n2 c2 d f la lb 0 (.slice (some ⟨wr.heap.size, 0, none⟩) 0 0) w (wr.alloc (.cells #[] 3)) := by
  have hl := lt_of_block h.res
  have h1 := h.step ((Below.refl wr.heap.size wr).alloc (Nat.le_refl _) (.cells #[] 3))
  exact ⟨h1.box, h1.k0, h1.k1, h1.k2, h1.res, own_base (World.ownsRow_made (e := 3) (size := 1) wr #[] 0 (Nat.le_refl _) (by decide) rfl) hl, by simp; omega⟩

set_option maxRecDepth 100000 in
set_option maxHeartbeats 4000000 in
theorem implBoth (a : Option Addr) (n c : Nat) (zs : List Int) (b e : Int) (a2 : Option Addr) (n2 c2 : Nat) (ys : List Int) (d f : Int) (w : World) (h : ReadsI w a n zs) (h2 : ReadsI w a2 n2 ys) (hn : n ≤ 1048576) (hn2 : n2 ≤ 1048576) :
    Calls Try.prog 48 #[.agg #[.slice a n c, .int .i64 b, .int .i64 e], .agg #[.slice a2 n2 c2, .int .i64 d, .int .i64 f]] w
      (MachEnd (okBoth zs b e ys d f) (if okBoth zs b e ys d f then pairL (natsM zs) (natsM ys) else []) (if okBoth zs b e ys d f then pairN b.toNat d.toNat n2 else 0) (if okBoth zs b e ys d f then pairN e.toNat f.toNat n2 else 0) w) := by
  obtain ⟨i0, hi, hz0, hz1, hz2⟩ := info_parts Try.infoInt
  have H := Lib.hid (((h.alloc (.cells #[.slice a n c, .int .i64 b, .int .i64 e] 50)).alloc (.cells #[.slice a2 n2 c2, .int .i64 d, .int .i64 f] 50)).alloc (.cells #[.slice none 0 0, .int .i64 0, .int .i64 0] 50))
  have H2 := Lib.hid (((h2.alloc (.cells #[.slice a n c, .int .i64 b, .int .i64 e] 50)).alloc (.cells #[.slice a2 n2 c2, .int .i64 d, .int .i64 f] 50)).alloc (.cells #[.slice none 0 0, .int .i64 0, .int .i64 0] 50))
  have HBX := Lib.hid (bothBox_start a n c b e a2 n2 c2 d f w)
  have HR0 := Lib.hid h
  have HR2 := Lib.hid h2
  clear h h2
  cases ho : okM zs b e
  · have hk : okBoth zs b e ys d f = false := by unfold okBoth; rw [ho]; rfl
    rw [hk]
    simp only [Bool.false_eq_true, if_false]
    clear hk
    go_enter Try.func48, Try.ntmps48
    go_wp2_with fail
    refine (machFits_is a n c zs b e _ H.out hn).mono ?_
    rw [ho]
    rintro e1 w9 ⟨rfl, hb⟩
    have HB1 := Lib.hid (HBX.out.step hb)
    have HF := Lib.hid (HB1.out.res.stored (.slice none 0 0) (.int .i64 0) (.int .i64 0))
    have HBF := Lib.hid (below_three (R := w.heap.size + 1 + 1) HB1.out.box.below (by omega) (.slice none 0 0) (.int .i64 0) (.int .i64 0))
    obtain ⟨x0, x1, x2, x3, x4, x5⟩ := HB1.out.res.cells
    clear hb ho
    go_wp2
    generalize (((w9.setCell ⟨w.heap.size + 1 + 1, 0, none⟩ (.slice none 0 0)).setCell ⟨w.heap.size + 1 + 1, 1, none⟩ (.int .i64 0)).setCell ⟨w.heap.size + 1 + 1, 2, none⟩ (.int .i64 0)) = wz at HF HBF ⊢
    obtain ⟨d0, d1, d2, _⟩ := HF.out.cells
    exact bodyPost_ret (v := .tuple #[.agg #[.slice none 0 0, .int .i64 0, .int .i64 0], .bool false]) (by simp [results, Try.results48, go_sem, d0, d1, d2]) rfl ⟨none, 0, 0, rfl, own_base (own_nil _) HBF.out.size, rfl, HBF.out⟩
  · cases ho2 : okM ys d f
    · have hk : okBoth zs b e ys d f = false := by unfold okBoth; rw [ho, ho2]; rfl
      rw [hk]
      simp only [Bool.false_eq_true, if_false]
      clear hk
      go_enter Try.func48, Try.ntmps48
      go_wp2_with fail
      refine (machFits_is a n c zs b e _ H.out hn).mono ?_
      rw [ho]
      rintro e1 w1 ⟨rfl, hb⟩
      have HB1 := Lib.hid (HBX.out.step hb)
      have H3 := Lib.hid (H2.out.below hb (Nat.le_refl _))
      have y0 := HB1.out.k0
      have y1 := HB1.out.k1
      have y2 := HB1.out.k2
      clear hb ho
      go_wp2_with fail
      refine (machFits_is a2 n2 c2 ys d f _ H3.out hn2).mono ?_
      rw [ho2]
      rintro e1 w9 ⟨rfl, hb⟩
      have HB2 := Lib.hid (HB1.out.step hb)
      have HF := Lib.hid (HB2.out.res.stored (.slice none 0 0) (.int .i64 0) (.int .i64 0))
      have HBF := Lib.hid (below_three (R := w.heap.size + 1 + 1) HB2.out.box.below (by omega) (.slice none 0 0) (.int .i64 0) (.int .i64 0))
      obtain ⟨x0, x1, x2, x3, x4, x5⟩ := HB2.out.res.cells
      clear hb ho2 y0 y1 y2
      go_wp2
      generalize (((w9.setCell ⟨w.heap.size + 1 + 1, 0, none⟩ (.slice none 0 0)).setCell ⟨w.heap.size + 1 + 1, 1, none⟩ (.int .i64 0)).setCell ⟨w.heap.size + 1 + 1, 2, none⟩ (.int .i64 0)) = wz at HF HBF ⊢
      obtain ⟨d0, d1, d2, _⟩ := HF.out.cells
      exact bodyPost_ret (v := .tuple #[.agg #[.slice none 0 0, .int .i64 0, .int .i64 0], .bool false]) (by simp [results, Try.results48, go_sem, d0, d1, d2]) rfl ⟨none, 0, 0, rfl, own_base (own_nil _) HBF.out.size, rfl, HBF.out⟩
    · obtain ⟨l, n', s, t, rfl, hl, rfl, rfl, hg⟩ := okM_good ho
      have hnn : n' = n := by rw [← hl]; exact HR0.out.len
      subst hnn
      obtain ⟨l2, n2', s2, t2, rfl, hl2, rfl, rfl, hg2⟩ := okM_good ho2
      have hnn2 : n2' = n2 := by rw [← hl2]; exact HR2.out.len
      subst hnn2
      have hkk : okBoth (castM l) s t (castM l2) s2 t2 = decide (n' * n2' ≤ 5) := by unfold okBoth; rw [ho, ho2, hl, hl2]; rfl
      rw [hkk]
      have HG := Lib.hid hg
      have HG2 := Lib.hid hg2
      have hn5 := hg.le
      have hn25 := hg2.le
      have hpos2 := hg2.pos
      obtain ⟨M, hM⟩ : ∃ M, M = n' * n2' := ⟨_, rfl⟩
      have hmul : (n' : Int) * (n2' : Int) = (M : Int) := by rw [hM]; simp
      have hM25 : M ≤ 25 := by rw [hM]; exact Nat.mul_le_mul hn5 hn25
      have HM := Lib.hid hM
      rw [← hM]
      clear hM hg hg2 hkk
      by_cases h5 : M ≤ 5
      · rw [decide_eq_true h5]
        simp only [if_true, natsM_cast, toNat_cast]
        go_enter Try.func48, Try.ntmps48
        go_wp2_with fail
        refine (machFits_is a n' c (castM l) s t _ H.out hn).mono ?_
        rw [ho]
        rintro e1 w1 ⟨rfl, hb⟩
        have HB1 := Lib.hid (HBX.out.step hb)
        have H3 := Lib.hid (H2.out.below hb (Nat.le_refl _))
        have y0 := HB1.out.k0
        have y1 := HB1.out.k1
        have y2 := HB1.out.k2
        clear hb ho
        go_wp2_with fail
        refine (machFits_is a2 n2' c2 (castM l2) s2 t2 _ H3.out hn2).mono ?_
        rw [ho2]
        rintro e1 w2 ⟨rfl, hb⟩
        have HB2 := Lib.hid (HB1.out.step hb)
        have q0 := HB2.out.box.q0
        have r0 := HB2.out.k0
        have HST := Lib.hid (HB2.out.start l l2)
        obtain ⟨G, hG⟩ : ∃ G, G = w2.heap.size := ⟨_, rfl⟩
        have z0 := HST.out.box.q0
        have z1 := HST.out.k0
        clear hb ho2 y0 y1 y2 hG
        go_wp2
        go_loopw [7, 38] (fun v i wr => ∃ k : Nat, i = .int .i64 k ∧ k ≤ n' ∧ PairAt a n' c s t a2 n2' c2 s2 t2 l l2 (n2' * k) v w wr) (fun _ i _ => n' - (intOf i).toNat)
        case atStart => exact ⟨0, rfl, Nat.zero_le _, HST.out⟩
        case round =>
          obtain ⟨i, rfl, hin, hl⟩ := hrel
          by_cases hlt : i < n'
          · rcases (HR0.out.below hl.box.below (Nat.le_refl _)).cells with h | ⟨g, o, rfl, hg, hc⟩
            · omega
            have x1 := hc i hlt
            rw [castM_getD] at x1
            clear hc
            have za62 := lt62 (HG.out.good.lt i) (show n' ≤ 25 by omega)
            obtain ⟨z, hz⟩ : ∃ z, z = l.getD i 0 := ⟨_, rfl⟩
            rw [← hz] at x1 za62
            have HZ := Lib.hid hz
            have HL := Lib.hid hl
            have k0 := hl.k0
            have b1 : (i : Int) < (n' : Int) := by omega
            have b2 : (0 : Int) ≤ (i : Int) := by omega
            clear hl hz
            go_wp2
            go_loopw [7, 45] (fun v j wr => ∃ k : Nat, j = .int .i64 k ∧ k ≤ n2' ∧ PairAt (some ⟨g, o, none⟩) n' c s t a2 n2' c2 s2 t2 l l2 (n2' * i + k) v w wr) (fun _ j _ => n2' - (intOf j).toNat)
            case atStart => exact ⟨0, rfl, Nat.zero_le _, HL.out⟩
            case round =>
              obtain ⟨k, rfl, hkn, hl⟩ := hrel
              obtain ⟨a3, c3, rfl⟩ := own_form hl.own
              by_cases hk : k < n2'
              · rcases (HR2.out.below hl.box.below (Nat.le_refl _)).cells with h | ⟨g2, o2, rfl, hg2, hc⟩
                · omega
                have x2 := hc k hk
                rw [castM_getD] at x2
                clear hc
                have zb := HG2.out.good.lt k
                obtain ⟨y, hy⟩ : ∃ y, y = l2.getD k 0 := ⟨_, rfl⟩
                rw [← hy] at x2 zb
                have HY := Lib.hid hy
                have hown := hl.own
                have hsz := hl.size
                have HL2 := Lib.hid hl
                have c1 : (k : Int) < (n2' : Int) := by omega
                have c4 : (0 : Int) ≤ (k : Int) := by omega
                obtain ⟨P, hP⟩ : ∃ P, P = pairN z y n2' := ⟨_, rfl⟩
                have hcall : ∀ W : World, Calls Try.prog 89 #[.int .i64 z, .int .i64 y, .int .i64 n2'] W fun e1 w' => e1 = .returned (.int .i64 P) ∧ w' = W := fun W => by rw [hP]; exact pairSet_is z y n2' W za62 zb hn25
                have HPP := Lib.hid hP
                have hm24 : n2' * i + k ≤ 50 := by
                  have : n2' * i ≤ 5 * 5 := Nat.mul_le_mul hn25 (by omega)
                  omega
                obtain ⟨m, hm⟩ : ∃ m, m = n2' * i + k := ⟨_, rfl⟩
                rw [← hm] at hown hm24 ⊢
                have HMM := Lib.hid hm
                clear hl hy hP hm
                go_wp2_with fail
                refine (hcall _).mono ?_
                rintro e1 w4 ⟨rfl, rfl⟩
                clear hcall
                go_wp2_with
                  (at_builtin; refine wpList_append_own _ rfl _ _ 46 rfl (w.heap.size + 1 + 1 + 1) 3 i0 (.int .i64 0) 1 8 Try.underlying46 hi hz0 hz1 hz2 rfl (by decide) _ _ _ rfl (hown.alloc _) ⟨w4.heap.size, 0, none⟩ 1 1 [.int .i64 P] rfl rfl ?c1 ?c2 ?c3 ?c4 ?c5 ?_)
                case c1 =>
                  intro j u hj
                  match j, hj with
                  | 0, hj => simp at hj; subst hj; simp [Addr.add]
                case c2 => intro u hu; simp at hu; subst hu; rfl
                case c3 => unfold maxLen; omega
                case c4 => omega
                case c5 => simp; omega
                intro v' w5 hown' hgrow _
                have HN := Lib.hid (HL2.out.next hk (by rw [← HMM.out, ← HZ.out, ← HY.out, ← HPP.out]; exact hown') (by rw [← HMM.out]; exact hgrow))
                clear hown' hgrow hown
                go_wp2
                go_roundw
                case rel => exact ⟨k + 1, by go_num, by omega, HN.out⟩
                case measure => simp [intOf]; omega
              · obtain rfl : k = n2' := by omega
                have HL2 := Lib.hid hl
                clear hl
                go_wp2
                go_roundw
                case rel => exact ⟨i + 1, by go_num, by omega, HL2.out⟩
                case measure => simp [intOf]; omega
          · obtain rfl : i = n' := by omega
            obtain ⟨a3, c3, rfl⟩ := own_form hl.own
            have HL := Lib.hid hl
            have q0 := hl.box.q0
            have q1 := hl.box.q1
            have q2 := hl.box.q2
            have k1 := hl.k1
            have k2 := hl.k2
            obtain ⟨x0, x1, x2, x3, x4, x5⟩ := hl.res.cells
            have hcS : ∀ W : World, Calls Try.prog 89 #[.int .i64 s, .int .i64 s2, .int .i64 n2'] W fun e1 w' => e1 = .returned (.int .i64 (pairN s s2 n2' : Nat)) ∧ w' = W := fun W => pairSet_is s s2 n2' W (lt62 HG.out.starts (by omega)) HG2.out.starts hn25
            have hcT : ∀ W : World, Calls Try.prog 89 #[.int .i64 t, .int .i64 t2, .int .i64 n2'] W fun e1 w' => e1 = .returned (.int .i64 (pairN t t2 n2' : Nat)) ∧ w' = W := fun W => pairSet_is t t2 n2' W (lt62 HG.out.ends (by omega)) HG2.out.ends hn25
            have HCS := Lib.hid hcS
            have HCT := Lib.hid hcT
            have hsw : n2' * i = i * n2' := Nat.mul_comm _ _
            have HPL : Hid (pairT l l2 n2' (n2' * i) = pairL l l2) := Lib.hid (by unfold pairL; rw [HG.out.good.len, HG2.out.good.len, hsw])
            obtain ⟨PS, hPS⟩ : ∃ x, x = pairN s s2 n2' := ⟨_, rfl⟩
            obtain ⟨PT, hPT⟩ : ∃ x, x = pairN t t2 n2' := ⟨_, rfl⟩
            rw [← hPS] at HCS
            rw [← hPT] at HCT
            have HPS := Lib.hid hPS
            have HPT := Lib.hid hPT
            clear hPS hPT
            obtain ⟨m, hm⟩ : ∃ m, m = n2' * i := ⟨_, rfl⟩
            rw [← hm] at HL HPL ⊢
            clear hl hcS hcT hsw hm
            go_wp2
            have HF := Lib.hid ((HL.out.res.stored (.slice a3 m c3) (.int .i64 PS) (.int .i64 PT)).step (Below.refl _ _).drew)
            have HBF := Lib.hid ((below_three (R := w.heap.size + 1 + 1) HL.out.box.below (by omega) (.slice a3 m c3) (.int .i64 PS) (.int .i64 PT)).drew)
            have HOF := Lib.hid (own_below (own_three (R := w.heap.size + 1 + 1) HL.out.own (by omega) (.slice a3 m c3) (.int .i64 PS) (.int .i64 PT)) (Below.refl _ _).drew (Nat.le_refl _))
            have SFIN := Lib.hid (kept_three HL.out (.slice a3 m c3) (.int .i64 PS) (.int .i64 PT))
            have HS := Lib.hid (And.intro q1 (And.intro q2 (And.intro k1 k2)))
            refine wp_region_noPanic ?_
            refine wp_region_held_drew (S := fun w' => w'.cell? ⟨w.heap.size, 1, none⟩ = some (.int .i64 s) ∧ w'.cell? ⟨w.heap.size, 2, none⟩ = some (.int .i64 t) ∧ w'.cell? ⟨w.heap.size + 1, 1, none⟩ = some (.int .i64 s2) ∧ w'.cell? ⟨w.heap.size + 1, 2, none⟩ = some (.int .i64 t2)) (by kernel_rfl) (HS.out) (fun HS => ?_)
            refine' doH 0 (v := ?v0) rfl (by kernel_rfl) (by kernel_rfl) (by kernel_rfl) (fun _ _ _ h => h) rfl HS ?hy0 ?rest0
            case hy0 => (rintro w ⟨s0, s1, s2', s3⟩; go_simp; try with_reducible rfl)
            try simp only [Act.put, List.setIfInBounds_toArray, List.set_cons_zero, List.set_cons_succ]
            refine' doH 1 (v := ?v1) rfl (by kernel_rfl) (by kernel_rfl) (by kernel_rfl) (fun _ _ _ h => h) rfl HS ?hy1 ?rest1
            case hy1 => (rintro w ⟨s0, s1, s2', s3⟩; go_simp; try with_reducible rfl)
            try simp only [Act.put, List.setIfInBounds_toArray, List.set_cons_zero, List.set_cons_succ]
            refine' doH 2 (v := .int .i64 s) rfl (by kernel_rfl) (by kernel_rfl) (by kernel_rfl) (fun _ _ _ h => h) rfl HS ?hy2 ?rest2
            case hy2 => (rintro w ⟨s0, s1, s2', s3⟩; go_simp; try with_reducible rfl)
            try simp only [Act.put, List.setIfInBounds_toArray, List.set_cons_zero, List.set_cons_succ]
            refine' doH 3 (v := ?v3) rfl (by kernel_rfl) (by kernel_rfl) (by kernel_rfl) (fun _ _ _ h => h) rfl HS ?hy3 ?rest3
            case hy3 => (rintro w ⟨s0, s1, s2', s3⟩; go_simp; try with_reducible rfl)
            try simp only [Act.put, List.setIfInBounds_toArray, List.set_cons_zero, List.set_cons_succ]
            refine' doH 4 (v := .int .i64 s2) rfl (by kernel_rfl) (by kernel_rfl) (by kernel_rfl) (fun _ _ _ h => h) rfl HS ?hy4 ?rest4
            case hy4 => (rintro w ⟨s0, s1, s2', s3⟩; go_simp; try with_reducible rfl)
            try simp only [Act.put, List.setIfInBounds_toArray, List.set_cons_zero, List.set_cons_succ]
            refine' doH 5 (v := ?v5) rfl (by kernel_rfl) (by kernel_rfl) (by kernel_rfl) (fun _ _ _ h => h) rfl HS ?hy5 ?rest5
            case hy5 => (rintro w ⟨s0, s1, s2', s3⟩; go_simp; try with_reducible rfl)
            try simp only [Act.put, List.setIfInBounds_toArray, List.set_cons_zero, List.set_cons_succ]
            refine' doH 7 (v := ?v7) rfl (by kernel_rfl) (by kernel_rfl) (by kernel_rfl) (fun _ _ _ h => h) rfl HS ?hy7 ?rest7
            case hy7 => (rintro w ⟨s0, s1, s2', s3⟩; go_simp; try with_reducible rfl)
            try simp only [Act.put, List.setIfInBounds_toArray, List.set_cons_zero, List.set_cons_succ]
            refine' doH 8 (v := .int .i64 t) rfl (by kernel_rfl) (by kernel_rfl) (by kernel_rfl) (fun _ _ _ h => h) rfl HS ?hy8 ?rest8
            case hy8 => (rintro w ⟨s0, s1, s2', s3⟩; go_simp; try with_reducible rfl)
            try simp only [Act.put, List.setIfInBounds_toArray, List.set_cons_zero, List.set_cons_succ]
            refine' doH 9 (v := ?v9) rfl (by kernel_rfl) (by kernel_rfl) (by kernel_rfl) (fun _ _ _ h => h) rfl HS ?hy9 ?rest9
            case hy9 => (rintro w ⟨s0, s1, s2', s3⟩; go_simp; try with_reducible rfl)
            try simp only [Act.put, List.setIfInBounds_toArray, List.set_cons_zero, List.set_cons_succ]
            refine' doH 10 (v := .int .i64 t2) rfl (by kernel_rfl) (by kernel_rfl) (by kernel_rfl) (fun _ _ _ h => h) rfl HS ?hy10 ?rest10
            case hy10 => (rintro w ⟨s0, s1, s2', s3⟩; go_simp; try with_reducible rfl)
            try simp only [Act.put, List.setIfInBounds_toArray, List.set_cons_zero, List.set_cons_succ]
            refine' doH 11 (v := ?v11) rfl (by kernel_rfl) (by kernel_rfl) (by kernel_rfl) (fun _ _ _ h => h) rfl HS ?hy11 ?rest11
            case hy11 => (rintro w ⟨s0, s1, s2', s3⟩; go_simp; try with_reducible rfl)
            try simp only [Act.put, List.setIfInBounds_toArray, List.set_cons_zero, List.set_cons_succ]
            refine oneH 6 (by kernel_rfl) rfl (fun K6 hK6 => ?_)
            go_simp
            refine (HCS.out _).mono ?_
            rintro e1 w5 ⟨rfl, rfl⟩
            refine hK6.out _ _ (HS) (fun HS => ?_)
            clear hK6 K6
            try simp only [Act.put, List.setIfInBounds_toArray, List.set_cons_zero, List.set_cons_succ]
            refine oneH 12 (by kernel_rfl) rfl (fun K12 hK12 => ?_)
            go_simp
            refine (HCT.out _).mono ?_
            rintro e1 w6 ⟨rfl, rfl⟩
            refine hK12.out _ _ (HS) (fun HS => ?_)
            clear hK12 K12
            try simp only [Act.put, List.setIfInBounds_toArray, List.set_cons_zero, List.set_cons_succ]
            refine' doH 13 (v := ?v13) rfl (by kernel_rfl) (by kernel_rfl) (by kernel_rfl) (fun _ _ _ h => h) rfl HS ?hy13 ?rest13
            case hy13 => (rintro w ⟨s0, s1, s2', s3⟩; go_simp; try with_reducible rfl)
            try simp only [Act.put, List.setIfInBounds_toArray, List.set_cons_zero, List.set_cons_succ]
            refine oneH 14 (by kernel_rfl) rfl (fun K14 hK14 => ?_)
            go_simp
            refine hK14.out _ _ (SFIN.out) (fun HS => ?_)
            clear hK14 K14
            try simp only [Act.put, List.setIfInBounds_toArray, List.set_cons_zero, List.set_cons_succ]
            refine' doH 15 (v := ?v15) rfl (by kernel_rfl) (by kernel_rfl) (by kernel_rfl) (fun _ _ _ h => h) rfl HS ?hy15 ?rest15
            case hy15 => (rintro w ⟨s0, s1, s2', s3⟩; go_simp; try with_reducible rfl)
            try simp only [Act.put, List.setIfInBounds_toArray, List.set_cons_zero, List.set_cons_succ]
            refine wpAnyH_done (by kernel_rfl) ?_ _
            refine NoPanic.normal ?_
            generalize (((wr.setCell ⟨w.heap.size + 1 + 1, 0, none⟩ (.slice a3 m c3)).setCell ⟨w.heap.size + 1 + 1, 1, none⟩ (.int .i64 PS)).setCell ⟨w.heap.size + 1 + 1, 2, none⟩ (.int .i64 PT)).drew = wz at HF HBF HOF ⊢
            obtain ⟨d0, d1, d2, _⟩ := HF.out.cells
            go_wp2
            exact bodyPost_ret (v := .tuple #[.agg #[.slice a3 m c3, .int .i64 PS, .int .i64 PT], .bool true]) (by simp [results, Try.results48, go_sem, d0, d1, d2]) rfl ⟨a3, m, c3, by rw [HPS.out, HPT.out], own_base (by rw [← HPL.out]; exact HOF.out) (by omega), by rw [← HPL.out, pairT_length], HBF.out⟩
      · rw [decide_eq_false h5]
        simp only [Bool.false_eq_true, if_false]
        go_enter Try.func48, Try.ntmps48
        go_wp2_with fail
        refine (machFits_is a n' c (castM l) s t _ H.out hn).mono ?_
        rw [ho]
        rintro e1 w1 ⟨rfl, hb⟩
        have HB1 := Lib.hid (HBX.out.step hb)
        have H3 := Lib.hid (H2.out.below hb (Nat.le_refl _))
        have y0 := HB1.out.k0
        have y1 := HB1.out.k1
        have y2 := HB1.out.k2
        clear hb ho
        go_wp2_with fail
        refine (machFits_is a2 n2' c2 (castM l2) s2 t2 _ H3.out hn2).mono ?_
        rw [ho2]
        rintro e1 w9 ⟨rfl, hb⟩
        have HB2 := Lib.hid (HB1.out.step hb)
        have q0 := HB2.out.box.q0
        have r0 := HB2.out.k0
        have HF := Lib.hid (HB2.out.res.stored (.slice none 0 0) (.int .i64 0) (.int .i64 0))
        have HBF := Lib.hid (below_three (R := w.heap.size + 1 + 1) HB2.out.box.below (by omega) (.slice none 0 0) (.int .i64 0) (.int .i64 0))
        obtain ⟨x0, x1, x2, x3, x4, x5⟩ := HB2.out.res.cells
        clear hb ho2 y0 y1 y2
        go_wp2
        generalize (((w9.setCell ⟨w.heap.size + 1 + 1, 0, none⟩ (.slice none 0 0)).setCell ⟨w.heap.size + 1 + 1, 1, none⟩ (.int .i64 0)).setCell ⟨w.heap.size + 1 + 1, 2, none⟩ (.int .i64 0)) = wz at HF HBF ⊢
        obtain ⟨d0, d1, d2, _⟩ := HF.out.cells
        exact bodyPost_ret (v := .tuple #[.agg #[.slice none 0 0, .int .i64 0, .int .i64 0], .bool false]) (by simp [results, Try.results48, go_sem, d0, d1, d2]) rfl ⟨none, 0, 0, rfl, own_base (own_nil _) HBF.out.size, rfl, HBF.out⟩

end Go.Proofs.Ytiphooodijbhiab
