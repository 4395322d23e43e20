/-
  The walks of l8Least, SolveHas and SolveOne, of the model.
-/
import Derived.Test.YtiphooodijbhiabEquMath
import Derived.Test.YtiphooodijbhiabSmallS
import Derived.Test.YtiphooodijbhiabBRow
import Derived.Test.YtiphooodijbhiabInS
set_option linter.unusedVariables false
set_option linter.unusedSimpArgs false
namespace Go.Proofs.Ytiphooodijbhiab
open Go.RowKit

/-- The numbers that are less than x. -/
def lessT (h : Nat → Bool) (x i : Nat) : Bool := decide (i < x) && h i
/-- The world of the loops that mark a set of sums. -/
structure LowLoop (h : Nat → Bool) (u1 u2 v1 v2 : Value) (A B G N x : Nat) (b : Bool) (w wr : World) : Prop where
  q0 : wr.cell? ⟨A, 0, none⟩ = some u1
  q1 : wr.cell? ⟨A, 1, none⟩ = some u2
  r0 : wr.cell? ⟨B, 0, none⟩ = some v1
  r1 : wr.cell? ⟨B, 1, none⟩ = some v2
  row : BRow wr G N (put (lessT h x) x b)
  ltA : A < G
  ltB : B < G
  ltW : w.heap.size ≤ G
  below : Below w.heap.size w wr
theorem LowLoop.step {h : Nat → Bool} {u1 u2 v1 v2 : Value} {A B G N x : Nat} {b : Bool} {w wr w' : World} (l : LowLoop h u1 u2 v1 v2 A B G N x b w wr) (hb : Below wr.heap.size wr w') : LowLoop h u1 u2 v1 v2 A B G N x b w w' :=
  ⟨(hb.cell (p := ⟨A, 0, none⟩) (lt_of_some l.q0)).trans l.q0, (hb.cell (p := ⟨A, 1, none⟩) (lt_of_some l.q1)).trans l.q1, (hb.cell (p := ⟨B, 0, none⟩) (lt_of_some l.r0)).trans l.r0, (hb.cell (p := ⟨B, 1, none⟩) (lt_of_some l.r1)).trans l.r1,
    l.row.step hb, l.ltA, l.ltB, l.ltW, l.below.trans (hb.mono l.below.size)⟩
theorem LowLoop.set {h : Nat → Bool} {u1 u2 v1 v2 : Value} {A B G N x : Nat} {b : Bool} {w wr : World} (l : LowLoop h u1 u2 v1 v2 A B G N x b w wr) (c : Bool) : LowLoop h u1 u2 v1 v2 A B G N x c w (wr.setCell ⟨G, x, none⟩ (.bool c)) := by
  have he := (Else.refl G wr).put x (.bool c)
  have hA := l.ltA
  have hB := l.ltB
  have c1 : ∀ i, (wr.setCell ⟨G, x, none⟩ (.bool c)).cell? ⟨A, i, none⟩ = wr.cell? ⟨A, i, none⟩ := fun i => he.cell (p := ⟨A, i, none⟩) (by show A ≠ G; omega) (lt_of_some l.q0)
  have c2 : ∀ i, (wr.setCell ⟨G, x, none⟩ (.bool c)).cell? ⟨B, i, none⟩ = wr.cell? ⟨B, i, none⟩ := fun i => he.cell (p := ⟨B, i, none⟩) (by show B ≠ G; omega) (lt_of_some l.r0)
  refine ⟨(c1 0).trans l.q0, (c1 1).trans l.q1, (c2 0).trans l.r0, (c2 1).trans l.r1, (l.row.put x c).congr fun j _ => ?_, hA, hB, l.ltW, he.below l.below l.ltW l.row.lt⟩
  unfold put
  by_cases e : j = x
  · rw [if_pos e, if_pos e]
  · rw [if_neg e, if_neg e, if_neg e]
theorem LowLoop.cellX {h : Nat → Bool} {u1 u2 v1 v2 : Value} {A B G N x : Nat} {b : Bool} {w wr : World} (l : LowLoop h u1 u2 v1 v2 A B G N x b w wr) (hx : x < N) : wr.cell? ⟨G, x, none⟩ = some (.bool b) ∧ wr.frozen? ⟨G, x, none⟩ = false := by
  refine ⟨?_, l.row.free _⟩
  rw [l.row.cell hx]
  unfold put; rw [if_pos rfl]
theorem LowLoop.cellL {h : Nat → Bool} {u1 u2 v1 v2 : Value} {A B G N x y : Nat} {b : Bool} {w wr : World} (l : LowLoop h u1 u2 v1 v2 A B G N x b w wr) (hx : x < N) (hy : y < x) : wr.cell? ⟨G, y, none⟩ = some (.bool (h y)) := by
  rw [l.row.cell (show y < N by omega)]
  unfold put lessT; rw [if_neg (by omega), decide_eq_true hy, Bool.true_and]
theorem LowLoop.next {h : Nat → Bool} {u1 u2 v1 v2 : Value} {A B G N x : Nat} {b : Bool} {w wr : World} (l : LowLoop h u1 u2 v1 v2 A B G N x b w wr) (hb : b = h x) : LowLoop h u1 u2 v1 v2 A B G N (x + 1) false w wr := by
  refine ⟨l.q0, l.q1, l.r0, l.r1, l.row.congr fun j _ => ?_, l.ltA, l.ltB, l.ltW, l.below⟩
  unfold put lessT
  by_cases e : j = x
  · subst e; rw [if_pos rfl, if_neg (by omega), decide_eq_true (by omega), hb]; rfl
  · rw [if_neg e]
    by_cases e2 : j = x + 1
    · rw [if_pos e2, decide_eq_false (by omega)]; rfl
    · rw [if_neg e2]
      by_cases e3 : j < x
      · rw [decide_eq_true e3, decide_eq_true (by omega)]
      · rw [decide_eq_false e3, decide_eq_false (by omega)]
theorem LowLoop.done {h : Nat → Bool} {u1 u2 v1 v2 : Value} {A B G N : Nat} {b : Bool} {w wr : World} (l : LowLoop h u1 u2 v1 v2 A B G N N b w wr) : BRow wr G N h :=
  l.row.congr fun j hj => by unfold put lessT; rw [if_neg (by omega), decide_eq_true hj, Bool.true_and]
/-- The loop's start: the block is new. -/
theorem lowLoop_start (h : Nat → Bool) {u1 u2 v1 v2 : Value} {A B : Nat} (N : Nat) {w wr : World} (q0 : wr.cell? ⟨A, 0, none⟩ = some u1) (q1 : wr.cell? ⟨A, 1, none⟩ = some u2) (r0 : wr.cell? ⟨B, 0, none⟩ = some v1) (r1 : wr.cell? ⟨B, 1, none⟩ = some v2) (hb : Below w.heap.size w wr) :
    LowLoop h u1 u2 v1 v2 A B wr.heap.size N 0 false w (wr.alloc (.cells (madeCells #[.bool false] N) 4)) := by
  have hc : ∀ (p : Addr) v, p.block < wr.heap.size → wr.cell? p = some v → (wr.alloc (.cells (madeCells #[.bool false] N) 4)).cell? p = some v := fun p v hlt hp => (((Below.refl wr.heap.size wr).alloc (Nat.le_refl _) (.cells (madeCells #[.bool false] N) 4)).cell hlt).trans hp
  refine ⟨hc _ _ (lt_of_some q0) q0, hc _ _ (lt_of_some q1) q1, hc _ _ (lt_of_some r0) r0, hc _ _ (lt_of_some r1) r1, (bRow_new wr N).congr fun j _ => ?_, lt_of_some q0, lt_of_some r0, hb.size, hb.alloc hb.size _⟩
  unfold put lessT
  by_cases e : j = 0
  · rw [if_pos e]
  · rw [if_neg e, decide_eq_false (by omega)]; rfl

theorem low_boxes (w : World) (u v x y : Value) (T : TypeId) :
    (((w.alloc (.cells #[u, v] T)).alloc (.cells #[x, y] T)).cell? ⟨w.heap.size, 0, none⟩ = some u ∧ ((w.alloc (.cells #[u, v] T)).alloc (.cells #[x, y] T)).cell? ⟨w.heap.size, 1, none⟩ = some v) ∧
    (((w.alloc (.cells #[u, v] T)).alloc (.cells #[x, y] T)).cell? ⟨w.heap.size + 1, 0, none⟩ = some x ∧ ((w.alloc (.cells #[u, v] T)).alloc (.cells #[x, y] T)).cell? ⟨w.heap.size + 1, 1, none⟩ = some y) := by
  have h1 := box_later (w1 := w) (u := u) (v := v) (T := T) ((Below.refl _ (w.alloc (.cells #[u, v] T))).alloc (Nat.le_refl _) (.cells #[x, y] T))
  have h2 := box_later (w1 := w.alloc (.cells #[u, v] T)) (u := x) (v := y) (T := T) (Below.refl _ _)
  rw [World.size_alloc] at h2
  exact ⟨h1, h2⟩
/-- The model's step: what is marked of x so far. -/
noncomputable def lowTo (f g : Nat → Bool) (x y : Nat) : Bool := g x || someF (addR f (lowF f g) x) 1 y
theorem lowTo_zero (f g : Nat → Bool) (x : Nat) : lowTo f g x 0 = g x := by unfold lowTo someF; rw [Bool.or_false]
theorem lowTo_next {f g : Nat → Bool} {x y : Nat} {b c : Bool} (h : lowTo f g x y = b) (h2 : addR f (lowF f g) x (y + 1) = c) : lowTo f g x (y + 1) = (b || c) := by
  unfold lowTo at h ⊢
  rw [show someF (addR f (lowF f g) x) 1 (y + 1) = (someF (addR f (lowF f g) x) 1 y || addR f (lowF f g) x (1 + y)) from rfl, ← Bool.or_assoc, h, Nat.add_comm 1 y, h2]
theorem lowTo_done (f g : Nat → Bool) (x : Nat) : lowTo f g x x = lowF f g x := (lowF_model f g x).symm

set_option maxRecDepth 100000 in
set_option maxHeartbeats 4000000 in
theorem l8Least_any (f g : Nat → Bool) (a1 : Option Addr) (n1 c1 : Nat) (a2 : Option Addr) (n2 c2 : Nat) (b1 : Option Addr) (m1 d1 : Nat) (b2 : Option Addr) (m2 d2 N : Nat) (w : World)
    (hA : SmallIn w f a1 n1 a2 n2) (hB : SmallIn w g b1 m1 b2 m2) (hN : N ≤ 5000) :
    Calls Try.prog 76 #[.agg #[.slice a1 n1 c1, .slice a2 n2 c2], .agg #[.slice b1 m1 d1, .slice b2 m2 d2], .int .i64 N] w fun e w' =>
      ∃ G, e = .returned (.slice (some ⟨G, 0, none⟩) N N) ∧ w.heap.size ≤ G ∧ BRow w' G N (lowF f g) ∧ Below w.heap.size w w' := by
  obtain ⟨i0, hi, hz0, hz1, hz2⟩ := info_parts Try.infoBool
  have HA := Lib.hid hA
  have HB := Lib.hid hB
  clear hA hB
  go_enter Try.func76, Try.ntmps76
  go_wp2_with (at_make; refine wpList_make_row _ rfl _ _ 65 rfl 4 i0 (.bool false) Try.underlying65 hi hz0 hz1 rfl .i64 .i64 N rfl rfl ?b1 ?b2 ?_)
  case b1 => rw [hz2]; omega
  case b2 => omega
  have hbx : Below w.heap.size w ((w.alloc (.cells #[.slice a1 n1 c1, .slice a2 n2 c2] 77)).alloc (.cells #[.slice b1 m1 d1, .slice b2 m2 d2] 77)) := ((Below.refl _ _).alloc (Nat.le_refl _) _).alloc (by simp) _
  obtain ⟨⟨x0, x1⟩, y0, y1⟩ := low_boxes w (.slice a1 n1 c1) (.slice a2 n2 c2) (.slice b1 m1 d1) (.slice b2 m2 d2) 77
  have HL0 := Lib.hid (lowLoop_start (lowF f g) N x0 x1 y0 y1 hbx)
  clear hbx x0 x1 y0 y1
  rw [World.size_alloc, World.size_alloc] at HL0
  go_wp2
  go_loopw [8] (fun xi wr => ∃ x : Nat, x ≤ N ∧ xi = .int .i64 x ∧ LowLoop (lowF f g) (.slice a1 n1 c1) (.slice a2 n2 c2) (.slice b1 m1 d1) (.slice b2 m2 d2) w.heap.size (w.heap.size + 1) (w.heap.size + 1 + 1) N x false w wr) (fun i _ => N - (intOf i).toNat)
  case atStart => exact ⟨0, Nat.zero_le _, rfl, HL0.out⟩
  case round =>
    obtain ⟨x, hx, rfl, hl⟩ := hrel
    by_cases hlt : x < N
    · have HL := Lib.hid hl
      have q0 := hl.r0
      have q1 := hl.r1
      have hcall := small_has (c1 := d1) (c2 := d2) x (HB.out.below hl.below (Nat.le_refl _)) (by omega)
      clear hl
      go_wp2_with fail
      refine hcall.mono ?_
      rintro e w3 ⟨rfl, hb3⟩
      have HL3 := Lib.hid (HL.out.step hb3)
      obtain ⟨dX, dF⟩ := HL3.out.cellX hlt
      have HL4 := Lib.hid (HL3.out.set (g x))
      clear hb3 hcall HL q0 q1
      go_wp2
      go_loopw [9] (fun yi wr => ∃ y : Nat, y ≤ x ∧ yi = .int .i64 ((y : Int) + 1) ∧ LowLoop (lowF f g) (.slice a1 n1 c1) (.slice a2 n2 c2) (.slice b1 m1 d1) (.slice b2 m2 d2) w.heap.size (w.heap.size + 1) (w.heap.size + 1 + 1) N x (lowTo f g x y) w wr) (fun i _ => x + 1 - (intOf i).toNat)
      case atStart => exact ⟨0, Nat.zero_le _, rfl, by rw [lowTo_zero]; exact HL4.out⟩
      case round =>
        obtain ⟨y, hy, rfl, hl5⟩ := hrel
        have HL5 := Lib.hid hl5
        clear hl5
        by_cases hyx : y < x
        · obtain ⟨cX, cF⟩ := HL5.out.cellX hlt
          have hyi : (y : Int) + 1 ≤ (x : Int) := by omega
          cases hb : lowTo f g x y
          · rw [hb] at cX
            have q0 := HL5.out.q0
            have q1 := HL5.out.q1
            have hcall := small_has (c1 := c1) (c2 := c2) (y + 1) (HA.out.below HL5.out.below (Nat.le_refl _)) (by omega)
            cases hf : f (y + 1)
            · have HT : Hid (lowTo f g x (y + 1) = false) := Lib.hid (by rw [lowTo_next hb (c := false) (by unfold addR; rw [hf]; rfl)]; rfl)
              rw [hf] at hcall
              clear hb hf
              go_wp2_with fail
              refine hcall.mono ?_
              rintro e w6 ⟨rfl, hb6⟩
              have HL6 := Lib.hid (HL5.out.step hb6)
              obtain ⟨eX, eF⟩ := HL6.out.cellX hlt
              have HL7 := Lib.hid (HL6.out.set false)
              clear hb6 hcall cX cF
              go_wp2
              go_roundw
              case rel => exact ⟨y + 1, by omega, by go_num, by rw [HT.out]; exact HL7.out⟩
              case measure => simp [intOf]; omega
            · obtain ⟨k, hk⟩ : ∃ k, k = x - (y + 1) := ⟨_, rfl⟩
              have HT : Hid (lowTo f g x (y + 1) = lowF f g k) := Lib.hid (by rw [lowTo_next hb (c := lowF f g k) (by unfold addR; rw [hf, ← hk]; rfl)]; rfl)
              have hki : (x : Int) - ((y : Int) + 1) = (k : Int) := by omega
              have hkn : k < x := by omega
              have hkN : k < N := by omega
              rw [hf] at hcall
              clear hb hf hk
              go_wp2_with fail
              refine hcall.mono ?_
              rintro e w6 ⟨rfl, hb6⟩
              have HL6 := Lib.hid (HL5.out.step hb6)
              obtain ⟨eX, eF⟩ := HL6.out.cellX hlt
              have cL := HL6.out.cellL hlt hkn
              have HL7 := Lib.hid (HL6.out.set (lowF f g k))
              clear hb6 hcall cX cF
              go_wp2
              go_roundw
              case rel => exact ⟨y + 1, by omega, by go_num, by rw [HT.out]; exact HL7.out⟩
              case measure => simp [intOf]; omega
          · rw [hb] at cX
            have HT : Hid (lowTo f g x (y + 1) = true) := Lib.hid (by rw [lowTo_next hb (c := addR f (lowF f g) x (y + 1)) rfl]; rfl)
            have HL7 := Lib.hid (HL5.out.set true)
            clear hb
            go_wp2
            go_roundw
            case rel => exact ⟨y + 1, by omega, by go_num, by rw [HT.out]; exact HL7.out⟩
            case measure => simp [intOf]; omega
        · obtain rfl : y = x := by omega
          have HN := Lib.hid (HL5.out.next (lowTo_done f g y))
          have hyi : ¬ (y : Int) + 1 ≤ (y : Int) := by omega
          go_wp2
          go_roundw
          case rel => exact ⟨y + 1, by omega, by go_num, HN.out⟩
          case measure => simp [intOf]; omega
    · obtain rfl : x = N := by omega
      have HL := Lib.hid hl
      clear hl
      go_wp2
      go_ret
      exact ⟨_, rfl, by omega, HL.out.done, HL.out.below⟩

end Go.Proofs.Ytiphooodijbhiab
