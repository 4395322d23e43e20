/-
  The walks of spec.l7Sum and of spec.l7Marks.
-/
import Derived.Test.YtiphooodijbhiaaTermPart
import Derived.Test.YtiphooodijbhiaaSumWithI
import Derived.Test.YtiphooodijbhiaaTwoS
set_option linter.unusedVariables false
set_option linter.unusedSimpArgs false
namespace Go.Proofs.Ytiphooodijbhiaa
open Go.RowKit

/-- The sums by numbers less than x, and by x and numbers less than y. -/
def innerF (f g : Nat → Bool) (x y i : Nat) : Bool := accF f g x i || (decide (x ≤ i) && (decide (i < x + y) && g (i - x)))
theorem innerF_zero (f g : Nat → Bool) (x i : Nat) : innerF f g x 0 i = accF f g x i := by
  unfold innerF
  by_cases h : x ≤ i
  · rw [decide_eq_false (show ¬ i < x + 0 by omega)]; simp
  · rw [decide_eq_false h]; simp
theorem innerF_at (f g : Nat → Bool) (x y : Nat) : innerF f g x y (x + y) = accF f g x (x + y) := by
  unfold innerF; rw [decide_eq_false (show ¬ x + y < x + y by omega)]; simp
theorem innerF_put (f g : Nat → Bool) (x y j : Nat) : put (innerF f g x y) (x + y) (innerF f g x y (x + y) || g y) j = innerF f g x (y + 1) j := by
  unfold put
  by_cases e : j = x + y
  · subst e
    rw [if_pos rfl, innerF_at]
    unfold innerF
    rw [decide_eq_true (show x ≤ x + y by omega), decide_eq_true (show x + y < x + (y + 1) by omega), Nat.add_sub_cancel_left, Bool.true_and, Bool.true_and]
  · rw [if_neg e]
    unfold innerF
    by_cases h : j < x + y
    · rw [decide_eq_true h, decide_eq_true (show j < x + (y + 1) by omega)]
    · rw [decide_eq_false h, decide_eq_false (show ¬ j < x + (y + 1) by omega)]
theorem innerF_done {f g : Nat → Bool} {x y n i : Nat} (hf : f x = true) (hy : n ≤ x + y) (hi : i < n) : innerF f g x y i = accF f g (x + 1) i := by
  unfold innerF
  rw [accF_next, hf, decide_eq_true (show i < x + y by omega), Bool.true_and, Bool.true_and]
theorem accF_skip {f g : Nat → Bool} {x : Nat} (hf : f x = false) (i : Nat) : accF f g x i = accF f g (x + 1) i := by rw [accF_next, hf]; simp

/-- The world of l7Sum's loops. -/
structure SumSt (f g c : Nat → Bool) (G g1 g2 n : Nat) (w wr : World) : Prop where
  row : BRow wr G n c
  first : BRow wr g1 n f
  second : BRow wr g2 n g
  n1 : g1 ≠ G
  n2 : g2 ≠ G
  le : w.heap.size ≤ G
  below : Below w.heap.size w wr
theorem SumSt.congr {f g c d : Nat → Bool} {G g1 g2 n : Nat} {w wr : World} (h : SumSt f g c G g1 g2 n w wr) (hc : ∀ i, i < n → c i = d i) : SumSt f g d G g1 g2 n w wr := ⟨h.row.congr hc, h.first, h.second, h.n1, h.n2, h.le, h.below⟩
theorem SumSt.put {f g c : Nat → Bool} {G g1 g2 n : Nat} {w wr : World} (h : SumSt f g c G g1 g2 n w wr) (k : Nat) (b : Bool) : SumSt f g (put c k b) G g1 g2 n w (wr.setCell ⟨G, k, none⟩ (.bool b)) :=
  ⟨h.row.put k b, h.first.other (by simpa using h.n1) _, h.second.other (by simpa using h.n2) _, h.n1, h.n2, h.le, h.below.setCell h.le _⟩
/-- What is answered where numbers are marked. -/
def MarksEnd (f : Nat → Bool) (n : Nat) (w : World) (e : Ending) (w' : World) : Prop :=
  (∃ G, e = .returned (.slice (some ⟨G, 0, none⟩) n n) ∧ w.heap.size ≤ G ∧ BRow w' G n f) ∧ Below w.heap.size w w'

set_option maxRecDepth 100000 in
set_option maxHeartbeats 4000000 in
theorem l7Sum_any (g1 g2 N : Nat) (f g : Nat → Bool) (w : World) (h1 : BRow w g1 N f) (h2 : BRow w g2 N g) (hN : N ≤ 1000) :
    Calls Try.prog 115 #[.slice (some ⟨g1, 0, none⟩) N N, .slice (some ⟨g2, 0, none⟩) N N] w (MarksEnd (sumG false f g) N w) := by
  obtain ⟨i0, hi, hz0, hz1, hz2⟩ := info_parts Try.infoBool
  have hl1 := h1.lt
  have hl2 := h2.lt
  have HX0 : Hid (SumSt f g (accF f g 0) w.heap.size g1 g2 N w (w.alloc (.cells (madeCells #[.bool false] N) 4))) :=
    Lib.hid ⟨(bRow_new w N).congr fun j _ => rfl, h1.step ((Below.refl _ _).alloc (Nat.le_refl _) _), h2.step ((Below.refl _ _).alloc (Nat.le_refl _) _), by omega, by omega, Nat.le_refl _, (Below.refl _ _).alloc (Nat.le_refl _) _⟩
  clear h1 h2
  go_enter Try.func115, Try.ntmps115
  go_wp2_with (at_make; refine wpList_make_row _ rfl _ _ 73 rfl 4 i0 (.bool false) Try.underlying73 hi hz0 hz1 rfl .i64 .i64 N rfl rfl ?b1 ?b2 ?_)
  case b1 => rw [hz2]; omega
  case b2 => omega
  generalize w.alloc (.cells (madeCells #[.bool false] N) 4) = w1 at HX0
  go_wp2
  go_loopw [6] (fun i wr => ∃ x : Nat, x ≤ N ∧ i = .int .i64 x ∧ SumSt f g (accF f g x) w.heap.size g1 g2 N w wr) (fun i _ => N - (intOf i).toNat)
  case atStart => exact ⟨0, Nat.zero_le _, rfl, HX0.out⟩
  case round =>
    obtain ⟨x, hx, rfl, hl⟩ := hrel
    by_cases hlt : x < N
    · have c1 := hl.first.cell hlt
      obtain ⟨bf, hbf⟩ : ∃ b, f x = b := ⟨_, rfl⟩
      rw [hbf] at c1
      have HF := Lib.hid hbf
      have HL := Lib.hid (hl.congr fun i _ => (innerF_zero f g x i).symm)
      clear hl hbf
      cases bf
      · have HS : Hid (∀ wr, SumSt f g (innerF f g x 0) w.heap.size g1 g2 N w wr → SumSt f g (accF f g (x + 1)) w.heap.size g1 g2 N w wr) := Lib.hid (fun wr h => h.congr fun i _ => by rw [innerF_zero]; exact accF_skip HF.out i)
        go_wp2
        go_loopw [7] (fun i wr => i = .int .i64 0 ∧ SumSt f g (innerF f g x 0) w.heap.size g1 g2 N w wr) (fun i _ => 0)
        case atStart => exact ⟨rfl, HL.out⟩
        case round =>
          obtain ⟨rfl, hl⟩ := hrel
          have c1 := hl.first.cell hlt
          rw [HF.out] at c1
          have HL2 := Lib.hid (HS.out _ hl)
          clear hl
          go_wp2
          go_roundw
          case rel => exact ⟨x + 1, by omega, by go_num, HL2.out⟩
          case measure => simp [intOf]; omega
      · go_wp2
        go_loopw [7] (fun i wr => ∃ y : Nat, x + y ≤ N ∧ i = .int .i64 y ∧ SumSt f g (innerF f g x y) w.heap.size g1 g2 N w wr) (fun i _ => N - (intOf i).toNat)
        case atStart => exact ⟨0, by omega, rfl, HL.out⟩
        case round =>
          obtain ⟨y, hy, rfl, hl⟩ := hrel
          have c1 := hl.first.cell hlt
          rw [HF.out] at c1
          by_cases hy2 : x + y < N
          · have c2 := hl.second.cell (i := y) (by omega)
            have c3 := hl.row.cell hy2
            have hfz := hl.row.free (x + y)
            have hp := (hl.put (x + y) (innerF f g x y (x + y) || g y)).congr fun j _ => innerF_put f g x y j
            have hyi : (x : Int) + (y : Int) < (N : Int) := by omega
            clear hl
            cases h1 : innerF f g x y (x + y)
            · rw [h1] at c3 hp
              cases h2 : g y
              · rw [h2] at c2 hp
                have HP := Lib.hid hp
                clear hp h1 h2
                go_wp2
                go_roundw
                case rel => exact ⟨y + 1, by omega, by go_num, HP.out⟩
                case measure => simp [intOf]; omega
              · rw [h2] at c2 hp
                have HP := Lib.hid hp
                clear hp h1 h2
                go_wp2
                go_roundw
                case rel => exact ⟨y + 1, by omega, by go_num, HP.out⟩
                case measure => simp [intOf]; omega
            · rw [h1] at c3 hp
              have HP := Lib.hid hp
              clear hp h1
              go_wp2
              go_roundw
              case rel => exact ⟨y + 1, by omega, by go_num, HP.out⟩
              case measure => simp [intOf]; omega
          · have HL2 := Lib.hid (hl.congr fun i hi => innerF_done (g := g) HF.out (by omega) hi)
            have hyi : ¬ (x : Int) + (y : Int) < (N : Int) := by omega
            clear hl
            go_wp2
            go_roundw
            case rel => exact ⟨x + 1, by omega, by go_num, HL2.out⟩
            case measure => simp [intOf]; omega
    · obtain rfl : x = N := by omega
      have HL := Lib.hid hl
      clear hl
      go_wp2
      go_ret
      exact ⟨⟨_, rfl, HL.out.le, HL.out.row.congr fun i hi => accF_done _ _ _ _ hi⟩, HL.out.below⟩

/-- The world of l7Marks: the tree's box, and the row that is made. -/
structure MBox (sg sl : Value) (n : Nat) (c : Nat → Bool) (w wr : World) : Prop where
  b0 : wr.cell? ⟨w.heap.size, 0, none⟩ = some sg
  b1 : wr.cell? ⟨w.heap.size, 1, none⟩ = some sl
  row : BRow wr (w.heap.size + 1) n c
  below : Below w.heap.size w wr
theorem MBox.step {sg sl : Value} {n : Nat} {c : Nat → Bool} {w wr w' : World} (h : MBox sg sl n c w wr) (hb : Below wr.heap.size wr w') : MBox sg sl n c w w' :=
  ⟨(hb.cell (p := ⟨w.heap.size, 0, none⟩) (lt_of_some h.b0)).trans h.b0, (hb.cell (p := ⟨w.heap.size, 1, none⟩) (lt_of_some h.b1)).trans h.b1, h.row.step hb, h.below.trans (hb.mono h.below.size)⟩
theorem MBox.congr {sg sl : Value} {n : Nat} {c d : Nat → Bool} {w wr : World} (h : MBox sg sl n c w wr) (hc : ∀ i, i < n → c i = d i) : MBox sg sl n d w wr := ⟨h.b0, h.b1, h.row.congr hc, h.below⟩
theorem MBox.put {sg sl : Value} {n : Nat} {c : Nat → Bool} {w wr : World} (h : MBox sg sl n c w wr) (k : Nat) (b : Bool) : MBox sg sl n (put c k b) w (wr.setCell ⟨w.heap.size + 1, k, none⟩ (.bool b)) :=
  ⟨(World.cell?_setCell_other _ _ _ _ (by simp)).trans h.b0, (World.cell?_setCell_other _ _ _ _ (by simp)).trans h.b1, h.row.put k b, h.below.setCell (by show w.heap.size ≤ w.heap.size + 1; omega) _⟩
theorem mBox_start (sg sl : Value) (n : Nat) (w : World) : MBox sg sl n (fun _ => false) w ((w.alloc (.cells #[sg, sl] 100)).alloc (.cells (madeCells #[.bool false] n) 4)) := by
  have hr := bRow_new (w.alloc (.cells #[sg, sl] 100)) n
  rw [World.size_alloc] at hr
  refine ⟨?_, ?_, hr, ((Below.refl _ _).alloc (Nat.le_refl _) _).alloc (by simp) _⟩
  · rw [World.cell?_alloc_past _ _ _ (by simp), World.cell?_alloc_at _ _ _ _ rfl]; rfl
  · rw [World.cell?_alloc_past _ _ _ (by simp), World.cell?_alloc_at _ _ _ _ rfl]; rfl

theorem oneF_put (c : UInt8) (k j : Nat) (h : (c = 49 ∧ k = 0) ∨ (c = 97 ∧ k = 1)) : put (fun _ => false) k true j = oneF c j := by
  unfold put
  rcases h with ⟨rfl, rfl⟩ | ⟨rfl, rfl⟩
  · show (if j = 0 then true else false) = decide (j = 0); by_cases e : j = 0 <;> simp [e]
  · show (if j = 1 then true else false) = decide (j = 1); by_cases e : j = 1 <;> simp [e]

set_option maxRecDepth 100000 in
set_option maxHeartbeats 1000000 in
theorem marks_sign48 (a : Option Addr) (k N : Nat) (w : World) (hN : N ≤ 1000) : Calls Try.prog 87 #[.agg #[.int .u8 48, .slice a 0 k], .int .i64 N] w (MarksEnd (oneF 48) N w) := by
  obtain ⟨i0, hi, hz0, hz1, hz2⟩ := info_parts Try.infoBool
  have HX := Lib.hid (mBox_start (.int .u8 48) (.slice a 0 k) N w)
  go_enter Try.func87, Try.ntmps87
  go_wp2_with (at_make; refine wpList_make_row _ rfl _ _ 73 rfl 4 i0 (.bool false) Try.underlying73 hi hz0 hz1 rfl .i64 .i64 N rfl rfl ?b1 ?b2 ?_)
  case b1 => rw [hz2]; omega
  case b2 => omega
  generalize (w.alloc (.cells #[.int .u8 48, .slice a 0 k] 100)).alloc (.cells (madeCells #[.bool false] N) 4) = w1 at HX
  have b0 := HX.out.b0
  go_wp2_with fail
  go_ret
  exact ⟨⟨_, rfl, by omega, HX.out.row.congr fun i _ => rfl⟩, HX.out.below⟩
set_option maxRecDepth 100000 in
set_option maxHeartbeats 1000000 in
theorem marks_sign49 (a : Option Addr) (k N : Nat) (w : World) (hN : N ≤ 1000) : Calls Try.prog 87 #[.agg #[.int .u8 49, .slice a 0 k], .int .i64 N] w (MarksEnd (oneF 49) N w) := by
  obtain ⟨i0, hi, hz0, hz1, hz2⟩ := info_parts Try.infoBool
  have HX := Lib.hid (mBox_start (.int .u8 49) (.slice a 0 k) N w)
  go_enter Try.func87, Try.ntmps87
  go_wp2_with (at_make; refine wpList_make_row _ rfl _ _ 73 rfl 4 i0 (.bool false) Try.underlying73 hi hz0 hz1 rfl .i64 .i64 N rfl rfl ?b1 ?b2 ?_)
  case b1 => rw [hz2]; omega
  case b2 => omega
  generalize (w.alloc (.cells #[.int .u8 49, .slice a 0 k] 100)).alloc (.cells (madeCells #[.bool false] N) 4) = w1 at HX
  have b0 := HX.out.b0
  go_wp2_with fail
  refine (bit_any _ _).mono ?_
  rintro e w2 ⟨rfl, rfl⟩
  by_cases h : 0 < N
  · have hfz := HX.out.row.free 0
    have hcz := HX.out.row.cell h
    have HP := Lib.hid ((HX.out.put 0 true).congr fun j _ => oneF_put 49 0 j (by decide))
    have hi2 : (0 : Int) < (N : Int) := by omega
    go_wp2_with fail
    go_ret
    exact ⟨⟨_, rfl, by omega, HP.out.row⟩, HP.out.below⟩
  · have hi2 : ¬ (0 : Int) < (N : Int) := by omega
    go_wp2_with fail
    go_ret
    exact ⟨⟨_, rfl, by omega, HX.out.row.congr fun i hi => by have : i ≠ 0 := (by omega); show false = decide (i = 0); rw [decide_eq_false this]⟩, HX.out.below⟩
set_option maxRecDepth 100000 in
set_option maxHeartbeats 1000000 in
theorem marks_sign97 (a : Option Addr) (k N : Nat) (w : World) (hN : N ≤ 1000) : Calls Try.prog 87 #[.agg #[.int .u8 97, .slice a 0 k], .int .i64 N] w (MarksEnd (oneF 97) N w) := by
  obtain ⟨i0, hi, hz0, hz1, hz2⟩ := info_parts Try.infoBool
  have HX := Lib.hid (mBox_start (.int .u8 97) (.slice a 0 k) N w)
  go_enter Try.func87, Try.ntmps87
  go_wp2_with (at_make; refine wpList_make_row _ rfl _ _ 73 rfl 4 i0 (.bool false) Try.underlying73 hi hz0 hz1 rfl .i64 .i64 N rfl rfl ?b1 ?b2 ?_)
  case b1 => rw [hz2]; omega
  case b2 => omega
  generalize (w.alloc (.cells #[.int .u8 97, .slice a 0 k] 100)).alloc (.cells (madeCells #[.bool false] N) 4) = w1 at HX
  have b0 := HX.out.b0
  go_wp2_with fail
  refine (bit_any _ _).mono ?_
  rintro e w2 ⟨rfl, rfl⟩
  by_cases h : 1 < N
  · have hfz := HX.out.row.free 1
    have hcz := HX.out.row.cell h
    have HP := Lib.hid ((HX.out.put 1 true).congr fun j _ => oneF_put 97 1 j (by decide))
    have hi2 : (1 : Int) < (N : Int) := by omega
    go_wp2_with fail
    go_ret
    exact ⟨⟨_, rfl, by omega, HP.out.row⟩, HP.out.below⟩
  · have hi2 : ¬ (1 : Int) < (N : Int) := by omega
    go_wp2_with fail
    go_ret
    exact ⟨⟨_, rfl, by omega, HX.out.row.congr fun i hi => by have : i ≠ 1 := (by omega); show false = decide (i = 1); rw [decide_eq_false this]⟩, HX.out.below⟩

/-- The numbers of a star that are found with parts up to k. -/
noncomputable def sF (f : Nat → Bool) (x : Nat) : Nat → Bool
  | 0 => decide (x = 0)
  | k + 1 => sF f x k || (f (k + 1) && starB f (x - (k + 1)))
theorem sF_iff {f : Nat → Bool} {x k : Nat} : sF f x k = true ↔ x = 0 ∨ ∃ j, 1 ≤ j ∧ j ≤ k ∧ f j = true ∧ starB f (x - j) = true := by
  induction k with
  | zero =>
    show decide (x = 0) = true ↔ _
    rw [decide_eq_true_iff]
    constructor
    · exact .inl
    · rintro (h | ⟨j, h1, h2, _⟩)
      · exact h
      · omega
  | succ k ih =>
    show (sF f x k || (f (k + 1) && starB f (x - (k + 1)))) = true ↔ _
    rw [Bool.or_eq_true, Bool.and_eq_true, ih]
    constructor
    · rintro ((h | ⟨j, h1, h2, h3⟩) | ⟨h1, h2⟩)
      · exact .inl h
      · exact .inr ⟨j, h1, by omega, h3⟩
      · exact .inr ⟨k + 1, by omega, Nat.le_refl _, h1, h2⟩
    · rintro (h | ⟨j, h1, h2, h3, h4⟩)
      · exact .inl (.inl h)
      · by_cases e : j = k + 1
        · subst e; exact .inr ⟨h3, h4⟩
        · exact .inl (.inr ⟨j, h1, by omega, h3, h4⟩)
theorem sF_done (f : Nat → Bool) (x : Nat) : sF f x x = starB f x := by
  apply bool_iff
  rw [sF_iff]
  constructor
  · rintro (rfl | ⟨j, h1, h2, h3, h4⟩)
    · exact starB_zero f
    · have := star_add (star_one h3) (starB_iff.1 h4)
      rw [show j + (x - j) = x from by omega] at this
      exact starB_iff.2 this
  · intro h
    rcases Nat.eq_zero_or_pos x with e | e
    · exact .inl e
    · obtain ⟨y, h1, h2, h3, h4⟩ := star_split (starB_iff.1 h) e
      exact .inr ⟨y, h2, h3, h1, starB_iff.2 h4⟩
/-- The row where the numbers less than x are found, and b at x. -/
noncomputable def upTo (f : Nat → Bool) (x : Nat) (i : Nat) : Bool := if i < x then starB f i else false
theorem upTo_next (f : Nat → Bool) (x j : Nat) : put (upTo f x) x (starB f x) j = upTo f (x + 1) j := by
  unfold put upTo
  by_cases e : j = x
  · subst e; rw [if_pos rfl, if_pos (by omega)]
  · rw [if_neg e]
    by_cases h : j < x
    · rw [if_pos h, if_pos (by omega)]
    · rw [if_neg h, if_neg (by omega)]
theorem put_put (c : Nat → Bool) (x : Nat) (a b : Bool) (j : Nat) : put (put c x a) x b j = put c x b j := by
  unfold put
  by_cases e : j = x
  · rw [if_pos e, if_pos e]
  · rw [if_neg e, if_neg e, if_neg e]
theorem put_same (c : Nat → Bool) (x : Nat) (a : Bool) : put c x a x = a := by unfold put; rw [if_pos rfl]
theorem put_less (f : Nat → Bool) {x y : Nat} (a : Bool) (h : y < x) : put (upTo f x) x a y = starB f y := by
  unfold put upTo; rw [if_neg (by omega), if_pos h]

set_option maxRecDepth 100000 in
set_option maxHeartbeats 4000000 in
theorem marks_star (f : Nat → Bool) (g m : Nat) (c : UInt8) (a : Option Addr) (n k N : Nat) (w : World) (hp : PartT w g 0 c a n k) (hN : N ≤ 1000)
    (ih : ∀ W, Below w.heap.size w W → Calls Try.prog 87 #[.agg #[.int .u8 c.toNat, .slice a n k], .int .i64 N] W (MarksEnd f N W)) :
    Calls Try.prog 87 #[.agg #[.int .u8 42, .slice (some ⟨g, 0, none⟩) 1 m], .int .i64 N] w (MarksEnd (starB f) N w) := by
  obtain ⟨i0, hi, hz0, hz1, hz2⟩ := info_parts Try.infoBool
  have HX := Lib.hid (mBox_start (.int .u8 42) (.slice (some ⟨g, 0, none⟩) 1 m) N w)
  have HI := Lib.hid ih
  have hp1 := hp.step HX.out.below
  have c0 := hp1.p
  have c1 := hp1.q
  rw [Nat.zero_add] at c1
  clear ih hp hp1
  go_enter Try.func87, Try.ntmps87
  go_wp2_with (at_make; refine wpList_make_row _ rfl _ _ 73 rfl 4 i0 (.bool false) Try.underlying73 hi hz0 hz1 rfl .i64 .i64 N rfl rfl ?b1 ?b2 ?_)
  case b1 => rw [hz2]; omega
  case b2 => omega
  refine (HI.out _ HX.out.below).mono ?_
  rintro e w2 ⟨⟨G, rfl, hG, hr⟩, hb⟩
  have HX2 := Lib.hid ((HX.out.step hb).congr (d := upTo f 0) fun i _ => rfl)
  have HR := Lib.hid hr
  have HG : Hid (G ≠ w.heap.size + 1) := Lib.hid (by have := HX.out.row.lt; omega)
  have b0 := HX2.out.b0
  have b1 := HX2.out.b1
  clear hG hr hb c0 c1
  go_wp2
  go_loopw [8] (fun i wr => ∃ x : Nat, x ≤ N ∧ i = .int .i64 x ∧ MBox (.int .u8 42) (.slice (some ⟨g, 0, none⟩) 1 m) N (upTo f x) w wr ∧ BRow wr G N f) (fun i _ => N - (intOf i).toNat)
  case atStart => exact ⟨0, Nat.zero_le _, rfl, HX2.out, HR.out⟩
  case round =>
    obtain ⟨x, hx, rfl, hl, hrr⟩ := hrel
    by_cases hlt : x < N
    · have hfz := hl.row.free x
      have hcz := hl.row.cell hlt
      obtain ⟨b, hb⟩ : ∃ b, b = decide (x = 0) := ⟨_, rfl⟩
      have hbx : ((x : Int) == 0) = b := by rw [hb]; by_cases e : x = 0 <;> simp [e]
      have HS : Hid (sF f x 0 = b) := Lib.hid (by rw [hb]; rfl)
      have HL := Lib.hid (hl.put x b)
      have HRR := Lib.hid (hrr.other (a := ⟨w.heap.size + 1, x, none⟩) HG.out (.bool b))
      clear hl hrr hb
      go_wp2
      go_loopw [9] (fun i wr => ∃ k : Nat, k ≤ x ∧ i = .int .i64 ((k + 1 : Nat) : Int) ∧ MBox (.int .u8 42) (.slice (some ⟨g, 0, none⟩) 1 m) N (put (upTo f x) x (sF f x k)) w wr ∧ BRow wr G N f) (fun i _ => x + 1 - (intOf i).toNat)
      case atStart => exact ⟨0, Nat.zero_le _, rfl, by rw [HS.out]; exact HL.out, HRR.out⟩
      case round =>
        obtain ⟨k, hk, rfl, hm, hq⟩ := hrel
        by_cases hkx : k < x
        · have hkc : ((k + 1 : Nat) : Int) ≤ (x : Int) := by omega
          have hfy := hm.row.free x
          have d1 := hm.row.cell hlt
          rw [put_same] at d1
          have d2 := hq.cell (i := k + 1) (by omega)
          obtain ⟨y, hy⟩ : ∃ y, y = x - (k + 1) := ⟨_, rfl⟩
          have d3 := hm.row.cell (i := y) (by omega)
          rw [put_less f _ (by omega)] at d3
          have hyi : (x : Int) - ((k + 1 : Nat) : Int) = (y : Int) := by omega
          have hyN : y < N := by omega
          have HPut := Lib.hid (fun b => (hm.put x b).congr fun j _ => put_put _ _ _ _ j)
          have HQ := Lib.hid (fun b : Bool => hq.other (a := ⟨w.heap.size + 1, x, none⟩) HG.out (.bool b))
          have HSn : Hid (sF f x (k + 1) = (sF f x k || (f (k + 1) && starB f y))) := Lib.hid (by rw [hy]; rfl)
          obtain ⟨q, hqd⟩ : ∃ q : Nat, q = k + 1 := ⟨_, rfl⟩
          rw [← hqd] at hkc d2 HSn hyi ⊢
          have HQd := Lib.hid hqd
          clear hm hq hy hqd
          cases h1 : sF f x k
          · rw [h1] at d1 HSn
            cases h2 : f q
            · rw [h2] at d2 HSn
              have HZ := Lib.hid (And.intro (HPut.out false) (HQ.out false))
              clear h1 h2
              go_wp2
              go_roundw
              case rel => exact ⟨k + 1, by omega, by rw [← HQd.out]; go_num, by rw [← HQd.out, HSn.out]; exact HZ.out.1, HZ.out.2⟩
              case measure => rw [HQd.out]; simp [intOf]; omega
            · rw [h2] at d2 HSn
              cases h3 : starB f y
              · rw [h3] at d3 HSn
                have HZ := Lib.hid (And.intro (HPut.out false) (HQ.out false))
                clear h1 h2 h3
                go_wp2
                go_roundw
                case rel => exact ⟨k + 1, by omega, by rw [← HQd.out]; go_num, by rw [← HQd.out, HSn.out]; exact HZ.out.1, HZ.out.2⟩
                case measure => rw [HQd.out]; simp [intOf]; omega
              · rw [h3] at d3 HSn
                have HZ := Lib.hid (And.intro (HPut.out true) (HQ.out true))
                clear h1 h2 h3
                go_wp2
                go_roundw
                case rel => exact ⟨k + 1, by omega, by rw [← HQd.out]; go_num, by rw [← HQd.out, HSn.out]; exact HZ.out.1, HZ.out.2⟩
                case measure => rw [HQd.out]; simp [intOf]; omega
          · rw [h1] at d1 HSn
            have HZ := Lib.hid (And.intro (HPut.out true) (HQ.out true))
            clear h1
            go_wp2
            go_roundw
            case rel => exact ⟨k + 1, by omega, by rw [← HQd.out]; go_num, by rw [← HQd.out, HSn.out]; exact HZ.out.1, HZ.out.2⟩
            case measure => rw [HQd.out]; simp [intOf]; omega
        · obtain rfl : k = x := by omega
          have HM := Lib.hid (hm.congr (d := upTo f (k + 1)) fun j _ => by rw [sF_done]; exact upTo_next f k j)
          have HQ := Lib.hid hq
          have hkc : ¬ ((k + 1 : Nat) : Int) ≤ (k : Int) := by omega
          clear hm hq
          obtain ⟨q, hqd⟩ : ∃ q : Nat, q = k + 1 := ⟨_, rfl⟩
          rw [← hqd] at hkc ⊢
          clear hqd
          go_wp2
          go_roundw
          case rel => exact ⟨k + 1, by omega, by go_num, HM.out, HQ.out⟩
          case measure => simp [intOf]; omega
    · obtain rfl : x = N := by omega
      have HL := Lib.hid hl
      clear hl hrr
      go_wp2
      go_ret
      exact ⟨⟨_, rfl, by omega, HL.out.row.congr fun i hi => by unfold upTo; rw [if_pos hi]⟩, HL.out.below⟩

set_option maxRecDepth 100000 in
set_option maxHeartbeats 4000000 in
theorem marks_times50 (f : Nat → Bool) (g m : Nat) (c : UInt8) (a : Option Addr) (n k N : Nat) (w : World) (hp : PartT w g 0 c a n k) (hN : N ≤ 1000)
    (ih : ∀ W, Below w.heap.size w W → Calls Try.prog 87 #[.agg #[.int .u8 c.toNat, .slice a n k], .int .i64 N] W (MarksEnd f N W)) :
    Calls Try.prog 87 #[.agg #[.int .u8 50, .slice (some ⟨g, 0, none⟩) 1 m], .int .i64 N] w (MarksEnd (sumK f 1) N w) := by
  obtain ⟨i0, hi, hz0, hz1, hz2⟩ := info_parts Try.infoBool
  have HX := Lib.hid (mBox_start (.int .u8 50) (.slice (some ⟨g, 0, none⟩) 1 m) N w)
  have HI := Lib.hid ih
  have hp1 := hp.step HX.out.below
  have c0 := hp1.p
  have c1 := hp1.q
  rw [Nat.zero_add] at c1
  clear ih hp hp1
  go_enter Try.func87, Try.ntmps87
  go_wp2_with (at_make; refine wpList_make_row _ rfl _ _ 73 rfl 4 i0 (.bool false) Try.underlying73 hi hz0 hz1 rfl .i64 .i64 N rfl rfl ?b1 ?b2 ?_)
  case b1 => rw [hz2]; omega
  case b2 => omega
  refine (HI.out _ HX.out.below).mono ?_
  rintro e w2 ⟨⟨G, rfl, hG, hr⟩, hb⟩
  have HX2 := Lib.hid (HX.out.step hb)
  have HR := Lib.hid hr
  have HG : Hid (w.heap.size ≤ G) := Lib.hid (by have := HX.out.below.size; omega)
  have b0 := HX2.out.b0
  have b1 := HX2.out.b1
  clear hG hr hb c0 c1
  go_wp2
  go_loopw [5, 10] (fun v i wr => ∃ j : Nat, j ≤ 1 ∧ i = .int .u8 ((49 + j : Nat) : Int) ∧ MBox (.int .u8 50) (.slice (some ⟨g, 0, none⟩) 1 m) N (fun _ => false) w wr ∧ BRow wr G N f ∧ ∃ G2, v = .slice (some ⟨G2, 0, none⟩) N N ∧ w.heap.size ≤ G2 ∧ BRow wr G2 N (sumK f j)) (fun _ i _ => 60 - (intOf i).toNat)
  case atStart => exact ⟨0, by omega, rfl, HX2.out, HR.out, G, rfl, HG.out, HR.out⟩
  case round =>
    obtain ⟨j, hj, rfl, hl, hq, G2, rfl, hG2, hr2⟩ := hrel
    have b0 := hl.b0
    have HL := Lib.hid hl
    have HQ := Lib.hid hq
    have HR2 := Lib.hid hr2
    have HG2 := Lib.hid hG2
    clear hl hq hr2 hG2
    by_cases hlt : j < 1
    · have hjc : ((49 + j : Nat) : Int) < 50 := by omega
      obtain ⟨q, hqd⟩ : ∃ q : Nat, q = 49 + j := ⟨_, rfl⟩
      rw [← hqd] at hjc ⊢
      have hq60 : q ≤ 60 := by omega
      have HQd := Lib.hid hqd
      clear hqd
      go_wp2_with fail
      refine (l7Sum_any G2 G N (sumK f j) f wr HR2.out HQ.out hN).mono ?_
      rintro e w3 ⟨⟨G3, rfl, hG3, hr3⟩, hb3⟩
      have HL3 := Lib.hid (HL.out.step hb3)
      have HQ3 := Lib.hid (HQ.out.step hb3)
      have HR3 := Lib.hid hr3
      have HG3 : Hid (w.heap.size ≤ G3) := Lib.hid (by have := HL.out.below.size; omega)
      clear hG3 hr3 hb3 b0
      go_wp2
      go_roundw
      case rel => exact ⟨j + 1, by omega, by have := HQd.out; rw [show 49 + (j + 1) = q + 1 by omega]; go_num, HL3.out, HQ3.out, G3, rfl, HG3.out, HR3.out⟩
      case measure => simp [intOf]; omega
    · obtain rfl : j = 1 := by omega
      go_wp2
      go_ret
      exact ⟨⟨G2, rfl, HG2.out, HR2.out⟩, HL.out.below⟩
set_option maxRecDepth 100000 in
set_option maxHeartbeats 4000000 in
theorem marks_times51 (f : Nat → Bool) (g m : Nat) (c : UInt8) (a : Option Addr) (n k N : Nat) (w : World) (hp : PartT w g 0 c a n k) (hN : N ≤ 1000)
    (ih : ∀ W, Below w.heap.size w W → Calls Try.prog 87 #[.agg #[.int .u8 c.toNat, .slice a n k], .int .i64 N] W (MarksEnd f N W)) :
    Calls Try.prog 87 #[.agg #[.int .u8 51, .slice (some ⟨g, 0, none⟩) 1 m], .int .i64 N] w (MarksEnd (sumK f 2) N w) := by
  obtain ⟨i0, hi, hz0, hz1, hz2⟩ := info_parts Try.infoBool
  have HX := Lib.hid (mBox_start (.int .u8 51) (.slice (some ⟨g, 0, none⟩) 1 m) N w)
  have HI := Lib.hid ih
  have hp1 := hp.step HX.out.below
  have c0 := hp1.p
  have c1 := hp1.q
  rw [Nat.zero_add] at c1
  clear ih hp hp1
  go_enter Try.func87, Try.ntmps87
  go_wp2_with (at_make; refine wpList_make_row _ rfl _ _ 73 rfl 4 i0 (.bool false) Try.underlying73 hi hz0 hz1 rfl .i64 .i64 N rfl rfl ?b1 ?b2 ?_)
  case b1 => rw [hz2]; omega
  case b2 => omega
  refine (HI.out _ HX.out.below).mono ?_
  rintro e w2 ⟨⟨G, rfl, hG, hr⟩, hb⟩
  have HX2 := Lib.hid (HX.out.step hb)
  have HR := Lib.hid hr
  have HG : Hid (w.heap.size ≤ G) := Lib.hid (by have := HX.out.below.size; omega)
  have b0 := HX2.out.b0
  have b1 := HX2.out.b1
  clear hG hr hb c0 c1
  go_wp2
  go_loopw [5, 10] (fun v i wr => ∃ j : Nat, j ≤ 2 ∧ i = .int .u8 ((49 + j : Nat) : Int) ∧ MBox (.int .u8 51) (.slice (some ⟨g, 0, none⟩) 1 m) N (fun _ => false) w wr ∧ BRow wr G N f ∧ ∃ G2, v = .slice (some ⟨G2, 0, none⟩) N N ∧ w.heap.size ≤ G2 ∧ BRow wr G2 N (sumK f j)) (fun _ i _ => 60 - (intOf i).toNat)
  case atStart => exact ⟨0, by omega, rfl, HX2.out, HR.out, G, rfl, HG.out, HR.out⟩
  case round =>
    obtain ⟨j, hj, rfl, hl, hq, G2, rfl, hG2, hr2⟩ := hrel
    have b0 := hl.b0
    have HL := Lib.hid hl
    have HQ := Lib.hid hq
    have HR2 := Lib.hid hr2
    have HG2 := Lib.hid hG2
    clear hl hq hr2 hG2
    by_cases hlt : j < 2
    · have hjc : ((49 + j : Nat) : Int) < 51 := by omega
      obtain ⟨q, hqd⟩ : ∃ q : Nat, q = 49 + j := ⟨_, rfl⟩
      rw [← hqd] at hjc ⊢
      have hq60 : q ≤ 60 := by omega
      have HQd := Lib.hid hqd
      clear hqd
      go_wp2_with fail
      refine (l7Sum_any G2 G N (sumK f j) f wr HR2.out HQ.out hN).mono ?_
      rintro e w3 ⟨⟨G3, rfl, hG3, hr3⟩, hb3⟩
      have HL3 := Lib.hid (HL.out.step hb3)
      have HQ3 := Lib.hid (HQ.out.step hb3)
      have HR3 := Lib.hid hr3
      have HG3 : Hid (w.heap.size ≤ G3) := Lib.hid (by have := HL.out.below.size; omega)
      clear hG3 hr3 hb3 b0
      go_wp2
      go_roundw
      case rel => exact ⟨j + 1, by omega, by have := HQd.out; rw [show 49 + (j + 1) = q + 1 by omega]; go_num, HL3.out, HQ3.out, G3, rfl, HG3.out, HR3.out⟩
      case measure => simp [intOf]; omega
    · obtain rfl : j = 2 := by omega
      go_wp2
      go_ret
      exact ⟨⟨G2, rfl, HG2.out, HR2.out⟩, HL.out.below⟩
set_option maxRecDepth 100000 in
set_option maxHeartbeats 4000000 in
theorem marks_times52 (f : Nat → Bool) (g m : Nat) (c : UInt8) (a : Option Addr) (n k N : Nat) (w : World) (hp : PartT w g 0 c a n k) (hN : N ≤ 1000)
    (ih : ∀ W, Below w.heap.size w W → Calls Try.prog 87 #[.agg #[.int .u8 c.toNat, .slice a n k], .int .i64 N] W (MarksEnd f N W)) :
    Calls Try.prog 87 #[.agg #[.int .u8 52, .slice (some ⟨g, 0, none⟩) 1 m], .int .i64 N] w (MarksEnd (sumK f 3) N w) := by
  obtain ⟨i0, hi, hz0, hz1, hz2⟩ := info_parts Try.infoBool
  have HX := Lib.hid (mBox_start (.int .u8 52) (.slice (some ⟨g, 0, none⟩) 1 m) N w)
  have HI := Lib.hid ih
  have hp1 := hp.step HX.out.below
  have c0 := hp1.p
  have c1 := hp1.q
  rw [Nat.zero_add] at c1
  clear ih hp hp1
  go_enter Try.func87, Try.ntmps87
  go_wp2_with (at_make; refine wpList_make_row _ rfl _ _ 73 rfl 4 i0 (.bool false) Try.underlying73 hi hz0 hz1 rfl .i64 .i64 N rfl rfl ?b1 ?b2 ?_)
  case b1 => rw [hz2]; omega
  case b2 => omega
  refine (HI.out _ HX.out.below).mono ?_
  rintro e w2 ⟨⟨G, rfl, hG, hr⟩, hb⟩
  have HX2 := Lib.hid (HX.out.step hb)
  have HR := Lib.hid hr
  have HG : Hid (w.heap.size ≤ G) := Lib.hid (by have := HX.out.below.size; omega)
  have b0 := HX2.out.b0
  have b1 := HX2.out.b1
  clear hG hr hb c0 c1
  go_wp2
  go_loopw [5, 10] (fun v i wr => ∃ j : Nat, j ≤ 3 ∧ i = .int .u8 ((49 + j : Nat) : Int) ∧ MBox (.int .u8 52) (.slice (some ⟨g, 0, none⟩) 1 m) N (fun _ => false) w wr ∧ BRow wr G N f ∧ ∃ G2, v = .slice (some ⟨G2, 0, none⟩) N N ∧ w.heap.size ≤ G2 ∧ BRow wr G2 N (sumK f j)) (fun _ i _ => 60 - (intOf i).toNat)
  case atStart => exact ⟨0, by omega, rfl, HX2.out, HR.out, G, rfl, HG.out, HR.out⟩
  case round =>
    obtain ⟨j, hj, rfl, hl, hq, G2, rfl, hG2, hr2⟩ := hrel
    have b0 := hl.b0
    have HL := Lib.hid hl
    have HQ := Lib.hid hq
    have HR2 := Lib.hid hr2
    have HG2 := Lib.hid hG2
    clear hl hq hr2 hG2
    by_cases hlt : j < 3
    · have hjc : ((49 + j : Nat) : Int) < 52 := by omega
      obtain ⟨q, hqd⟩ : ∃ q : Nat, q = 49 + j := ⟨_, rfl⟩
      rw [← hqd] at hjc ⊢
      have hq60 : q ≤ 60 := by omega
      have HQd := Lib.hid hqd
      clear hqd
      go_wp2_with fail
      refine (l7Sum_any G2 G N (sumK f j) f wr HR2.out HQ.out hN).mono ?_
      rintro e w3 ⟨⟨G3, rfl, hG3, hr3⟩, hb3⟩
      have HL3 := Lib.hid (HL.out.step hb3)
      have HQ3 := Lib.hid (HQ.out.step hb3)
      have HR3 := Lib.hid hr3
      have HG3 : Hid (w.heap.size ≤ G3) := Lib.hid (by have := HL.out.below.size; omega)
      clear hG3 hr3 hb3 b0
      go_wp2
      go_roundw
      case rel => exact ⟨j + 1, by omega, by have := HQd.out; rw [show 49 + (j + 1) = q + 1 by omega]; go_num, HL3.out, HQ3.out, G3, rfl, HG3.out, HR3.out⟩
      case measure => simp [intOf]; omega
    · obtain rfl : j = 3 := by omega
      go_wp2
      go_ret
      exact ⟨⟨G2, rfl, HG2.out, HR2.out⟩, HL.out.below⟩
set_option maxRecDepth 100000 in
set_option maxHeartbeats 4000000 in
theorem marks_times53 (f : Nat → Bool) (g m : Nat) (c : UInt8) (a : Option Addr) (n k N : Nat) (w : World) (hp : PartT w g 0 c a n k) (hN : N ≤ 1000)
    (ih : ∀ W, Below w.heap.size w W → Calls Try.prog 87 #[.agg #[.int .u8 c.toNat, .slice a n k], .int .i64 N] W (MarksEnd f N W)) :
    Calls Try.prog 87 #[.agg #[.int .u8 53, .slice (some ⟨g, 0, none⟩) 1 m], .int .i64 N] w (MarksEnd (sumK f 4) N w) := by
  obtain ⟨i0, hi, hz0, hz1, hz2⟩ := info_parts Try.infoBool
  have HX := Lib.hid (mBox_start (.int .u8 53) (.slice (some ⟨g, 0, none⟩) 1 m) N w)
  have HI := Lib.hid ih
  have hp1 := hp.step HX.out.below
  have c0 := hp1.p
  have c1 := hp1.q
  rw [Nat.zero_add] at c1
  clear ih hp hp1
  go_enter Try.func87, Try.ntmps87
  go_wp2_with (at_make; refine wpList_make_row _ rfl _ _ 73 rfl 4 i0 (.bool false) Try.underlying73 hi hz0 hz1 rfl .i64 .i64 N rfl rfl ?b1 ?b2 ?_)
  case b1 => rw [hz2]; omega
  case b2 => omega
  refine (HI.out _ HX.out.below).mono ?_
  rintro e w2 ⟨⟨G, rfl, hG, hr⟩, hb⟩
  have HX2 := Lib.hid (HX.out.step hb)
  have HR := Lib.hid hr
  have HG : Hid (w.heap.size ≤ G) := Lib.hid (by have := HX.out.below.size; omega)
  have b0 := HX2.out.b0
  have b1 := HX2.out.b1
  clear hG hr hb c0 c1
  go_wp2
  go_loopw [5, 10] (fun v i wr => ∃ j : Nat, j ≤ 4 ∧ i = .int .u8 ((49 + j : Nat) : Int) ∧ MBox (.int .u8 53) (.slice (some ⟨g, 0, none⟩) 1 m) N (fun _ => false) w wr ∧ BRow wr G N f ∧ ∃ G2, v = .slice (some ⟨G2, 0, none⟩) N N ∧ w.heap.size ≤ G2 ∧ BRow wr G2 N (sumK f j)) (fun _ i _ => 60 - (intOf i).toNat)
  case atStart => exact ⟨0, by omega, rfl, HX2.out, HR.out, G, rfl, HG.out, HR.out⟩
  case round =>
    obtain ⟨j, hj, rfl, hl, hq, G2, rfl, hG2, hr2⟩ := hrel
    have b0 := hl.b0
    have HL := Lib.hid hl
    have HQ := Lib.hid hq
    have HR2 := Lib.hid hr2
    have HG2 := Lib.hid hG2
    clear hl hq hr2 hG2
    by_cases hlt : j < 4
    · have hjc : ((49 + j : Nat) : Int) < 53 := by omega
      obtain ⟨q, hqd⟩ : ∃ q : Nat, q = 49 + j := ⟨_, rfl⟩
      rw [← hqd] at hjc ⊢
      have hq60 : q ≤ 60 := by omega
      have HQd := Lib.hid hqd
      clear hqd
      go_wp2_with fail
      refine (l7Sum_any G2 G N (sumK f j) f wr HR2.out HQ.out hN).mono ?_
      rintro e w3 ⟨⟨G3, rfl, hG3, hr3⟩, hb3⟩
      have HL3 := Lib.hid (HL.out.step hb3)
      have HQ3 := Lib.hid (HQ.out.step hb3)
      have HR3 := Lib.hid hr3
      have HG3 : Hid (w.heap.size ≤ G3) := Lib.hid (by have := HL.out.below.size; omega)
      clear hG3 hr3 hb3 b0
      go_wp2
      go_roundw
      case rel => exact ⟨j + 1, by omega, by have := HQd.out; rw [show 49 + (j + 1) = q + 1 by omega]; go_num, HL3.out, HQ3.out, G3, rfl, HG3.out, HR3.out⟩
      case measure => simp [intOf]; omega
    · obtain rfl : j = 4 := by omega
      go_wp2
      go_ret
      exact ⟨⟨G2, rfl, HG2.out, HR2.out⟩, HL.out.below⟩

/-- The row where the numbers less than x are as told. -/
def upC (h : Nat → Bool) (x i : Nat) : Bool := if i < x then h i else false
theorem upC_next (h : Nat → Bool) (x j : Nat) : put (upC h x) x (h x) j = upC h (x + 1) j := by
  unfold put upC
  by_cases e : j = x
  · subst e; rw [if_pos rfl, if_pos (by omega)]
  · rw [if_neg e]
    by_cases h : j < x
    · rw [if_pos h, if_pos (by omega)]
    · rw [if_neg h, if_neg (by omega)]
set_option maxRecDepth 100000 in
set_option maxHeartbeats 4000000 in
theorem marks_pair46 (f h : Nat → Bool) (g m : Nat) (c : UInt8) (a : Option Addr) (n k : Nat) (c2 : UInt8) (a2 : Option Addr) (n2 k2 : Nat) (N : Nat) (w : World) (hp : PartT w g 0 c a n k) (hq : PartT w g 2 c2 a2 n2 k2) (hN : N ≤ 1000)
    (ih : ∀ W, Below w.heap.size w W → Calls Try.prog 87 #[.agg #[.int .u8 c.toNat, .slice a n k], .int .i64 N] W (MarksEnd f N W))
    (ih2 : ∀ W, Below w.heap.size w W → Calls Try.prog 87 #[.agg #[.int .u8 c2.toNat, .slice a2 n2 k2], .int .i64 N] W (MarksEnd h N W)) :
    Calls Try.prog 87 #[.agg #[.int .u8 46, .slice (some ⟨g, 0, none⟩) 2 m], .int .i64 N] w (MarksEnd (midF 46 f h) N w) := by
  obtain ⟨i0, hi, hz0, hz1, hz2⟩ := info_parts Try.infoBool
  have HX := Lib.hid (mBox_start (.int .u8 46) (.slice (some ⟨g, 0, none⟩) 2 m) N w)
  have HI := Lib.hid ih
  have HI2 := Lib.hid ih2
  have HQ := Lib.hid hq
  have hp1 := hp.step HX.out.below
  have c0 := hp1.p
  have c1 := hp1.q
  rw [Nat.zero_add] at c1
  clear ih ih2 hp hp1 hq
  go_enter Try.func87, Try.ntmps87
  go_wp2_with (at_make; refine wpList_make_row _ rfl _ _ 73 rfl 4 i0 (.bool false) Try.underlying73 hi hz0 hz1 rfl .i64 .i64 N rfl rfl ?b1 ?b2 ?_)
  case b1 => rw [hz2]; omega
  case b2 => omega
  refine (HI.out _ HX.out.below).mono ?_
  rintro e w2 ⟨⟨G, rfl, hG, hr⟩, hb⟩
  have HX2 := Lib.hid (HX.out.step hb)
  have HR := Lib.hid hr
  have HG : Hid (w.heap.size ≤ G ∧ G ≠ w.heap.size + 1) := Lib.hid (by have := HX.out.row.lt; have := HX.out.below.size; omega)
  have b0 := HX2.out.b0
  have b1 := HX2.out.b1
  have hq1 := HQ.out.step HX2.out.below
  have e0 := hq1.p
  have e1 : w2.cell? ⟨g, 3, none⟩ = some (.slice a2 n2 k2) := hq1.q
  clear hG hr hb c0 c1 hq1
  go_wp2_with fail
  refine (HI2.out _ HX2.out.below).mono ?_
  rintro e w3 ⟨⟨G2, rfl, hG2, hr2⟩, hb2⟩
  have HX3 := Lib.hid (HX2.out.step hb2)
  have HR1 := Lib.hid (HR.out.step hb2)
  have HR2 := Lib.hid hr2
  have HG2 : Hid (w.heap.size ≤ G2 ∧ G2 ≠ w.heap.size + 1) := Lib.hid (by have := HX2.out.row.lt; have := HX2.out.below.size; omega)
  have b0 := HX3.out.b0
  have b1 := HX3.out.b1
  clear hG2 hr2 hb2 e0 e1
  go_wp2_with fail
  refine (l7Sum_any G G2 N f h w3 HR1.out HR2.out hN).mono ?_
  rintro e w4 ⟨⟨G3, rfl, hG3, hr3⟩, hb3⟩
  have HB := Lib.hid (HX3.out.below.trans (hb3.mono HX3.out.below.size))
  have HR3 := Lib.hid hr3
  have HG3 := Lib.hid (Nat.le_trans HX3.out.below.size hG3)
  clear hG3 hr3 hb3 b0 b1
  go_wp2_with fail
  go_ret
  exact ⟨⟨G3, rfl, HG3.out, HR3.out⟩, HB.out⟩
set_option maxRecDepth 100000 in
set_option maxHeartbeats 4000000 in
theorem marks_pair43 (f h : Nat → Bool) (g m : Nat) (c : UInt8) (a : Option Addr) (n k : Nat) (c2 : UInt8) (a2 : Option Addr) (n2 k2 : Nat) (N : Nat) (w : World) (hp : PartT w g 0 c a n k) (hq : PartT w g 2 c2 a2 n2 k2) (hN : N ≤ 1000)
    (ih : ∀ W, Below w.heap.size w W → Calls Try.prog 87 #[.agg #[.int .u8 c.toNat, .slice a n k], .int .i64 N] W (MarksEnd f N W))
    (ih2 : ∀ W, Below w.heap.size w W → Calls Try.prog 87 #[.agg #[.int .u8 c2.toNat, .slice a2 n2 k2], .int .i64 N] W (MarksEnd h N W)) :
    Calls Try.prog 87 #[.agg #[.int .u8 43, .slice (some ⟨g, 0, none⟩) 2 m], .int .i64 N] w (MarksEnd (midF 43 f h) N w) := by
  obtain ⟨i0, hi, hz0, hz1, hz2⟩ := info_parts Try.infoBool
  have HX := Lib.hid (mBox_start (.int .u8 43) (.slice (some ⟨g, 0, none⟩) 2 m) N w)
  have HI := Lib.hid ih
  have HI2 := Lib.hid ih2
  have HQ := Lib.hid hq
  have hp1 := hp.step HX.out.below
  have c0 := hp1.p
  have c1 := hp1.q
  rw [Nat.zero_add] at c1
  clear ih ih2 hp hp1 hq
  go_enter Try.func87, Try.ntmps87
  go_wp2_with (at_make; refine wpList_make_row _ rfl _ _ 73 rfl 4 i0 (.bool false) Try.underlying73 hi hz0 hz1 rfl .i64 .i64 N rfl rfl ?b1 ?b2 ?_)
  case b1 => rw [hz2]; omega
  case b2 => omega
  refine (HI.out _ HX.out.below).mono ?_
  rintro e w2 ⟨⟨G, rfl, hG, hr⟩, hb⟩
  have HX2 := Lib.hid (HX.out.step hb)
  have HR := Lib.hid hr
  have HG : Hid (w.heap.size ≤ G ∧ G ≠ w.heap.size + 1) := Lib.hid (by have := HX.out.row.lt; have := HX.out.below.size; omega)
  have b0 := HX2.out.b0
  have b1 := HX2.out.b1
  have hq1 := HQ.out.step HX2.out.below
  have e0 := hq1.p
  have e1 : w2.cell? ⟨g, 3, none⟩ = some (.slice a2 n2 k2) := hq1.q
  clear hG hr hb c0 c1 hq1
  go_wp2_with fail
  refine (HI2.out _ HX2.out.below).mono ?_
  rintro e w3 ⟨⟨G2, rfl, hG2, hr2⟩, hb2⟩
  have HX3 := Lib.hid (HX2.out.step hb2)
  have HR1 := Lib.hid (HR.out.step hb2)
  have HR2 := Lib.hid hr2
  have HG2 : Hid (w.heap.size ≤ G2 ∧ G2 ≠ w.heap.size + 1) := Lib.hid (by have := HX2.out.row.lt; have := HX2.out.below.size; omega)
  have b0 := HX3.out.b0
  have b1 := HX3.out.b1
  clear hG2 hr2 hb2 e0 e1
  have HX4 := Lib.hid (HX3.out.congr (d := upC (fun i => f i || h i) 0) fun i _ => rfl)
  clear b0 b1
  have b0 := HX4.out.b0
  go_wp2
  go_loopw [12] (fun i wr => ∃ x : Nat, x ≤ N ∧ i = .int .i64 x ∧ MBox (.int .u8 43) (.slice (some ⟨g, 0, none⟩) 2 m) N (upC (fun i => f i || h i) x) w wr ∧ BRow wr G N f ∧ BRow wr G2 N h) (fun i _ => N - (intOf i).toNat)
  case atStart => exact ⟨0, Nat.zero_le _, rfl, HX4.out, HR1.out, HR2.out⟩
  case round =>
    obtain ⟨x, hx, rfl, hl, hrr, hr3⟩ := hrel
    by_cases hlt : x < N
    · have hfz := hl.row.free x
      have hcz := hl.row.cell hlt
      have d1 := hrr.cell hlt
      have d2 := hr3.cell hlt
      have d3 := hl.b0
      have hpt := (hl.put x (f x || h x)).congr fun j _ => upC_next (fun i => f i || h i) x j
      cases h1 : f x
      · rw [h1] at d1 hpt
        cases h2 : h x
        · rw [h2] at d2 hpt
          have HP := Lib.hid (And.intro hpt (And.intro (hrr.other (a := ⟨w.heap.size + 1, x, none⟩) HG.out.2 (.bool false)) (hr3.other (a := ⟨w.heap.size + 1, x, none⟩) HG2.out.2 (.bool false))))
          clear hl hrr hr3 hpt h1 h2
          go_wp2
          go_roundw
          case rel => exact ⟨x + 1, by omega, by go_num, HP.out.1, HP.out.2.1, HP.out.2.2⟩
          case measure => simp [intOf]; omega
        · rw [h2] at d2 hpt
          have HP := Lib.hid (And.intro hpt (And.intro (hrr.other (a := ⟨w.heap.size + 1, x, none⟩) HG.out.2 (.bool true)) (hr3.other (a := ⟨w.heap.size + 1, x, none⟩) HG2.out.2 (.bool true))))
          clear hl hrr hr3 hpt h1 h2
          go_wp2
          go_roundw
          case rel => exact ⟨x + 1, by omega, by go_num, HP.out.1, HP.out.2.1, HP.out.2.2⟩
          case measure => simp [intOf]; omega
      · rw [h1] at d1 hpt
        cases h2 : h x
        · rw [h2] at d2 hpt
          have HP := Lib.hid (And.intro hpt (And.intro (hrr.other (a := ⟨w.heap.size + 1, x, none⟩) HG.out.2 (.bool true)) (hr3.other (a := ⟨w.heap.size + 1, x, none⟩) HG2.out.2 (.bool true))))
          clear hl hrr hr3 hpt h1 h2
          go_wp2
          go_roundw
          case rel => exact ⟨x + 1, by omega, by go_num, HP.out.1, HP.out.2.1, HP.out.2.2⟩
          case measure => simp [intOf]; omega
        · rw [h2] at d2 hpt
          have HP := Lib.hid (And.intro hpt (And.intro (hrr.other (a := ⟨w.heap.size + 1, x, none⟩) HG.out.2 (.bool true)) (hr3.other (a := ⟨w.heap.size + 1, x, none⟩) HG2.out.2 (.bool true))))
          clear hl hrr hr3 hpt h1 h2
          go_wp2
          go_roundw
          case rel => exact ⟨x + 1, by omega, by go_num, HP.out.1, HP.out.2.1, HP.out.2.2⟩
          case measure => simp [intOf]; omega
    · obtain rfl : x = N := by omega
      have HL := Lib.hid hl
      clear hl hrr hr3
      go_wp2
      go_ret
      exact ⟨⟨_, rfl, by omega, HL.out.row.congr fun i hi => by unfold upC; rw [if_pos hi]; rfl⟩, HL.out.below⟩
set_option maxRecDepth 100000 in
set_option maxHeartbeats 4000000 in
theorem marks_pair38 (f h : Nat → Bool) (g m : Nat) (c : UInt8) (a : Option Addr) (n k : Nat) (c2 : UInt8) (a2 : Option Addr) (n2 k2 : Nat) (N : Nat) (w : World) (hp : PartT w g 0 c a n k) (hq : PartT w g 2 c2 a2 n2 k2) (hN : N ≤ 1000)
    (ih : ∀ W, Below w.heap.size w W → Calls Try.prog 87 #[.agg #[.int .u8 c.toNat, .slice a n k], .int .i64 N] W (MarksEnd f N W))
    (ih2 : ∀ W, Below w.heap.size w W → Calls Try.prog 87 #[.agg #[.int .u8 c2.toNat, .slice a2 n2 k2], .int .i64 N] W (MarksEnd h N W)) :
    Calls Try.prog 87 #[.agg #[.int .u8 38, .slice (some ⟨g, 0, none⟩) 2 m], .int .i64 N] w (MarksEnd (midF 38 f h) N w) := by
  obtain ⟨i0, hi, hz0, hz1, hz2⟩ := info_parts Try.infoBool
  have HX := Lib.hid (mBox_start (.int .u8 38) (.slice (some ⟨g, 0, none⟩) 2 m) N w)
  have HI := Lib.hid ih
  have HI2 := Lib.hid ih2
  have HQ := Lib.hid hq
  have hp1 := hp.step HX.out.below
  have c0 := hp1.p
  have c1 := hp1.q
  rw [Nat.zero_add] at c1
  clear ih ih2 hp hp1 hq
  go_enter Try.func87, Try.ntmps87
  go_wp2_with (at_make; refine wpList_make_row _ rfl _ _ 73 rfl 4 i0 (.bool false) Try.underlying73 hi hz0 hz1 rfl .i64 .i64 N rfl rfl ?b1 ?b2 ?_)
  case b1 => rw [hz2]; omega
  case b2 => omega
  refine (HI.out _ HX.out.below).mono ?_
  rintro e w2 ⟨⟨G, rfl, hG, hr⟩, hb⟩
  have HX2 := Lib.hid (HX.out.step hb)
  have HR := Lib.hid hr
  have HG : Hid (w.heap.size ≤ G ∧ G ≠ w.heap.size + 1) := Lib.hid (by have := HX.out.row.lt; have := HX.out.below.size; omega)
  have b0 := HX2.out.b0
  have b1 := HX2.out.b1
  have hq1 := HQ.out.step HX2.out.below
  have e0 := hq1.p
  have e1 : w2.cell? ⟨g, 3, none⟩ = some (.slice a2 n2 k2) := hq1.q
  clear hG hr hb c0 c1 hq1
  go_wp2_with fail
  refine (HI2.out _ HX2.out.below).mono ?_
  rintro e w3 ⟨⟨G2, rfl, hG2, hr2⟩, hb2⟩
  have HX3 := Lib.hid (HX2.out.step hb2)
  have HR1 := Lib.hid (HR.out.step hb2)
  have HR2 := Lib.hid hr2
  have HG2 : Hid (w.heap.size ≤ G2 ∧ G2 ≠ w.heap.size + 1) := Lib.hid (by have := HX2.out.row.lt; have := HX2.out.below.size; omega)
  have b0 := HX3.out.b0
  have b1 := HX3.out.b1
  clear hG2 hr2 hb2 e0 e1
  have HX4 := Lib.hid (HX3.out.congr (d := upC (fun i => f i && h i) 0) fun i _ => rfl)
  clear b0 b1
  have b0 := HX4.out.b0
  go_wp2
  go_loopw [12] (fun i wr => ∃ x : Nat, x ≤ N ∧ i = .int .i64 x ∧ MBox (.int .u8 38) (.slice (some ⟨g, 0, none⟩) 2 m) N (upC (fun i => f i && h i) x) w wr ∧ BRow wr G N f ∧ BRow wr G2 N h) (fun i _ => N - (intOf i).toNat)
  case atStart => exact ⟨0, Nat.zero_le _, rfl, HX4.out, HR1.out, HR2.out⟩
  case round =>
    obtain ⟨x, hx, rfl, hl, hrr, hr3⟩ := hrel
    by_cases hlt : x < N
    · have hfz := hl.row.free x
      have hcz := hl.row.cell hlt
      have d1 := hrr.cell hlt
      have d2 := hr3.cell hlt
      have d3 := hl.b0
      have hpt := (hl.put x (f x && h x)).congr fun j _ => upC_next (fun i => f i && h i) x j
      cases h1 : f x
      · rw [h1] at d1 hpt
        cases h2 : h x
        · rw [h2] at d2 hpt
          have HP := Lib.hid (And.intro hpt (And.intro (hrr.other (a := ⟨w.heap.size + 1, x, none⟩) HG.out.2 (.bool false)) (hr3.other (a := ⟨w.heap.size + 1, x, none⟩) HG2.out.2 (.bool false))))
          clear hl hrr hr3 hpt h1 h2
          go_wp2
          go_roundw
          case rel => exact ⟨x + 1, by omega, by go_num, HP.out.1, HP.out.2.1, HP.out.2.2⟩
          case measure => simp [intOf]; omega
        · rw [h2] at d2 hpt
          have HP := Lib.hid (And.intro hpt (And.intro (hrr.other (a := ⟨w.heap.size + 1, x, none⟩) HG.out.2 (.bool false)) (hr3.other (a := ⟨w.heap.size + 1, x, none⟩) HG2.out.2 (.bool false))))
          clear hl hrr hr3 hpt h1 h2
          go_wp2
          go_roundw
          case rel => exact ⟨x + 1, by omega, by go_num, HP.out.1, HP.out.2.1, HP.out.2.2⟩
          case measure => simp [intOf]; omega
      · rw [h1] at d1 hpt
        cases h2 : h x
        · rw [h2] at d2 hpt
          have HP := Lib.hid (And.intro hpt (And.intro (hrr.other (a := ⟨w.heap.size + 1, x, none⟩) HG.out.2 (.bool false)) (hr3.other (a := ⟨w.heap.size + 1, x, none⟩) HG2.out.2 (.bool false))))
          clear hl hrr hr3 hpt h1 h2
          go_wp2
          go_roundw
          case rel => exact ⟨x + 1, by omega, by go_num, HP.out.1, HP.out.2.1, HP.out.2.2⟩
          case measure => simp [intOf]; omega
        · rw [h2] at d2 hpt
          have HP := Lib.hid (And.intro hpt (And.intro (hrr.other (a := ⟨w.heap.size + 1, x, none⟩) HG.out.2 (.bool true)) (hr3.other (a := ⟨w.heap.size + 1, x, none⟩) HG2.out.2 (.bool true))))
          clear hl hrr hr3 hpt h1 h2
          go_wp2
          go_roundw
          case rel => exact ⟨x + 1, by omega, by go_num, HP.out.1, HP.out.2.1, HP.out.2.2⟩
          case measure => simp [intOf]; omega
    · obtain rfl : x = N := by omega
      have HL := Lib.hid hl
      clear hl hrr hr3
      go_wp2
      go_ret
      exact ⟨⟨_, rfl, by omega, HL.out.row.congr fun i hi => by unfold upC; rw [if_pos hi]; rfl⟩, HL.out.below⟩

/-- The walk of spec.l7Marks, whatever the term. -/
theorem marks_any : ∀ (t : Tm) (B : Nat) (v : Value) (N : Nat) (w : World), tmOk t = true → IsT B w t v → N ≤ 1000 → Calls Try.prog 87 #[v, .int .i64 N] w (MarksEnd (tmF t) N w) := by
  intro t
  induction t with
  | sign c =>
    rintro B v N w ho ⟨a, k, rfl⟩ hN
    rcases one_cases ho with rfl | rfl | rfl
    · exact marks_sign48 a k N w hN
    · exact marks_sign49 a k N w hN
    · exact marks_sign97 a k N w hN
  | star t ih =>
    rintro B v N w ho ⟨g, m, x, rfl, _, hx, hT⟩ hN
    obtain ⟨c, a, n, k, rfl, hp⟩ := part_of hx hT
    exact marks_star (tmF t) g m c a n k N w hp hN (fun W hb => ih B _ N W ho (hT.step hb) hN)
  | times d t ih =>
    rintro B v N w ho ⟨g, m, x, rfl, _, hx, hT⟩ hN
    rw [tmOk, Bool.and_eq_true] at ho
    obtain ⟨c, a, n, k, rfl, hp⟩ := part_of hx hT
    have ih' := fun W (hb : Below w.heap.size w W) => ih B _ N W ho.2 (hT.step hb) hN
    rcases dig_cases ho.1 with rfl | rfl | rfl | rfl
    · exact marks_times50 (tmF t) g m c a n k N w hp hN ih'
    · exact marks_times51 (tmF t) g m c a n k N w hp hN ih'
    · exact marks_times52 (tmF t) g m c a n k N w hp hN ih'
    · exact marks_times53 (tmF t) g m c a n k N w hp hN ih'
  | pair l s r ihl ihr =>
    rintro B v N w ho ⟨g, m, x, y, rfl, _, hx, hT, hy, hU⟩ hN
    rw [tmOk, Bool.and_eq_true, Bool.and_eq_true] at ho
    obtain ⟨c, a, n, k, rfl, hp⟩ := part_of hx hT
    obtain ⟨c2, a2, n2, k2, rfl, hq⟩ := part_of hy hU
    have ih1 := fun W (hb : Below w.heap.size w W) => ihl B _ N W ho.1 (hT.step hb) hN
    have ih2 := fun W (hb : Below w.heap.size w W) => ihr B _ N W ho.2.2 (hU.step hb) hN
    rcases mid_cases ho.2.1 with rfl | rfl | rfl
    · exact marks_pair43 (tmF l) (tmF r) g m c a n k c2 a2 n2 k2 N w hp hq hN ih1 ih2
    · exact marks_pair46 (tmF l) (tmF r) g m c a n k c2 a2 n2 k2 N w hp hq hN ih1 ih2
    · exact marks_pair38 (tmF l) (tmF r) g m c a n k c2 a2 n2 k2 N w hp hq hN ih1 ih2

end Go.Proofs.Ytiphooodijbhiaa
