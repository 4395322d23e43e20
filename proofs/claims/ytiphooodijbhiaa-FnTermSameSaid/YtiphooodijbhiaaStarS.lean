/-
  The walk of spec.l4Star.
-/
import Derived.Test.YtiphooodijbhiaaSmallS
import Derived.Test.YtiphooodijbhiaaBRow
import Derived.Test.YtiphooodijbhiaaStarRound
import Derived.Test.YtiphooodijbhiaaInts
set_option linter.unusedVariables false
set_option linter.unusedSimpArgs false
namespace Go.Proofs.Ytiphooodijbhiaa
open Go.RowKit

/-- The parts less than k, as the model lists them. -/
noncomputable def partsM (f : Nat → Bool) (k : Nat) : List Int := (parts f k).map fun (n : Nat) => (n : Int)
theorem partsM_hit {f : Nat → Bool} {k : Nat} (h : genB f k = true) : partsM f (k + 1) = partsM f k ++ [(k : Int)] := by unfold partsM; rw [parts_succ, if_pos h]; simp
theorem partsM_miss {f : Nat → Bool} {k : Nat} (h : genB f k = false) : partsM f (k + 1) = partsM f k := by unfold partsM; rw [parts_succ, h]; simp
theorem partsM_len (f : Nat → Bool) (k : Nat) : (partsM f k).length ≤ k := by
  unfold partsM parts; rw [List.length_map]; exact Nat.le_trans (List.length_filter_le _ _) (by simp)
theorem partsM_at {f : Nat → Bool} {k i : Nat} (h : i < (partsM f k).length) : ∃ p : Nat, (partsM f k).getD i 0 = (p : Int) ∧ p < k ∧ 0 < p ∧ ∃ h' : i < (parts f k).length, (parts f k)[i] = p := by
  have h' : i < (parts f k).length := by unfold partsM at h; rw [List.length_map] at h; exact h
  have hm := mem_parts.1 (List.getElem_mem h')
  refine ⟨(parts f k)[i], ?_, hm.1, hm.2.2.1, h', rfl⟩
  unfold partsM
  rw [List.getD_eq_getElem?_getD, List.getElem?_map, List.getElem?_eq_getElem h']; rfl
theorem intsM_more (l : List Int) (x : Int) : ints (l ++ [x]) = ints l ++ [.int .i64 x] := by simp [ints]

/-- Is x a sum of one of the first parts and a number of the star? -/
noncomputable def anyTo (f : Nat → Bool) (x i : Nat) : Bool := ((parts f x).take i).any fun p => starB f (x - p)
noncomputable def anyAll (f : Nat → Bool) (x : Nat) : Bool := (parts f x).any fun p => starB f (x - p)
theorem anyTo_zero (f : Nat → Bool) (x : Nat) : anyTo f x 0 = false := by simp [anyTo]
theorem anyTo_next {f : Nat → Bool} {x i p : Nat} (h : i < (parts f x).length) (hp : (parts f x)[i] = p) (h0 : anyTo f x i = false) : anyTo f x (i + 1) = starB f (x - p) := by
  unfold anyTo at *
  rw [List.take_succ_eq_append_getElem h, List.any_append, h0, hp]; simp
theorem anyTo_done {f : Nat → Bool} {x i : Nat} (h : (partsM f x).length ≤ i) : anyTo f x i = anyAll f x := by
  unfold anyTo anyAll
  rw [List.take_of_length_le (by unfold partsM at h; rw [List.length_map] at h; exact h)]
theorem anyTo_hit {f : Nat → Bool} {x i : Nat} (h : anyTo f x i = true) : anyAll f x = true := by
  unfold anyTo at h
  unfold anyAll
  obtain ⟨p, h1, h2⟩ := List.any_eq_true.1 h
  exact List.any_eq_true.2 ⟨p, List.mem_of_mem_take h1, h2⟩
theorem star_any {f : Nat → Bool} {x : Nat} (hx : 0 < x) : starB f x = (anyAll f x || f x) := starB_parts hx
theorem gen_any {f : Nat → Bool} {x : Nat} (hx : 0 < x) : genB f x = (!anyAll f x && f x) := genB_parts hx
theorem gen_zero (f : Nat → Bool) : genB f 0 = false := by
  cases h : genB f 0
  · rfl
  · exact absurd (genB_iff.1 h).2.1 (by decide)

/-- The numbers of the star that are less than x. -/
noncomputable def cutF (f : Nat → Bool) (x i : Nat) : Bool := decide (i < x) && starB f i
/-- The world of l4Star's loops. -/
structure MStar (f : Nat → Bool) (u1 u2 : Value) (G N x : Nat) (b : Bool) (w wr : World) (pv : Value) : Prop where
  q0 : wr.cell? ⟨w.heap.size, 0, none⟩ = some u1
  q1 : wr.cell? ⟨w.heap.size, 1, none⟩ = some u2
  row : BRow wr G N (put (cutF f x) x b)
  own : wr.ownsRow (G + 1) 3 1 pv (partsM f x).length (ints (partsM f x))
  lt : w.heap.size < G
  below : Below w.heap.size w wr
theorem MStar.step {f : Nat → Bool} {u1 u2 : Value} {G N x : Nat} {b : Bool} {w wr w' : World} {pv : Value} (h : MStar f u1 u2 G N x b w wr pv) (hb : Below wr.heap.size wr w') : MStar f u1 u2 G N x b w w' pv :=
  ⟨(hb.cell (p := ⟨w.heap.size, 0, none⟩) (lt_of_some h.q0)).trans h.q0, (hb.cell (p := ⟨w.heap.size, 1, none⟩) (lt_of_some h.q0)).trans h.q1, h.row.step hb, own_below h.own hb (Nat.le_refl _), h.lt, h.below.trans (hb.mono h.below.size)⟩
theorem MStar.notOwn {f : Nat → Bool} {u1 u2 : Value} {G N x : Nat} {b : Bool} {w wr : World} {pv : Value} (h : MStar f u1 u2 G N x b w wr pv) : pv.ownBlock ≠ some G := fun e => by have := (h.own.lt G e).1; omega
theorem MStar.set {f : Nat → Bool} {u1 u2 : Value} {G N x : Nat} {b : Bool} {w wr : World} {pv : Value} (h : MStar f u1 u2 G N x b w wr pv) (c : Bool) : MStar f u1 u2 G N x c w (wr.setCell ⟨G, x, none⟩ (.bool c)) pv := by
  have he := (Else.refl G wr).put x (.bool c)
  have hlt := h.lt
  have c1 : ∀ i, (wr.setCell ⟨G, x, none⟩ (.bool c)).cell? ⟨w.heap.size, i, none⟩ = wr.cell? ⟨w.heap.size, i, none⟩ := fun i => he.cell (p := ⟨w.heap.size, i, none⟩) (by show w.heap.size ≠ G; omega) (lt_of_some h.q0)
  refine ⟨(c1 0).trans h.q0, (c1 1).trans h.q1, (h.row.put x c).congr fun j _ => ?_, he.own h.own h.notOwn, hlt, he.below h.below (by omega) h.row.lt⟩
  unfold put
  by_cases e : j = x
  · rw [if_pos e, if_pos e]
  · rw [if_neg e, if_neg e, if_neg e]
theorem MStar.cellX {f : Nat → Bool} {u1 u2 : Value} {G N x : Nat} {b : Bool} {w wr : World} {pv : Value} (h : MStar f u1 u2 G N x b w wr pv) (hx : x < N) : wr.cell? ⟨G, x, none⟩ = some (.bool b) ∧ wr.frozen? ⟨G, x, none⟩ = false := by
  refine ⟨?_, h.row.free _⟩
  rw [h.row.cell hx]
  unfold put; rw [if_pos rfl]
theorem MStar.cellL {f : Nat → Bool} {u1 u2 : Value} {G N x y : Nat} {b : Bool} {w wr : World} {pv : Value} (h : MStar f u1 u2 G N x b w wr pv) (hx : x < N) (hy : y < x) : wr.cell? ⟨G, y, none⟩ = some (.bool (starB f y)) := by
  rw [h.row.cell (show y < N by omega)]
  unfold put cutF; rw [if_neg (by omega), decide_eq_true hy, Bool.true_and]
theorem MStar.next {f : Nat → Bool} {u1 u2 : Value} {G N x : Nat} {b : Bool} {w wr : World} {pv : Value} (h : MStar f u1 u2 G N x b w wr pv) (hb : b = starB f x) (hg : genB f x = false) : MStar f u1 u2 G N (x + 1) false w wr pv := by
  refine ⟨h.q0, h.q1, h.row.congr fun j _ => ?_, by rw [partsM_miss hg]; exact h.own, h.lt, h.below⟩
  unfold put cutF
  by_cases e : j = x
  · subst e; rw [if_pos rfl, if_neg (by omega), decide_eq_true (by omega), hb]; rfl
  · rw [if_neg e]
    by_cases e2 : j = x + 1
    · rw [if_pos e2, decide_eq_false (by omega)]; rfl
    · rw [if_neg e2]
      by_cases e3 : j < x
      · rw [decide_eq_true e3, decide_eq_true (by omega)]
      · rw [decide_eq_false e3, decide_eq_false (by omega)]
theorem MStar.grow {f : Nat → Bool} {u1 u2 : Value} {G N x : Nat} {w wr w1 : World} {u v' : Value} {o : Obj} (h : MStar f u1 u2 G N x true w wr u) (hs : starB f x = true)
    (hown : w1.ownsRow (G + 1) 3 1 v' ((partsM f x).length + 1) (ints (partsM f x) ++ [.int .i64 x])) (hgrow : (wr.alloc o).grownBy w1 u.ownBlock) (hg : genB f x = true) : MStar f u1 u2 G N (x + 1) false w w1 v' := by
  have hl := h.row.lt
  have hlt := h.lt
  have hb : Below (G + 1) wr w1 := ((Below.refl (G + 1) wr).alloc (by omega) o).grown hgrow (by simp; omega) (fun j hj => (h.own.lt j hj).1)
  refine ⟨(hb.cell (p := ⟨w.heap.size, 0, none⟩) (by show w.heap.size < _; omega)).trans h.q0, (hb.cell (p := ⟨w.heap.size, 1, none⟩) (by show w.heap.size < _; omega)).trans h.q1, (h.row.below hb (by omega)).congr fun j _ => ?_,
    by rw [partsM_hit hg, intsM_more, List.length_append]; exact hown, hlt, h.below.trans (hb.mono (by omega))⟩
  unfold put cutF
  by_cases e : j = x
  · subst e; rw [if_pos rfl, if_neg (by omega), decide_eq_true (by omega), hs]; rfl
  · rw [if_neg e]
    by_cases e2 : j = x + 1
    · rw [if_pos e2, decide_eq_false (by omega)]; rfl
    · rw [if_neg e2]
      by_cases e3 : j < x
      · rw [decide_eq_true e3, decide_eq_true (by omega)]
      · rw [decide_eq_false e3, decide_eq_false (by omega)]
theorem grown_len {w w1 : World} {a : Option Addr} {n m c : Nat} (h : w.grownBy w1 (Value.slice a n c).ownBlock) : w.grownBy w1 (Value.slice a m c).ownBlock := by cases a <;> exact h
theorem mStar_start (f : Nat → Bool) (u1 u2 : Value) (N : Nat) (w : World) :
    MStar f u1 u2 (w.heap.size + 1) N 0 false w (((w.alloc (.cells #[u1, u2] 75)).alloc (.cells (madeCells #[.bool false] N) 4)).alloc (.cells #[] 3)) (.slice (some ⟨w.heap.size + 1 + 1, 0, none⟩) 0 0) := by
  have hr := bRow_new (w.alloc (.cells #[u1, u2] 75)) N
  rw [World.size_alloc] at hr
  refine ⟨?_, ?_, ?_, ?_, by omega, ?_⟩
  · rw [World.cell?_alloc_past _ _ _ (by simp; omega), World.cell?_alloc_past _ _ _ (by simp), World.cell?_alloc_at _ _ _ _ rfl]; rfl
  · rw [World.cell?_alloc_past _ _ _ (by simp; omega), World.cell?_alloc_past _ _ _ (by simp), World.cell?_alloc_at _ _ _ _ rfl]; rfl
  · refine (hr.below ((Below.refl _ _).alloc (Nat.le_refl _) _) hr.lt).congr fun j _ => ?_
    unfold put cutF
    by_cases e : j = 0
    · rw [if_pos e]
    · rw [if_neg e, decide_eq_false (by omega)]; rfl
  · have h := World.ownsRow_made (base := w.heap.size + 1 + 1) (e := 3) (size := 1) ((w.alloc (.cells #[u1, u2] 75)).alloc (.cells (madeCells #[.bool false] N) 4)) #[] 0 (by simp) (by decide) rfl
    simp only [World.size_alloc] at h
    exact h
  · exact (((Below.refl _ _).alloc (Nat.le_refl _) _).alloc (by simp) _).alloc (by simp; omega) _

set_option maxRecDepth 100000 in
set_option maxHeartbeats 2000000 in
theorem l4Star_any (f : Nat → Bool) (a1 : Option Addr) (n1 c1 : Nat) (a2 : Option Addr) (n2 c2 N : Nat) (w : World) (hA : SmallIn w f a1 n1 a2 n2) (hN : N ≤ 5000) :
    Calls Try.prog 147 #[.agg #[.slice a1 n1 c1, .slice a2 n2 c2], .int .i64 N] w fun e w' =>
      ∃ G, e = .returned (.slice (some ⟨G, 0, none⟩) N N) ∧ w.heap.size ≤ G ∧ BRow w' G N (starB f) ∧ Below w.heap.size w w' := by
  obtain ⟨i0, hi, hz0, hz1, hz2⟩ := info_parts Try.infoBool
  obtain ⟨j0, hj, hy0, hy1, hy2⟩ := info_parts Try.infoInt
  have HA := Lib.hid hA
  have HL0 := Lib.hid (mStar_start f (.slice a1 n1 c1) (.slice a2 n2 c2) N w)
  clear hA
  go_enter Try.func147, Try.ntmps147
  go_wp2_with (at_make; refine wpList_make_row _ rfl _ _ 73 rfl 4 i0 (.bool false) Try.underlying73 hi hz0 hz1 rfl .i64 .i64 N rfl rfl ?b1 ?b2 ?_)
  case b1 => rw [hz2]; omega
  case b2 => omega
  go_wp2
  go_loopw [6, 7] (fun pv xi wr => ∃ x : Nat, x ≤ N ∧ xi = .int .i64 x ∧ MStar f (.slice a1 n1 c1) (.slice a2 n2 c2) (w.heap.size + 1) N x false w wr pv) (fun _ i _ => N - (intOf i).toNat)
  case atStart => exact ⟨0, Nat.zero_le _, rfl, HL0.out⟩
  case round =>
    obtain ⟨x, hx, rfl, hl⟩ := hrel
    by_cases hlt : x < N
    · obtain ⟨pa, pc, rfl⟩ := own_form hl.own
      have HL := Lib.hid hl
      clear hl
      obtain ⟨ln, hln⟩ : ∃ ln, ln = (partsM f x).length := ⟨_, rfl⟩
      have HLN := Lib.hid hln
      have hlen : ln ≤ x := by rw [hln]; exact partsM_len f x
      rw [← hln]
      clear hln
      go_wp2
      go_loopw [8] (fun i wr => ∃ j : Nat, j ≤ ln ∧ i = .int .i64 j ∧ MStar f (.slice a1 n1 c1) (.slice a2 n2 c2) (w.heap.size + 1) N x (anyTo f x j) w wr (.slice pa ln pc)) (fun i _ => ln - (intOf i).toNat)
      case atStart => exact ⟨0, Nat.zero_le _, rfl, by rw [anyTo_zero, HLN.out]; exact HL.out⟩
      case round =>
        obtain ⟨j, hj2, rfl, hm⟩ := hrel
        cases hb : anyTo f x j
        · rw [hb] at hm
          have HBF := Lib.hid hb
          have HM := Lib.hid hm
          clear hm hb
          by_cases hjl : j < ln
          · obtain ⟨p, hp1, hp2, hp3, h', hp4⟩ := partsM_at (f := f) (k := x) (i := j) (by rw [← HLN.out]; exact hjl)
            have hown := HM.out.own
            rw [← HLN.out] at hown
            have hrd := readsI_own hown
            obtain ⟨g, o, rfl, _, hc⟩ := hrd.cells.resolve_left (by omega)
            have c0 := hc j hjl
            rw [hp1] at c0
            obtain ⟨cX, cF⟩ := HM.out.cellX hlt
            obtain ⟨y, hy⟩ : ∃ y, y = x - p := ⟨_, rfl⟩
            have cL := HM.out.cellL hlt (y := y) (by omega)
            have hyi : (x : Int) - (p : Int) = (y : Int) := by omega
            have hyx : y < N := by omega
            have HN := Lib.hid (HM.out.set (starB f y))
            have HAN : Hid (anyTo f x (j + 1) = starB f y) := Lib.hid (by rw [hy]; exact anyTo_next h' hp4 HBF.out)
            clear hown hrd hc hp1 hp4 hy HM h'
            have hji : (j : Int) < (ln : Int) := by omega
            go_wp2
            go_roundw
            case rel => exact ⟨j + 1, by omega, by go_num, by rw [HAN.out]; exact HN.out⟩
            case measure => simp [intOf]; omega
          · obtain rfl : j = ln := by omega
            have HAll : Hid (anyAll f x = false) := Lib.hid (by rw [← anyTo_done (f := f) (x := x) (i := j) (by rw [HLN.out]; exact Nat.le_refl _)]; exact HBF.out)
            by_cases hx0 : x = 0
            · subst hx0
              obtain ⟨cX, cF⟩ := HM.out.cellX hlt
              have HN := Lib.hid ((HM.out.set true).next (starB_zero f).symm (gen_zero f))
              clear HM
              go_wp2
              go_roundw
              case rel => exact ⟨1, by omega, by go_num, HN.out⟩
              case measure => simp [intOf]; omega
            · have hx0 : 0 < x := by omega
              have hx1 : ¬ (x : Int) = 0 := by omega
              obtain ⟨cX, cF⟩ := HM.out.cellX hlt
              have q0 := HM.out.q0
              have q1 := HM.out.q1
              have hcall := small_has (c1 := c1) (c2 := c2) x (HA.out.below HM.out.below (Nat.le_refl _)) (by omega)
              cases hf : f x
              · rw [hf] at hcall
                have HS1 : Hid (false = starB f x) := Lib.hid (by rw [star_any hx0, HAll.out, hf]; rfl)
                have HG1 : Hid (genB f x = false) := Lib.hid (by rw [gen_any hx0, HAll.out, hf]; rfl)
                have HN := Lib.hid (HM.out.next HS1.out HG1.out)
                clear HM hf
                go_wp2_with fail
                refine hcall.mono ?_
                rintro e w3 ⟨rfl, hb3⟩
                have HN3 := Lib.hid (HN.out.step hb3)
                clear hb3 hcall HN
                go_wp2
                go_roundw
                case rel => exact ⟨x + 1, by omega, by go_num, HN3.out⟩
                case measure => simp [intOf]; omega
              · rw [hf] at hcall
                have HS1 : Hid (starB f x = true) := Lib.hid (by rw [star_any hx0, HAll.out, hf]; rfl)
                have HG1 : Hid (genB f x = true) := Lib.hid (by rw [gen_any hx0, HAll.out, hf]; rfl)
                clear hf
                go_wp2_with fail
                refine hcall.mono ?_
                rintro e w3 ⟨rfl, hb3⟩
                have HM3 := Lib.hid (HM.out.step hb3)
                obtain ⟨dX, dF⟩ := HM3.out.cellX hlt
                have HM4 := Lib.hid (HM3.out.set true)
                have hown4 := HM4.out.own
                rw [← HLN.out] at hown4
                have hg4 := HM4.out.row.lt
                clear hb3 hcall HM cX cF q0 q1 HM3
                go_wp2_with
                  (at_builtin; refine wpList_append_own _ rfl _ _ 23 rfl (w.heap.size + 1 + 1) 3 j0 (.int .i64 0) 1 8 Try.underlying23 hj hy0 hy1 hy2 rfl (by decide) _ _ _ rfl (hown4.alloc _) ⟨_, 0, none⟩ 1 1 [.int .i64 x] rfl rfl ?c1 ?c2 ?c3 ?c4 ?c5 ?_)
                case c1 =>
                  intro j u hj
                  match j, hj with
                  | 0, hj => simp at hj; subst hj; rw [Addr.add_lit, World.cell?_alloc_at _ _ _ _ (by simp [World.setCell])]; rfl
                case c2 => intro u hu; simp at hu; subst hu; rfl
                case c3 => unfold maxLen; omega
                case c4 => omega
                case c5 => simp at hg4 ⊢; omega
                intro v' w5 hown5 hgrow _
                have hown6 := hown5
                rw [HLN.out] at hown6
                have HN := Lib.hid (HM4.out.grow HS1.out hown6 (grown_len hgrow) HG1.out)
                clear hown6
                clear hown5 hgrow hown4 HM4
                go_wp2
                go_roundw
                case rel => exact ⟨x + 1, by omega, by go_num, HN.out⟩
                case measure => simp [intOf]; omega
        · have hbt := anyTo_hit hb
          rw [hb] at hm
          have HAll := Lib.hid hbt
          have HM := Lib.hid hm
          have hx0 : 0 < x := by
            rcases Nat.eq_zero_or_pos x with rfl | e
            · have : j = 0 := by omega
              subst this
              rw [anyTo_zero] at hb; cases hb
            · exact e
          clear hm hb hbt
          by_cases hjl : j < ln
          · have hji : (j : Int) < (ln : Int) := by omega
            have HS1 : Hid (true = starB f x) := Lib.hid (by rw [star_any hx0, HAll.out]; rfl)
            have HG1 : Hid (genB f x = false) := Lib.hid (by rw [gen_any hx0, HAll.out]; rfl)
            have HN := Lib.hid (HM.out.next HS1.out HG1.out)
            have cX := (HM.out.cellX hlt).1
            clear HM
            have hx1 : ¬ (x : Int) = 0 := by omega
            go_wp2
            go_roundw
            case rel => exact ⟨x + 1, by omega, by go_num, HN.out⟩
            case measure => simp [intOf]; omega
          · have hji : ¬ (j : Int) < (ln : Int) := by omega
            have HS1 : Hid (true = starB f x) := Lib.hid (by rw [star_any hx0, HAll.out]; rfl)
            have HG1 : Hid (genB f x = false) := Lib.hid (by rw [gen_any hx0, HAll.out]; rfl)
            have HN := Lib.hid (HM.out.next HS1.out HG1.out)
            have cX := (HM.out.cellX hlt).1
            clear HM
            have hx1 : ¬ (x : Int) = 0 := by omega
            go_wp2
            go_roundw
            case rel => exact ⟨x + 1, by omega, by go_num, HN.out⟩
            case measure => simp [intOf]; omega
    · obtain rfl : x = N := by omega
      have HL := Lib.hid hl
      clear hl
      go_wp2
      go_ret
      exact ⟨_, rfl, by omega, HL.out.row.congr fun j hj => by unfold put cutF; rw [if_neg (by omega), decide_eq_true hj, Bool.true_and], HL.out.below⟩

end Go.Proofs.Ytiphooodijbhiaa
