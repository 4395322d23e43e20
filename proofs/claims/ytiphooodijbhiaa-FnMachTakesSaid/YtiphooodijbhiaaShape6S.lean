/-
  The walks of the model's l6mShape and l6mAt.
-/
import Derived.Test.YtiphooodijbhiaaMachS
import Derived.Laws.Rows
import Derived.Deep.OwnRows
import Derived.Maps.AppendAt
import Derived.Deep.LoopGhost
namespace Go.Proofs.Ytiphooodijbhiaa
open Go.RowKit
set_option linter.unusedVariables false

/-- The sets met. -/
def metL (g : Nat → Nat) (k : Nat) : List Int := (List.range k).map fun i => ((g i : Nat) : Int)
theorem metL_length (g : Nat → Nat) (k : Nat) : (metL g k).length = k := by simp [metL]
theorem metL_snoc (g : Nat → Nat) (k : Nat) : ints (metL g (k + 1)) = ints (metL g k) ++ [.int .i64 (g k : Nat)] := by
  unfold metL ints
  rw [List.range_succ, List.map_append, List.map_append]; rfl
theorem metL_getD (g : Nat → Nat) {k i : Nat} (h : i < k) : (metL g k).getD i 0 = ((g i : Nat) : Int) := by
  simp [metL, List.getD_eq_getElem?_getD, h]

/-- The world of l6mShape's loop. -/
structure Shape6 (a : Option Addr) (n c : Nat) (b e : Int) (g : Nat → Nat) (N k m G : Nat) (v : Value) (w wr : World) : Prop where
  box : BoxM a n c b e w.heap.size w wr
  met : wr.ownsRow (w.heap.size + 1) 3 1 v m (ints (metL g m))
  row : ∃ cur, wr.heap[G]? = some (.cells cur 3 (0, 0)) ∧ cur.size = N ∧ (∀ i, i < k → cur[g i]? = some (.int .i64 (i + 1 : Nat))) ∧ (∀ x, x < N → (∀ i, i < k → g i ≠ x) → cur[x]? = some (.int .i64 0))
  ge : w.heap.size < G
  apart : ∀ j, v.ownBlock = some j → j ≠ G
theorem Shape6.step {a : Option Addr} {n c N k m G : Nat} {b e : Int} {g : Nat → Nat} {v : Value} {w wr w1 : World} (h : Shape6 a n c b e g N k m G v w wr) (hb : Below wr.heap.size wr w1) : Shape6 a n c b e g N k m G v w w1 := by
  obtain ⟨cur, c1, c2⟩ := h.row
  exact ⟨h.box.step hb, own_below h.met hb (Nat.le_refl _), ⟨cur, (hb.block _ (lt_of_block c1)).trans c1, c2⟩, h.ge, h.apart⟩
theorem Shape6.cellAt {a : Option Addr} {n c N k m G : Nat} {b e : Int} {g : Nat → Nat} {v : Value} {w wr : World} (h : Shape6 a n c b e g N k m G v w wr) {x : Nat} (hx : x < N) :
    (∃ u, wr.cell? ⟨G, x, none⟩ = some u) ∧ wr.frozen? ⟨G, x, none⟩ = false := by
  obtain ⟨cur, c1, c2, _⟩ := h.row
  refine ⟨⟨cur[x]'(by omega), ?_⟩, frozen_of_row _ _ _ _ _ c1⟩
  rw [cell_of_row _ _ _ _ _ _ c1]
  exact Array.getElem?_eq_getElem (by omega)
theorem Shape6.hit {a : Option Addr} {n c N k m G : Nat} {b e : Int} {g : Nat → Nat} {v : Value} {w wr : World} (h : Shape6 a n c b e g N k m G v w wr) {i : Nat} (hi : i < k) : wr.cell? ⟨G, g i, none⟩ = some (.int .i64 (i + 1 : Nat)) := by
  obtain ⟨cur, c1, c2, c3, c4⟩ := h.row
  rw [cell_of_row _ _ _ _ _ _ c1]; exact c3 i hi
theorem Shape6.miss {a : Option Addr} {n c N k m G : Nat} {b e : Int} {g : Nat → Nat} {v : Value} {w wr : World} (h : Shape6 a n c b e g N k m G v w wr) {x : Nat} (hx : x < N) (hn : ∀ i, i < k → g i ≠ x) : wr.cell? ⟨G, x, none⟩ = some (.int .i64 0) := by
  obtain ⟨cur, c1, c2, c3, c4⟩ := h.row
  rw [cell_of_row _ _ _ _ _ _ c1]; exact c4 x hx hn
theorem Shape6.append {a : Option Addr} {n c N k G : Nat} {b e : Int} {g : Nat → Nat} {v v' : Value} {w wr w1 : World} {o : Obj} (h : Shape6 a n c b e g N k k G v w wr)
    (hown : w1.ownsRow (w.heap.size + 1) 3 1 v' (k + 1) (ints (metL g k) ++ [.int .i64 (g k : Nat)])) (hg : (wr.alloc o).grownBy w1 v.ownBlock) (hl : v'.ownBlock = v.ownBlock ∨ v'.ownBlock = some (wr.alloc o).heap.size) : Shape6 a n c b e g N k (k + 1) G v' w w1 := by
  have h2 := h.step ((Below.refl _ _).alloc (Nat.le_refl _) o)
  obtain ⟨cur, c1, c2⟩ := h2.row
  have hlt := lt_of_block c1
  have hr : ∀ j, v.ownBlock = some j → w.heap.size + 1 ≤ j := fun j hj => (h.met.lt j hj).1
  have hs : w.heap.size + 1 ≤ (wr.alloc o).heap.size := Nat.lt_of_le_of_lt (Nat.le_of_lt h.ge) hlt
  have hb : Below (w.heap.size + 1) (wr.alloc o) w1 := (Below.refl _ _).grown hg hs hr
  have hl0 : w.heap.size < w.heap.size + 1 := Nat.lt_succ_self _
  refine ⟨⟨(hb.cell (p := ⟨w.heap.size, 0, none⟩) hl0).trans h2.box.q0, (hb.cell (p := ⟨w.heap.size, 1, none⟩) hl0).trans h2.box.q1, (hb.cell (p := ⟨w.heap.size, 2, none⟩) hl0).trans h2.box.q2, Nat.lt_of_lt_of_le h2.box.lt hb.size, h2.box.below.trans (hb.mono (Nat.le_succ _))⟩,
    by rw [metL_snoc]; exact hown, ⟨cur, (hg.block G hlt (fun ee => h.apart G ee.symm rfl)).trans c1, c2⟩, h.ge, fun j hj => ?_⟩
  rcases hl with hl | hl
  · exact h.apart j (hl ▸ hj)
  · rw [hl] at hj
    injection hj with hj
    omega
theorem Shape6.mark {a : Option Addr} {n c N k G : Nat} {b e : Int} {g : Nat → Nat} {a2 : Option Addr} {m2 c2 : Nat} {w wr : World} (h : Shape6 a n c b e g N k (k + 1) G (.slice a2 m2 c2) w wr) (hg : g k < N) (hd : ∀ i, i < k → g i ≠ g k) :
    Shape6 a n c b e g N (k + 1) (k + 1) G (.slice a2 m2 c2) w (wr.setCell ⟨G, g k, none⟩ (.int .i64 (k + 1 : Nat))) := by
  obtain ⟨cur, c1, c2, c3, c4⟩ := h.row
  have hge := h.ge
  refine ⟨h.box.store (by exact hge) _, ?_, ⟨_, heap_setCell_same wr _ _ _ _ _ c1, by simpa using c2, fun i hi => ?_, fun x hx hn => ?_⟩, hge, h.apart⟩
  · obtain ⟨h1, h2⟩ := h.met
    refine ⟨h1, ?_⟩
    rcases h2 with h2 | ⟨g2, cap, cur2, hv, hg2, hh, hr⟩
    · exact .inl h2
    · refine .inr ⟨g2, cap, cur2, hv, hg2, ?_, hr⟩
      have hne : g2 ≠ G := h.apart g2 (by rw [hv]; rfl)
      exact (heap_setCell_other wr _ _ _ hne).trans hh
  · rw [Array.getElem?_setIfInBounds]
    by_cases e2 : i = k
    · rw [e2, if_pos rfl, if_pos (by omega)]
    · rw [if_neg (fun e3 => hd i (by omega) e3.symm)]; exact c3 i (by omega)
  · rw [Array.getElem?_setIfInBounds, if_neg (hn k (by omega))]
    exact c4 x hx fun i hi => hn i (by omega)

theorem shape_start {a : Option Addr} {n c : Nat} {b e : Int} (g : Nat → Nat) (N : Nat) (w : World) :
    Shape6 a n c b e g N 0 0 (w.heap.size + 1 + 1) (.slice (some ⟨w.heap.size + 1, 0, none⟩) 0 0) w (((w.alloc (.cells #[.slice a n c, .int .i64 b, .int .i64 e] 25)).alloc (.cells #[] 3)).alloc (.cells (madeCells #[.int .i64 0] N) 3)) := by
  have hb1 := (boxM_start a n c b e w 25).step ((Below.refl _ _).alloc (Nat.le_refl _) (.cells #[] 3))
  have hb2 := hb1.step ((Below.refl _ _).alloc (Nat.le_refl _) (.cells (madeCells #[.int .i64 0] N) 3))
  refine ⟨hb2, ?_, ⟨madeCells #[.int .i64 0] N, ?_, size_madeCells _ _, fun i hi => absurd hi (Nat.not_lt_zero _), fun x hx _ => ?_⟩, by omega, fun j hj => ?_⟩
  · have := World.ownsRow_made (e := 3) (size := 1) (w.alloc (.cells #[.slice a n c, .int .i64 b, .int .i64 e] 25)) #[] 0 (Nat.le_refl _) (by decide) rfl
    rw [World.size_alloc] at this
    exact own_below this ((Below.refl _ _).alloc (Nat.le_refl _) _) (Nat.le_refl _)
  · have := heap_alloc_new ((w.alloc (.cells #[.slice a n c, .int .i64 b, .int .i64 e] 25)).alloc (.cells #[] 3)) (.cells (madeCells #[.int .i64 0] N) 3)
    rw [World.size_alloc, World.size_alloc] at this
    exact this
  · unfold madeCells
    simp [hx, Nat.mod_one]
  · have : j = w.heap.size + 1 := by injection hj with hj; exact hj.symm
    omega

def ShapePost (g : Nat → Nat) (p q : Nat) (w : World) (e : Ending) (w' : World) : Prop :=
  ∃ a c, e = .returned (.tuple #[.slice a (p + q : Nat) c, .int .i64 p]) ∧ w'.ownsRow (w.heap.size + 1) 3 1 (.slice a (p + q : Nat) c) (p + q) (ints (metL g (p + q))) ∧ Below w.heap.size w w'

set_option maxRecDepth 100000 in
set_option maxHeartbeats 2000000 in
theorem shape6_is (a : Option Addr) (n c : Nat) (l : List Nat) (s : Nat) (e : Int) (p q : Nat) (w : World) (h : ReadsI w a n (castM l)) (hg : GoodL l n) (hn : n ≤ 5) (hs : s < 2 ^ n) (hc : Comes (afterN l s) p q) (hpq : p + q ≤ 32) :
    Calls Try.prog 93 #[.agg #[.slice a n c, .int .i64 s, .int .i64 e]] w (ShapePost (afterN l s) p q w) := by
  obtain ⟨i0, hi, hz0, hz1, hz2⟩ := info_parts Try.infoInt
  have HLT : Hid (∀ i, afterN l s i < 2 ^ n) := Lib.hid fun i => after_lt hg hs i
  have hq0 := hc.pos
  have HC := Lib.hid hc
  have HST := Lib.hid (shape_start (a := a) (n := n) (c := c) (b := s) (e := e) (afterN l s) (2 ^ n) w)
  have HCALL : Hid (∀ (k : Nat) (W : World), Below w.heap.size w W → Calls Try.prog 125 #[.agg #[.slice a n c, .int .i64 s, .int .i64 e], .int .i64 (afterN l s k : Nat)] W fun e1 w' => e1 = .returned (.int .i64 (afterN l s (k + 1) : Nat)) ∧ Below W.heap.size W w') :=
    Lib.hid fun k W hb => step6_is a n c l s e (afterN l s k) W (h.below hb (Nat.le_refl _)) hg hn (after_lt hg hs k)
  have hg0 : afterN l s 0 = s := rfl
  have hN32 : 2 ^ n ≤ 32 := Nat.pow_le_pow_right (n := 2) (by decide) hn
  obtain ⟨hA1, hA2⟩ := pow_all hn
  have HNI : Hid (((2 : Int) ^ n) = ((2 ^ n : Nat) : Int)) := Lib.hid (pow_cast n)
  generalize afterN l s = g at HLT HC HST HCALL hg0 ⊢
  subst hg0
  clear h hg hs hc
  go_enter Try.func93, Try.ntmps93
  go_wp2_with (at_make; refine wpList_make_row _ rfl _ _ 23 rfl 3 i0 (.int .i64 0) Try.underlying23 hi hz0 hz1 rfl .i64 .i64 (2 ^ n) (by rw [← HNI.out]; rfl) (by rw [← HNI.out]; rfl) ?b1 ?b2 ?_)
  case b1 => rw [hz2]; omega
  case b2 => omega
  clear HNI
  generalize 2 ^ n = N at HLT HST hN32 ⊢
  go_loopg [4, 6] (p + q) (fun gk v t wr => ∃ k : Nat, k + gk = p + q ∧ t = .int .i64 (g k : Nat) ∧ Shape6 a n c (g 0 : Nat) e g N k k (w.heap.size + 1 + 1) v w wr)
  case atStart => exact ⟨0, by omega, rfl, HST.out⟩
  case round =>
    obtain ⟨k, hgk, rfl, hl⟩ := hrel
    obtain ⟨a2, c2, rfl⟩ := own_form hl.met
    have hlt := HLT.out k
    have hltI : (g k : Int) < (N : Int) := by omega
    by_cases hk : k = p + q
    · have km := hl.hit (i := p) (by omega)
      have e1 : g k = g p := by rw [hk]; exact HC.out.back
      rw [← e1] at km
      have hne : ¬ ((p + 1 : Nat) : Int) = 0 := by omega
      have hdec : IntKind.i64.wrap (((p + 1 : Nat) : Int) - 1) = (p : Int) := by rw [IntWalk.i64_in _ (by omega)]; omega
      obtain ⟨P1, hP1⟩ : ∃ P1 : Int, P1 = ((p + 1 : Nat) : Int) := ⟨_, rfl⟩
      rw [← hP1] at km hne hdec
      have hP2 : 0 < P1 := by omega
      have HL := Lib.hid hl
      have HK := Lib.hid hk
      have HP := Lib.hid hP1
      clear hl e1 hk hgk hP1
      go_wp2
      go_quiet (fail)
      go_wp2
      go_ret2
      have hk := HK.out
      subst hk
      exact ⟨a2, c2, rfl, (HL.out.step (below_drewN (Below.refl _ _) _)).met, (HL.out.step (below_drewN (Below.refl _ _) _)).box.below⟩
    · have km := hl.miss (x := g k) hlt (fun i hi => HC.out.dist i k hi (by omega))
      have hown := hl.met
      have HL := Lib.hid hl
      have hsz := hl.box.lt
      have hsz2 := (lt_of_block hl.row.choose_spec.1)
      clear hl
      go_wp2_with
        (at_builtin; refine wpList_append_own_at _ rfl _ _ 23 rfl (w.heap.size + 1) 3 i0 (.int .i64 0) 1 8 Try.underlying23 hi hz0 hz1 hz2 rfl (by decide) _ _ _ rfl (hown.alloc _) ⟨wr.heap.size, 0, none⟩ 1 1 [.int .i64 (g k : Nat)] rfl rfl ?c1 ?c2 ?c3 ?c4 ?c5 ?_)
      case c1 =>
        intro j u hj
        match j, hj with
        | 0, hj => simp at hj; subst hj; simp [Addr.add]
      case c2 => intro u hu; simp at hu; subst hu; rfl
      case c3 => unfold maxLen; omega
      case c4 => omega
      case c5 => simp; omega
      intro v' w4 hown4 hgrow _ hlie
      have HA := Lib.hid (HL.out.append hown4 hgrow (by rw [World.size_alloc]; exact hlie))
      obtain ⟨a3, c3, rfl⟩ := own_form hown4
      obtain ⟨⟨u, hu⟩, hf⟩ := HA.out.cellAt hlt
      have HM := Lib.hid (HA.out.mark hlt (fun i hi => HC.out.dist i k hi (by omega)))
      have z0 := HA.out.box.q0
      have z1 := HA.out.box.q1
      have z2 := HA.out.box.q2
      clear hown4 hgrow hlie hown km
      go_wp2_with fail
      refine (HCALL.out k _ HM.out.box.below).mono ?_
      rintro e1 w5 ⟨rfl, hb5⟩
      have HN := Lib.hid (HM.out.step hb5)
      clear hb5 hu hf z0 z1 z2
      go_wp2
      go_roundg (gk - 1)
      case measure => omega
      case rel => exact ⟨k + 1, by omega, rfl, HN.out⟩

set_option maxHeartbeats 1000000 in
theorem at6_is (a : Option Addr) (n c : Nat) (l : List Nat) (s kk : Nat) (e : Int) (p q : Nat) (w : World) (h : ReadsI w a n (castM l)) (hg : GoodL l n) (hn : n ≤ 5) (hs : s < 2 ^ n) (hc : Comes (afterN l s) p q) (hpq : p + q ≤ 32) (hk : kk ≤ 1000000) :
    Calls Try.prog 63 #[.agg #[.slice a n c, .int .i64 s, .int .i64 e], .int .i64 kk] w fun e1 w' => e1 = .returned (.int .i64 (afterN l s kk : Nat)) ∧ Below w.heap.size w w' := by
  have HCALL := Lib.hid (shape6_is a n c l s e p q _ (h.alloc (.cells #[.slice a n c, .int .i64 s, .int .i64 e] 25)) hg hn hs hc hpq)
  have hv := after_place hc kk
  have hq0 := hc.pos
  have HPL : Hid (placeM p q kk < p + q) := Lib.hid (placeM_lt hq0 kk)
  obtain ⟨V, hV⟩ : ∃ V, V = afterN l s kk := ⟨_, rfl⟩
  rw [← hV] at hv ⊢
  generalize afterN l s = g at HCALL hv
  clear h hg hs hc hV
  by_cases hlt : kk < p + q
  · have hpl : placeM p q kk = kk := placeM_self hlt
    rw [hpl] at hv
    have HV := Lib.hid hv
    have hltI : (kk : Int) < ((p + q : Nat) : Int) := by omega
    have hlt2 : (kk : Int) < (p : Int) + (q : Int) := by omega
    clear hv hpl
    go_enter Try.func63, Try.ntmps63
    go_wp2_with fail
    refine HCALL.out.mono ?_
    rintro e1 w1 ⟨a2, c2, rfl, hown, hb⟩
    have HB := Lib.hid (boxed hb)
    rcases (readsI_own hown).cells with h | ⟨g2, o2, rfl, hg2, hc2⟩
    · omega
    have x1 := hc2 kk hlt
    rw [metL_getD g hlt, HV.out] at x1
    clear hb hown hc2
    go_wp2
    go_ret
    exact ⟨rfl, HB.out⟩
  · have hd : placeM p q kk = p + (kk - p) % q := by unfold placeM; rw [if_neg (by omega)]
    obtain ⟨d, rfl⟩ : ∃ d, kk = p + d := ⟨kk - p, by omega⟩
    rw [show p + d - p = d from by omega] at hd
    obtain ⟨r, hr⟩ : ∃ r, r = d % q := ⟨_, rfl⟩
    rw [hd, ← hr] at hv
    have HP2 : p + r < p + q := by have := HPL.out; rw [hd, ← hr] at this; exact this
    have HV := Lib.hid hv
    have h1 : IntKind.i64.wrap ((p : Int) + (d : Int) - (p : Int)) = (d : Int) := by rw [IntWalk.i64_in _ (by omega)]; omega
    have h2 : IntKind.i64.wrap (((p + q : Nat) : Int) - (p : Int)) = (q : Int) := by rw [IntWalk.i64_in _ (by omega)]; omega
    have h3 : (d : Int).tmod (q : Int) = (r : Int) := by rw [Int.tmod_eq_emod_of_nonneg (by omega), hr]; rfl
    have h3' : (d : Int) % (q : Int) = (r : Int) := by rw [hr]; rfl
    have hq1 : ¬ (q : Int) = 0 := by omega
    have hsub : (p : Int) + (q : Int) - (p : Int) = (q : Int) := by omega
    have hgeI : ¬ ((p : Int) + (d : Int) < (p : Int) + (q : Int)) := by omega
    clear hv hd HPL
    go_enter Try.func63, Try.ntmps63
    go_wp2_with fail
    refine HCALL.out.mono ?_
    rintro e1 w1 ⟨a2, c2, rfl, hown, hb⟩
    have HB := Lib.hid (boxed hb)
    rcases (readsI_own hown).cells with h | ⟨g2, o2, rfl, hg2, hc2⟩
    · omega
    have x1 := hc2 (p + r) HP2
    rw [metL_getD g HP2, HV.out] at x1
    clear hb hown hc2 hr
    go_wp2
    go_ret
    exact ⟨rfl, HB.out⟩

end Go.Proofs.Ytiphooodijbhiaa
