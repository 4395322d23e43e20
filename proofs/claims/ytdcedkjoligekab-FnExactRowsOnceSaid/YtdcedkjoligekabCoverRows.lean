/-
  The walks of goingRows.meetNone, RowsCover and RowsOnce, of the program. The walks of RowsCover and RowsOnce, of the program.
-/
import Derived.Test.YtdcedkjoligekabCover
import Derived.Test.YtdcedkjoligekabOnceMath
namespace Go.Proofs.Ytdcedkjoligekab
open Go.RowKit

set_option linter.unusedVariables false

theorem going_ok {l : List Rw} (hf : ∀ r ∈ l, r.Fits) : Going (going l) := by
  intro q hq
  obtain ⟨r, hr, h0, rfl⟩ := going_mem hq
  exact ⟨early_ok h0, (hf r hr).2⟩

theorem getD_cut {l : List Rw} {i j : Nat} (hj : j < i) : (l.take i).getD j default = l.getD j default := by
  rw [List.getD_eq_getElem?_getD, List.getElem?_take_of_lt hj, List.getD_eq_getElem?_getD]
theorem ReadsL.cut {w : World} {a : Option Addr} {n : Nat} {l : List Rw} (h : ReadsL w a n l) {i : Nat} (hi : i ≤ n) : ReadsL w a i (l.take i) := by
  obtain ⟨h1, h2⟩ := h
  refine ⟨by rw [List.length_take]; omega, ?_⟩
  rcases h2 with h2 | ⟨g, o, ha, hg, hc⟩
  · exact .inl (by omega)
  · refine .inr ⟨g, o, ha, hg, fun j hj => ?_⟩
    have e : (l.take i).getD j default = l.getD j default := by
      rw [List.getD_eq_getElem?_getD, List.getElem?_take_of_lt hj, List.getD_eq_getElem?_getD]
    rw [e]
    exact hc j (by omega)

def NoneOut (g : List Rw) (w : World) (e : Ending) (w' : World) : Prop := ∃ b, e = .returned (.bool b) ∧ (b = true ↔ Disjoint g g.length) ∧ Below w.heap.size w w'

set_option maxRecDepth 100000 in
set_option maxHeartbeats 4000000 in
theorem meetNone_is (a : Option Addr) (n c : Nat) (g : List Rw) (w : World) (h : ReadsL w a n g) (hn : n ≤ 20) (hc : n ≤ c) (hf : Going g) :
    Calls Try.prog 35 #[.slice a n c] w (NoneOut g w) := by
  have H := Lib.hid h
  have hlen := h.len
  have HLEN := Lib.hid hlen
  have HF := Lib.hid hf
  clear h hf hlen
  go_enter Try.func35, Try.ntmps35
  go_wp2
  go_loopw [11] (fun i wr => ∃ k : Nat, k ≤ n ∧ i = .int .i64 k ∧ Disjoint g k ∧ Below w.heap.size w wr) (fun i _ => n - (intOf i).toNat)
  case atStart => exact ⟨0, Nat.zero_le _, rfl, fun i hi => absurd hi (Nat.not_lt_zero _), Below.refl _ _⟩
  case round =>
    obtain ⟨k, hk, rfl, hdis, hB⟩ := hrel
    obtain ⟨W, hW⟩ : ∃ W, W = wr := ⟨wr, rfl⟩
    subst hW
    have HD := Lib.hid hdis
    have HB := Lib.hid hB
    clear hdis
    by_cases hlt : k < n
    · obtain ⟨g1, o1, b, s, rfl, hg1, hbs, q0, q1⟩ := (H.out.below hB (Nat.le_refl _)).row hlt
      have hfit := HF.out _ (mem_getD (l := g) (i := k) (by have := HLEN.out; omega))
      rw [hbs] at hfit
      have hbs1 : b < s := hfit.1
      have hs60 : s ≤ 60 := hfit.2
      have f1 : (k : Int) < (n : Int) := by omega
      have f2 : (0 : Int) ≤ (k : Int) := by omega
      have f3 : (k : Int) ≤ (c : Int) := by omega
      have HBS := Lib.hid hbs
      have HB1 := Lib.hid (HB.out.alloc HB.out.size (.cells #[.int .i64 b, .int .i64 s] 39))
      have HC := Lib.hid (H.out.cut (i := k) hk)
      clear hB hfit hbs
      go_wp2
      go_loopw [20] (fun i w2 => ∃ j : Nat, j ≤ k ∧ i = .int .i64 j ∧ (∀ j', j' < j → ∀ n, ¬ ((Rw.mk b s).has n = true ∧ (g.getD j' default).has n = true)) ∧ Below (W.alloc (.cells #[.int .i64 b, .int .i64 s] 39)).heap.size (W.alloc (.cells #[.int .i64 b, .int .i64 s] 39)) w2) (fun i _ => k - (intOf i).toNat)
      case atStart => exact ⟨0, Nat.zero_le _, rfl, fun i hi => absurd hi (Nat.not_lt_zero _), Below.refl _ _⟩
      case round =>
        obtain ⟨j, hj, rfl, hno, hB2⟩ := hrel
        have HNO := Lib.hid hno
        obtain ⟨p0, p1⟩ := box3 hB2
        have hsz2 := hB2.size
        simp at hsz2
        have HB2 := Lib.hid (HB1.out.trans (hB2.mono HB1.out.size))
        have HB2' := Lib.hid hB2
        clear hno hB2
        by_cases hlt2 : j < k
        · obtain ⟨g2, o2, p, q, hgg, hg2, hpq, r0, r1⟩ := (HC.out.below HB2.out (Nat.le_refl _)).row hlt2
          injection hgg with hgg
          injection hgg with e1 e2 _
          subst e1 e2
          have hpq2 : g.getD j default = ⟨p, q⟩ := by
            rw [← hpq]; exact (getD_cut hlt2).symm
          have hfit := HF.out _ (mem_getD (l := g) (i := j) (by have := HLEN.out; omega))
          rw [hpq2] at hfit
          have hpq1 : p < q := hfit.1
          have hq60 : q ≤ 60 := hfit.2
          have HPQ := Lib.hid hpq2
          have f4 : (j : Int) < (k : Int) := by omega
          have f5 : (0 : Int) ≤ (j : Int) := by omega
          have past : ∀ (o : Obj) (i : Nat), (wr.alloc o).cell? ⟨W.heap.size, i, none⟩ = wr.cell? ⟨W.heap.size, i, none⟩ := fun o i => World.cell?_alloc_past _ _ _ (by show W.heap.size < wr.heap.size; omega)
          have e0 := (past (.cells #[.int .i64 p, .int .i64 q] 39) 0).trans p0
          have e1 := (past (.cells #[.int .i64 p, .int .i64 q] 39) 1).trans p1
          have HB3 := Lib.hid (HB2.out.alloc HB2.out.size (.cells #[.int .i64 p, .int .i64 q] 39))
          have HB3' := Lib.hid (HB2'.out.alloc HB2'.out.size (.cells #[.int .i64 p, .int .i64 q] 39))
          clear past hpq hpq2 hfit p0 p1
          by_cases hcm : ∃ m, Least ⟨b, s⟩ ⟨p, q⟩ m
          · obtain ⟨m, hm⟩ := hcm
            have HM := Lib.hid (meet_on ⟨b, s⟩ ⟨p, q⟩ m (wr.alloc (.cells #[.int .i64 p, .int .i64 q] 39)) (by show b ≤ 200; omega) hs60 (by show p ≤ 200; omega) hq60 hm)
            have HND : Hid (¬ Disjoint g g.length) := Lib.hid (fun hd => hd k (by have := HLEN.out; omega) j hlt2 m (by rw [HBS.out, HPQ.out]; exact ⟨hm.1, hm.2.1⟩))
            obtain ⟨st, hstd⟩ : ∃ st, st = stepOf ⟨b, s⟩ ⟨p, q⟩ := ⟨_, rfl⟩
            rw [← hstd] at HM
            unfold rwV at HM
            clear hm hstd
            go_wp2_with fail
            refine HM.out.mono ?_
            rintro e w3 ⟨rfl, hb3⟩
            have HB4 := Lib.hid (HB3.out.trans (hb3.mono HB3.out.size))
            clear hb3 HM
            go_wp2
            try rw [Exit.noGoto_ret]
            try rw [Exit.noGoto_ret]
            go_ret
            exact ⟨false, rfl, ⟨(fun h => (by cases h)), fun h => (HND.out h).elim⟩, HB4.out.alloc HB4.out.size _⟩
          · have HN := Lib.hid (fun n hn => hcm (least_there (n := n) (And.left hn) (And.right hn)))
            have HM := Lib.hid (meet_off ⟨b, s⟩ ⟨p, q⟩ (wr.alloc (.cells #[.int .i64 p, .int .i64 q] 39)) (by show b ≤ 200; omega) hs60 (by show p ≤ 200; omega) hq60 HN.out)
            unfold rwV at HM
            clear hcm
            go_wp2_with fail
            refine HM.out.mono ?_
            rintro e w3 ⟨⟨⟨x, y⟩, rfl⟩, hb3⟩
            have HB4' := Lib.hid (HB3'.out.trans (hb3.mono HB3'.out.size))
            clear hb3 HM
            go_wp2
            go_roundw
            case rel =>
              refine ⟨j + 1, by omega, by go_num, fun j' hj' n => ?_, HB4'.out.alloc HB4'.out.size _⟩
              rcases Nat.lt_or_ge j' j with x | x
              · exact HNO.out j' x n
              · obtain rfl : j' = j := by omega
                rw [HPQ.out]
                exact HN.out n
            case measure => simp [intOf]; omega
        · obtain rfl : j = k := by omega
          go_wp2
          go_roundw
          case rel =>
            refine ⟨j + 1, by omega, by go_num, fun i hi j' hj' n => ?_, HB2.out⟩
            rcases Nat.lt_or_ge i j with x | x
            · exact HD.out i x j' hj' n
            · obtain rfl : i = j := by omega
              rw [HBS.out]
              exact HNO.out j' hj' n
          case measure => simp [intOf]; omega
    · obtain rfl : k = n := by omega
      have HDD : Hid (Disjoint g g.length) := Lib.hid (by rw [HLEN.out]; exact HD.out)
      go_wp2
      go_ret
      exact ⟨true, rfl, ⟨fun _ => HDD.out, fun _ => rfl⟩, HB.out⟩

set_option linter.unusedVariables false

/-- What RowsCover and RowsOnce ask. -/
def CoverIs (rs : List (List Int)) : Prop := goodRows rs = true ∧ Covers (going (theRows rs))
def OnceIs (rs : List (List Int)) : Prop := goodRows rs = true ∧ Once (going (theRows rs))
def TruthOut (P : Prop) (w : World) (e : Ending) (w' : World) : Prop := ∃ b, e = .returned (.bool b) ∧ (b = true ↔ P) ∧ Below w.heap.size w w'
theorem truth_one {P : Prop} {b c : Bool} (h : b = true ↔ P) (k : c = true ↔ P) : b = c := by
  rw [Bool.eq_iff_iff]; exact h.trans k.symm

set_option maxHeartbeats 1000000 in
theorem implCover (a : Option Addr) (n c : Nat) (rs : List (List Int)) (w : World) (h : ReadsR w a n rs) (hn : n ≤ 1048576) (hs : Short rs) :
    Calls Try.prog 16 #[.slice a n c] w (TruthOut (CoverIs rs) w) := by
  have HC := Lib.hid (readRows_is a n c rs w h hn hs)
  have hlen := h.len
  clear h
  cases hg : goodRows rs
  · have HN : Hid (¬ CoverIs rs) := Lib.hid (fun hc => by have := hc.1; rw [hg] at this; cases this)
    have HG := Lib.hid hg
    clear hg hlen
    go_enter Try.func16, Try.ntmps16
    go_wp2_with fail
    refine HC.out.mono ?_
    rintro e w1 ⟨hb1, a1, c1, n1, rfl, hgood⟩
    rw [HG.out]
    have HB := Lib.hid hb1
    clear hgood hb1
    go_wp2
    go_ret
    exact ⟨false, rfl, ⟨(fun h => (by cases h)), fun h => (HN.out h).elim⟩, HB.out⟩
  · obtain ⟨hf1, hf2⟩ := goodRows_fits hg
    have hll : (theRows rs).length = n := by unfold theRows; rw [List.length_map]; exact hlen
    have hn20 : n ≤ 20 := by omega
    have HG := Lib.hid hg
    have HLN := Lib.hid hlen
    obtain ⟨g, hgd⟩ : ∃ g, g = going (theRows rs) := ⟨_, rfl⟩
    have hg20 : g.length ≤ 20 := by rw [hgd]; exact Nat.le_trans (going_le _) hf1
    have hgo : Going g := by rw [hgd]; exact going_ok hf2
    have HI : Hid (Covers g ↔ CoverIs rs) := Lib.hid (by unfold CoverIs; rw [hgd]; exact ⟨fun h => ⟨hg, h⟩, fun h => h.2⟩)
    have HGO := Lib.hid (fun a1 c1 w hr => goingOf_is a1 n c1 (theRows rs) w hr hn20 hf2)
    rw [← hgd] at HGO
    clear hg hlen hll hf1 hf2 hgd
    go_enter Try.func16, Try.ntmps16
    go_wp2_with fail
    refine HC.out.mono ?_
    rintro e w1 ⟨hb1, a1, c1, n1, rfl, hgood⟩
    obtain ⟨e1, hown⟩ := hgood HG.out
    obtain rfl : n1 = n := e1.trans HLN.out
    rw [HG.out]
    have HB := Lib.hid hb1
    have HR := Lib.hid (readsL_own hown)
    clear hgood hb1 hown e1
    go_wp2_with fail
    refine (HGO.out a1 c1 _ HR.out).mono ?_
    rintro e w2 ⟨hb2, a2, c2, rfl, hown2⟩
    have HB2 := Lib.hid (HB.out.trans (hb2.mono HB.out.size))
    have HR2 := Lib.hid (readsL_own hown2)
    clear hb2 hown2
    go_wp2_with fail
    refine (cover_is g a2 g.length c2 _ HR2.out hg20 hgo).mono ?_
    rintro e w3 ⟨b, rfl, hb, hb3⟩
    have HB3 := Lib.hid (HB2.out.trans (hb3.mono HB2.out.size))
    have HBI := Lib.hid (hb.trans HI.out)
    clear hb3 hb
    go_wp2
    go_ret
    exact ⟨b, rfl, HBI.out, HB3.out⟩

theorem own_capR {w : World} {base size n c : Nat} {e : TypeId} {a : Option Addr} {xs : List Value} (h : w.ownsRow base e size (.slice a n c) n xs) : n ≤ c := by
  rcases h.2 with ⟨hv, h0⟩ | ⟨g, cap, cur, hv, _, _, hc, _⟩
  · omega
  · injection hv with _ _ hc2
    omega

set_option maxHeartbeats 2000000 in
theorem implOnce (a : Option Addr) (n c : Nat) (rs : List (List Int)) (w : World) (h : ReadsR w a n rs) (hn : n ≤ 1048576) (hs : Short rs) :
    Calls Try.prog 19 #[.slice a n c] w (TruthOut (OnceIs rs) w) := by
  have HC := Lib.hid (readRows_is a n c rs w h hn hs)
  have hlen := h.len
  clear h
  cases hg : goodRows rs
  · have HN : Hid (¬ OnceIs rs) := Lib.hid (fun hc => by have := hc.1; rw [hg] at this; cases this)
    have HG := Lib.hid hg
    clear hg hlen
    go_enter Try.func19, Try.ntmps19
    go_wp2_with fail
    refine HC.out.mono ?_
    rintro e w1 ⟨hb1, a1, c1, n1, rfl, hgood⟩
    rw [HG.out]
    have HB := Lib.hid hb1
    clear hgood hb1
    go_wp2
    go_ret
    exact ⟨false, rfl, ⟨(fun h => (by cases h)), fun h => (HN.out h).elim⟩, HB.out⟩
  · obtain ⟨hf1, hf2⟩ := goodRows_fits hg
    have hll : (theRows rs).length = n := by unfold theRows; rw [List.length_map]; exact hlen
    have hn20 : n ≤ 20 := by omega
    have HG := Lib.hid hg
    have HLN := Lib.hid hlen
    obtain ⟨g, hgd⟩ : ∃ g, g = going (theRows rs) := ⟨_, rfl⟩
    have hg20 : g.length ≤ 20 := by rw [hgd]; exact Nat.le_trans (going_le _) hf1
    have hgo : Going g := by rw [hgd]; exact going_ok hf2
    have HI : Hid ((Covers g ∧ Disjoint g g.length) ↔ OnceIs rs) := Lib.hid (by rw [once_iff hgo]; unfold OnceIs; rw [hgd]; exact ⟨fun h => ⟨hg, h⟩, fun h => h.2⟩)
    have HGO := Lib.hid (fun a1 c1 w hr => goingOf_is a1 n c1 (theRows rs) w hr hn20 hf2)
    rw [← hgd] at HGO
    clear hg hlen hll hf1 hf2 hgd
    go_enter Try.func19, Try.ntmps19
    go_wp2_with fail
    refine HC.out.mono ?_
    rintro e w1 ⟨hb1, a1, c1, n1, rfl, hgood⟩
    obtain ⟨e1, hown⟩ := hgood HG.out
    obtain rfl : n1 = n := e1.trans HLN.out
    rw [HG.out]
    have HB := Lib.hid hb1
    have HR := Lib.hid (readsL_own hown)
    clear hgood hb1 hown e1
    go_wp2_with fail
    refine (HGO.out a1 c1 _ HR.out).mono ?_
    rintro e w2 ⟨hb2, a2, c2, rfl, hown2⟩
    have HB2 := Lib.hid (HB.out.trans (hb2.mono HB.out.size))
    have HR2 := Lib.hid (readsL_own hown2)
    have HRL := Lib.hid (HR.out.below hb2 (Nat.le_refl _))
    clear hb2 hown2
    go_wp2_with fail
    refine (cover_is g a2 g.length c2 _ HR2.out hg20 hgo).mono ?_
    rintro e w3 ⟨b, rfl, hb, hb3⟩
    have HB3 := Lib.hid (HB2.out.trans (hb3.mono HB2.out.size))
    have HRL3 := Lib.hid (HRL.out.below hb3 (Nat.le_refl _))
    have HBC := Lib.hid hb
    clear hb3 hb
    cases b
    · have HN : Hid (¬ OnceIs rs) := Lib.hid (fun hc => by have := HBC.out.2 (HI.out.2 hc).1; cases this)
      go_wp2
      go_ret
      exact ⟨false, rfl, ⟨(fun h => (by cases h)), fun h => (HN.out h).elim⟩, HB3.out⟩
    · have HCov := Lib.hid (HBC.out.1 rfl)
      clear HBC
      go_wp2_with fail
      refine (HGO.out a1 c1 _ HRL3.out).mono ?_
      rintro e w4 ⟨hb4, a4, c4, rfl, hown4⟩
      have HB4 := Lib.hid (HB3.out.trans (hb4.mono HB3.out.size))
      have HR4 := Lib.hid (readsL_own hown4)
      have hcap := own_capR hown4
      clear hb4 hown4
      go_wp2_with fail
      refine (meetNone_is a4 g.length c4 g _ HR4.out hg20 hcap hgo).mono ?_
      rintro e w5 ⟨b5, rfl, hb5', hb5⟩
      have HB5 := Lib.hid (HB4.out.trans (hb5.mono HB4.out.size))
      have HBI : Hid (b5 = true ↔ OnceIs rs) := Lib.hid (by rw [← HI.out, hb5']; exact ⟨fun h => ⟨HCov.out, h⟩, fun h => h.2⟩)
      clear hb5 hb5'
      go_wp2
      go_ret
      exact ⟨b5, rfl, HBI.out, HB5.out⟩

end Go.Proofs.Ytdcedkjoligekab
