/-
  The walks of goingRows.meetNone, RowsCover and RowsOnce, of the program.
-/
import Derived.Test.YtdcedkjoligekaaCover
import Derived.Test.YtdcedkjoligekaaOnceMath
namespace Go.Proofs.Ytdcedkjoligekaa
open Go.RowKit
set_option linter.unusedVariables false

theorem going_ok {l : List Rw} (hf : ∀ r ∈ l, r.Fits) : Going (going l) := by
  intro q hq
  obtain ⟨r, hr, h0, rfl⟩ := going_mem hq
  exact ⟨early_ok h0, (hf r hr).2⟩

theorem getD_cut {l : List Rw} {i j : Nat} (hj : j < i) : (l.take i).getD j default = l.getD j default := by
  rw [List.getD_eq_getElem?_getD, List.getElem?_take_of_lt hj, List.getD_eq_getElem?_getD]
theorem ReadsL.cut {w : World} {a : Option Addr} {n : Nat} {l : List Rw} (h : ReadsL w a n l) {i : Nat} (hi : i ≤ n) : ReadsL w a i (l.take i) := by
  obtain ⟨h1, h2⟩ := h
  refine ⟨by rw [List.length_take]; omega, ?_⟩
  rcases h2 with h2 | ⟨g, o, ha, hg, hc⟩
  · exact .inl (by omega)
  · refine .inr ⟨g, o, ha, hg, fun j hj => ?_⟩
    have e : (l.take i).getD j default = l.getD j default := by
      rw [List.getD_eq_getElem?_getD, List.getElem?_take_of_lt hj, List.getD_eq_getElem?_getD]
    rw [e]
    exact hc j (by omega)

def NoneOut (g : List Rw) (w : World) (e : Ending) (w' : World) : Prop := ∃ b, e = .returned (.bool b) ∧ (b = true ↔ Disjoint g g.length) ∧ Below w.heap.size w w'

set_option maxRecDepth 100000 in
set_option maxHeartbeats 4000000 in
theorem meetNone_is (a : Option Addr) (n c : Nat) (g : List Rw) (w : World) (h : ReadsL w a n g) (hn : n ≤ 20) (hc : n ≤ c) (hf : Going g) :
    Calls Try.prog 87 #[.slice a n c] w (NoneOut g w) := by
  have H := Lib.hid h
  have hlen := h.len
  have HLEN := Lib.hid hlen
  have HF := Lib.hid hf
  clear h hf hlen
  go_enter Try.func87, Try.ntmps87
  go_wp2
  go_loopw [11] (fun i wr => ∃ k : Nat, k ≤ n ∧ i = .int .i64 k ∧ Disjoint g k ∧ Below w.heap.size w wr) (fun i _ => n - (intOf i).toNat)
  case atStart => exact ⟨0, Nat.zero_le _, rfl, fun i hi => absurd hi (Nat.not_lt_zero _), Below.refl _ _⟩
  case round =>
    obtain ⟨k, hk, rfl, hdis, hB⟩ := hrel
    obtain ⟨W, hW⟩ : ∃ W, W = wr := ⟨wr, rfl⟩
    subst hW
    have HD := Lib.hid hdis
    have HB := Lib.hid hB
    clear hdis
    by_cases hlt : k < n
    · obtain ⟨g1, o1, b, s, rfl, hg1, hbs, q0, q1⟩ := (H.out.below hB (Nat.le_refl _)).row hlt
      have hfit := HF.out _ (mem_getD (l := g) (i := k) (by have := HLEN.out; omega))
      rw [hbs] at hfit
      have hbs1 : b < s := hfit.1
      have hs60 : s ≤ 60 := hfit.2
      have f1 : (k : Int) < (n : Int) := by omega
      have f2 : (0 : Int) ≤ (k : Int) := by omega
      have f3 : (k : Int) ≤ (c : Int) := by omega
      have HBS := Lib.hid hbs
      have HB1 := Lib.hid (HB.out.alloc HB.out.size (.cells #[.int .i64 b, .int .i64 s] 79))
      have HC := Lib.hid (H.out.cut (i := k) hk)
      clear hB hfit hbs
      go_wp2
      go_loopw [20] (fun i w2 => ∃ j : Nat, j ≤ k ∧ i = .int .i64 j ∧ (∀ j', j' < j → ∀ n, ¬ ((Rw.mk b s).has n = true ∧ (g.getD j' default).has n = true)) ∧ Below (W.alloc (.cells #[.int .i64 b, .int .i64 s] 79)).heap.size (W.alloc (.cells #[.int .i64 b, .int .i64 s] 79)) w2) (fun i _ => k - (intOf i).toNat)
      case atStart => exact ⟨0, Nat.zero_le _, rfl, fun i hi => absurd hi (Nat.not_lt_zero _), Below.refl _ _⟩
      case round =>
        obtain ⟨j, hj, rfl, hno, hB2⟩ := hrel
        have HNO := Lib.hid hno
        obtain ⟨p0, p1⟩ := box3 hB2
        have hsz2 := hB2.size
        simp at hsz2
        have HB2 := Lib.hid (HB1.out.trans (hB2.mono HB1.out.size))
        have HB2' := Lib.hid hB2
        clear hno hB2
        by_cases hlt2 : j < k
        · obtain ⟨g2, o2, p, q, hgg, hg2, hpq, r0, r1⟩ := (HC.out.below HB2.out (Nat.le_refl _)).row hlt2
          injection hgg with hgg
          injection hgg with e1 e2 _
          subst e1 e2
          have hpq2 : g.getD j default = ⟨p, q⟩ := by
            rw [← hpq]; exact (getD_cut hlt2).symm
          have hfit := HF.out _ (mem_getD (l := g) (i := j) (by have := HLEN.out; omega))
          rw [hpq2] at hfit
          have hpq1 : p < q := hfit.1
          have hq60 : q ≤ 60 := hfit.2
          have HPQ := Lib.hid hpq2
          have f4 : (j : Int) < (k : Int) := by omega
          have f5 : (0 : Int) ≤ (j : Int) := by omega
          have past : ∀ (o : Obj) (i : Nat), (wr.alloc o).cell? ⟨W.heap.size, i, none⟩ = wr.cell? ⟨W.heap.size, i, none⟩ := fun o i => World.cell?_alloc_past _ _ _ (by show W.heap.size < wr.heap.size; omega)
          have e0 := (past (.cells #[.int .i64 p, .int .i64 q] 79) 0).trans p0
          have e1 := (past (.cells #[.int .i64 p, .int .i64 q] 79) 1).trans p1
          have HB3 := Lib.hid (HB2.out.alloc HB2.out.size (.cells #[.int .i64 p, .int .i64 q] 79))
          have HB3' := Lib.hid (HB2'.out.alloc HB2'.out.size (.cells #[.int .i64 p, .int .i64 q] 79))
          clear past hpq hpq2 hfit p0 p1
          by_cases hcm : ∃ m, Least ⟨b, s⟩ ⟨p, q⟩ m
          · obtain ⟨m, hm⟩ := hcm
            have HM := Lib.hid (meet_on ⟨b, s⟩ ⟨p, q⟩ m (wr.alloc (.cells #[.int .i64 p, .int .i64 q] 79)) (by show b ≤ 200; omega) hs60 (by show p ≤ 200; omega) hq60 hm)
            have HND : Hid (¬ Disjoint g g.length) := Lib.hid (fun hd => hd k (by have := HLEN.out; omega) j hlt2 m (by rw [HBS.out, HPQ.out]; exact ⟨hm.1, hm.2.1⟩))
            obtain ⟨st, hstd⟩ : ∃ st, st = stepOf ⟨b, s⟩ ⟨p, q⟩ := ⟨_, rfl⟩
            rw [← hstd] at HM
            unfold rwV at HM
            clear hm hstd
            go_wp2_with fail
            refine HM.out.mono ?_
            rintro e w3 ⟨rfl, hb3⟩
            have HB4 := Lib.hid (HB3.out.trans (hb3.mono HB3.out.size))
            clear hb3 HM
            go_wp2
            try rw [Exit.noGoto_ret]
            try rw [Exit.noGoto_ret]
            go_ret
            exact ⟨false, rfl, ⟨(fun h => (by cases h)), fun h => (HND.out h).elim⟩, HB4.out.alloc HB4.out.size _⟩
          · have HN := Lib.hid (fun n hn => hcm (least_there (n := n) (And.left hn) (And.right hn)))
            have HM := Lib.hid (meet_off ⟨b, s⟩ ⟨p, q⟩ (wr.alloc (.cells #[.int .i64 p, .int .i64 q] 79)) (by show b ≤ 200; omega) hs60 (by show p ≤ 200; omega) hq60 HN.out)
            unfold rwV at HM
            clear hcm
            go_wp2_with fail
            refine HM.out.mono ?_
            rintro e w3 ⟨⟨⟨x, y⟩, rfl⟩, hb3⟩
            have HB4' := Lib.hid (HB3'.out.trans (hb3.mono HB3'.out.size))
            clear hb3 HM
            go_wp2
            go_roundw
            case rel =>
              refine ⟨j + 1, by omega, by go_num, fun j' hj' n => ?_, HB4'.out.alloc HB4'.out.size _⟩
              rcases Nat.lt_or_ge j' j with x | x
              · exact HNO.out j' x n
              · obtain rfl : j' = j := by omega
                rw [HPQ.out]
                exact HN.out n
            case measure => simp [intOf]; omega
        · obtain rfl : j = k := by omega
          go_wp2
          go_roundw
          case rel =>
            refine ⟨j + 1, by omega, by go_num, fun i hi j' hj' n => ?_, HB2.out⟩
            rcases Nat.lt_or_ge i j with x | x
            · exact HD.out i x j' hj' n
            · obtain rfl : i = j := by omega
              rw [HBS.out]
              exact HNO.out j' hj' n
          case measure => simp [intOf]; omega
    · obtain rfl : k = n := by omega
      have HDD : Hid (Disjoint g g.length) := Lib.hid (by rw [HLEN.out]; exact HD.out)
      go_wp2
      go_ret
      exact ⟨true, rfl, ⟨fun _ => HDD.out, fun _ => rfl⟩, HB.out⟩
end Go.Proofs.Ytdcedkjoligekaa
