/-
  The walk of spec.l91Rows: rows that are drawn. What the drawing of rows hands a law.
-/
import Derived.Test.YtdcedkjoligekaaDrawRows
namespace Go.Proofs.Ytdcedkjoligekaa
open Go.RowKit

set_option linter.unusedVariables false

theorem Try.infoIntsD : (Try.prog.info? 40).map (fun i => (i.zero, i.size, i.bytes)) = some (some (.slice none 0 0), 1, 24) := by kernel_rfl

/-- What is drawn: rows of the call's own. -/
def RowsDrawn (R : Nat) (a : Option Addr) (n c p : Nat) (w : World) (e : Ending) (w' : World) : Prop :=
  ∃ a' m c' rs, e = .returned (.slice a' m c') ∧ OwnRows w' w.heap.size (.slice a' m c') rs ∧ Small rs ∧ rs.length ≤ 6 ∧ (∃ p', p' ≤ p + 30 ∧ Rd R a n c p' w') ∧ Apart R w w'

theorem OwnRows.form {w : World} {B : Nat} {v : Value} {rs : List (List Int)} (h : OwnRows w B v rs) : ∃ a c, v = .slice a rs.length c := by
  obtain ⟨xs, G, h1, h2⟩ := h
  exact own_form h1

theorem three_rows {w : World} {B : Nat} (hB : B ≤ w.heap.size) :
    OwnRows ((((w.alloc (.cells (ints [0, 2]).toArray 3)).alloc (.cells (ints [1, 4]).toArray 3)).alloc (.cells (ints [3, 4]).toArray 3)).alloc (.cells #[.slice (some ⟨w.heap.size, 0, none⟩) 2 2, .slice (some ⟨w.heap.size + 1, 0, none⟩) 2 2, .slice (some ⟨w.heap.size + 1 + 1, 0, none⟩) 2 2] 40)) B
      (.slice (some ⟨w.heap.size + 1 + 1 + 1, 0, none⟩) 3 3) [[0, 2], [1, 4], [3, 4]] := by
  refine ⟨[.slice (some ⟨w.heap.size, 0, none⟩) 2 2, .slice (some ⟨w.heap.size + 1, 0, none⟩) 2 2, .slice (some ⟨w.heap.size + 1 + 1, 0, none⟩) 2 2], fun i => w.heap.size + i, ?_, ?_⟩
  · refine ⟨rfl, .inr ⟨w.heap.size + 1 + 1 + 1, 3, #[.slice (some ⟨w.heap.size, 0, none⟩) 2 2, .slice (some ⟨w.heap.size + 1, 0, none⟩) 2 2, .slice (some ⟨w.heap.size + 1 + 1, 0, none⟩) 2 2], rfl, by omega, ?_, Nat.le_refl _, by decide, rfl, rfl⟩⟩
    have h := heap_alloc_new (((w.alloc (.cells (ints [0, 2]).toArray 3)).alloc (.cells (ints [1, 4]).toArray 3)).alloc (.cells (ints [3, 4]).toArray 3)) (.cells #[.slice (some ⟨w.heap.size, 0, none⟩) 2 2, .slice (some ⟨w.heap.size + 1, 0, none⟩) 2 2, .slice (some ⟨w.heap.size + 1 + 1, 0, none⟩) 2 2] 40)
    simp only [World.size_alloc] at h
    exact h
  · intro i hi
    have hi : i < 3 := hi
    have : i = 0 ∨ i = 1 ∨ i = 2 := by omega
    rcases this with rfl | rfl | rfl
    · exact ⟨rfl, own_up (own_up (own_up (own_lits2 _ [0, 2] _ _ rfl hB (by decide)) _) _) _, fun j hj => by omega⟩
    · exact ⟨rfl, own_up (own_up (own_lits2 _ [1, 4] _ _ (by simp) (by simp; omega) (by decide)) _) _, fun j hj => by show w.heap.size + j < w.heap.size + 1; omega⟩
    · exact ⟨rfl, own_up (own_lits2 _ [3, 4] _ _ (by simp) (by simp; omega) (by decide)) _, fun j hj => by show w.heap.size + j < w.heap.size + 2; omega⟩
theorem three_small : Small [[0, 2], [1, 4], [3, 4]] := by
  intro z hz
  simp only [List.mem_cons, List.not_mem_nil, or_false] at hz
  rcases hz with rfl | rfl | rfl
  · exact ⟨by decide, fun _ _ => by decide⟩
  · exact ⟨by decide, fun _ _ => by decide⟩
  · exact ⟨by decide, fun _ _ => by decide⟩

set_option maxRecDepth 100000 in
set_option maxHeartbeats 8000000 in
theorem drawRows {R : Nat} {a : Option Addr} {n c p : Nat} {w : World} (h : Rd R a n c p w) (hp : p ≤ 100) :
    Calls Try.prog 52 #[.pointer (some ⟨R, 0, none⟩)] w (RowsDrawn R a n c p w) := by
  obtain ⟨i0, hi, hz0, hz1, hz2⟩ := info_parts Try.infoIntsD
  have H := Lib.hid h
  have hRw := h.lt
  clear h
  go_enter Try.func52, Try.ntmps52
  go_wp2_with fail
  have hS0 := Lib.hid (ownRows_start w (Nat.le_refl _))
  refine (pick_rd (H.out.below ((Below.refl _ _).alloc (Nat.le_refl _) _) hRw) 5 (by omega) (by omega) (by omega)).mono ?_
  rintro e w2 ⟨v, rfl, hv, hrd2, hap2, hsz2⟩
  have HO2 := Lib.hid (hS0.out.apart hap2 hRw)
  have HA2 := Lib.hid ((Apart.of_below (Nat.le_of_lt hRw) ((Below.refl _ _).alloc (Nat.le_refl _) (.cells #[] 40))).trans hap2)
  have HR2 := Lib.hid hrd2
  clear hap2 hrd2 hsz2 hS0
  by_cases hv0 : v = 0
  · subst hv0
    go_wp2_with fail
    refine (pick_rd HR2.out 4 (by omega) (by omega) (by omega)).mono ?_
    rintro e w3 ⟨x, rfl, hx, hrd3, hap3, hsz3⟩
    have HO3 := Lib.hid (HO2.out.apart hap3 hRw)
    have HA3 := Lib.hid (HA2.out.trans hap3)
    have HR3 := Lib.hid hrd3
    clear hap3 hrd3 hsz3 HO2 HA2 HR2
    go_wp2
    go_loopw [3, 5] (fun u i wr => ∃ (k : Nat) (rs : List (List Int)), k ≤ x + 1 ∧ i = .int .i64 k ∧ rs.length = k ∧ Small rs ∧ OwnRows wr w.heap.size u rs ∧ Rd R a n c (p + 1 + 1) wr ∧ Apart R w wr) (fun _ i _ => x + 1 - (intOf i).toNat)
    case atStart => exact ⟨0, [], by omega, rfl, rfl, small_nil, HO3.out, HR3.out, HA3.out⟩
    case round =>
      obtain ⟨k, rs, hk, rfl, hlen, hsm, ho, hrd, hap⟩ := hrel
      have HLEN := Lib.hid hlen
      have HSM := Lib.hid hsm
      have HRD := Lib.hid hrd
      have HAP := Lib.hid hap
      have hRr := hrd.lt
      have hsw := hap.below.size
      by_cases hlt : k < x + 1
      · have f1 : (k : Int) < 1 + (x : Int) := by omega
        obtain ⟨xs, G, hown, hrows⟩ := ho
        have hlt' : rs.length ≤ 4 := by omega
        have HROWS := Lib.hid hrows
        clear hsm hrd hap hlen hrows
        go_wp2_with
          (at_builtin; refine wpList_append_own _ rfl _ _ 23 rfl w.heap.size 40 i0 (.slice none 0 0) 1 24 Try.underlying23 hi hz0 hz1 hz2 rfl (by decide) _ _ _ rfl ((hown.alloc (.cells #[.int .i64 k, .int .i64 (1 + (x : Int))] 3)).alloc _) ⟨wr.heap.size + 1, 0, none⟩ 1 1 [.slice (some ⟨wr.heap.size, 0, none⟩) 2 2] rfl rfl ?c1 ?c2 ?c3 ?c4 ?c5 ?_)
        case c1 =>
          intro j u hj
          match j, hj with
          | 0, hj => simp at hj; subst hj; simp [Addr.add]
        case c2 => intro u hu; simp at hu; subst hu; rfl
        case c3 => unfold maxLen; omega
        case c4 => omega
        case c5 => simp; omega
        intro v' w5 hown5 hgrow _
        have hz := own_up (own_lits2 wr [(k : Int), ((1 + x : Nat) : Int)] wr.heap.size w.heap.size rfl hsw (by show 2 ≤ maxLen; decide)) (.cells #[.slice (some ⟨wr.heap.size, 0, none⟩) 2 2] 40)
        have hz' : ((wr.alloc (.cells #[.int .i64 k, .int .i64 (1 + (x : Int))] 3)).alloc (.cells #[.slice (some ⟨wr.heap.size, 0, none⟩) 2 2] 40)).ownsRow w.heap.size 3 1 (.slice (some ⟨wr.heap.size, 0, none⟩) 2 2) 2 (ints [(k : Int), ((1 + x : Nat) : Int)]) := by
          rw [show (1 + (x : Int)) = ((1 + x : Nat) : Int) from by omega]; exact hz
        have hb2 : Below wr.heap.size wr ((wr.alloc (.cells #[.int .i64 k, .int .i64 (1 + (x : Int))] 3)).alloc (.cells #[.slice (some ⟨wr.heap.size, 0, none⟩) 2 2] 40)) := ((Below.refl _ _).alloc (Nat.le_refl _) _).alloc (by simp) _
        have R5 := Lib.hid (ownRows_snoc (z := [(k : Int), ((1 + x : Nat) : Int)]) ((hown.alloc _).alloc _) (rowsIn_below HROWS.out hb2) hz' (fun i hi => (rowsIn_lt HROWS.out hi).2) hown5 hgrow)
        have HB5 : Below w.heap.size wr w5 := (hb2.mono hsw).grown hgrow (by simp; omega) (fun j hj => (hown.lt j hj).1)
        have HA5 := Lib.hid (HAP.out.later (Nat.le_of_lt hRw) HB5)
        have HR5 := Lib.hid (HRD.out.below HB5 hRw)
        have hdvd : Hid (SmallRow [(k : Int), ((1 + x : Nat) : Int)]) := Lib.hid (small_two _ _ (fun _ => by
          have : x = 0 ∨ x = 1 ∨ x = 2 ∨ x = 3 := by omega
          rcases this with rfl | rfl | rfl | rfl <;> decide))
        clear hown5 hgrow hown hz hz' hb2 HB5
        go_wp2
        go_roundw
        case rel => exact ⟨k + 1, rs ++ [[(k : Int), ((1 + x : Nat) : Int)]], by omega, by go_num, by rw [List.length_append, HLEN.out]; rfl, small_snoc HSM.out hdvd.out, R5.out, HR5.out, HA5.out⟩
        case measure => simp [intOf]; omega
      · have f1 : 1 + (x : Int) ≤ (k : Int) := by omega
        have hle6 : rs.length ≤ 4 := by omega
        have HO := Lib.hid ho
        clear hsm hrd hap ho hlen
        go_wp2_with fail
        refine (pick_rd HRD.out 20 (by first | omega | (have := HQ.out; omega)) (by omega) (by omega)).mono ?_
        rintro e w6 ⟨y, rfl, hy, hrd6, hap6, hsz6⟩
        have HO6 := Lib.hid (HO.out.apart hap6 hRw)
        have HAP6 := Lib.hid (HAP.out.trans hap6)
        have HRD6 := Lib.hid hrd6
        have hR6 := hrd6.lt
        have hsw6 := HAP6.out.below.size
        clear hap6 hrd6 hsz6
        by_cases hy0 : y = 0
        · subst hy0
          go_wp2_with fail
          refine (pick_rd (HRD6.out.below (below8 _ _ _ _ _ _ _ _ _) hR6) 7 (by first | omega | (have := HQ.out; omega)) (by omega) (by omega)).mono ?_
          rintro e w7 ⟨t, rfl, ht, hrd7, hap7, hsz7⟩
          obtain ⟨g, z, hcell, hz7, hsmall, hge⟩ := seven (B := w.heap.size) t ht hR6 hsw6 hap7
          obtain ⟨xs, G, hown, hrows⟩ := HO6.out
          have hap67 : Apart R w6 w7 := (Apart.of_below (Nat.le_of_lt hR6) (below8 _ _ _ _ _ _ _ _ _)).trans hap7
          have HROWS := Lib.hid hrows
          have hown7 := own_apart hown hap67 hRw
          have hrows7 := Lib.hid (rowsIn_apart hrows hap67 hRw)
          have HZ7 := Lib.hid hz7
          have HSMALL := Lib.hid hsmall
          have HRD7 := Lib.hid hrd7
          have HAP7 := Lib.hid (HAP6.out.trans hap67)
          have hsw7 := HAP7.out.below.size
          obtain ⟨d, hd⟩ : ∃ d, d = z.length := ⟨_, rfl⟩
          rw [← hd] at hcell
          have HD := Lib.hid hd
          have f7 : (t : Int) < 7 := by omega
          clear hown hrows hz7 hsmall hrd7 hap7 hap67 hsz7 hd
          go_wp2_with
            (at_builtin; refine wpList_append_own _ rfl _ _ 23 rfl w.heap.size 40 i0 (.slice none 0 0) 1 24 Try.underlying23 hi hz0 hz1 hz2 rfl (by decide) _ _ _ rfl (hown7.alloc _) ⟨w7.heap.size, 0, none⟩ 1 1 [.slice (some ⟨g, 0, none⟩) d d] rfl rfl ?c1 ?c2 ?c3 ?c4 ?c5 ?_)
          case c1 =>
            intro j u hj
            match j, hj with
            | 0, hj => simp at hj; subst hj; simp [Addr.add]
          case c2 => intro u hu; simp at hu; subst hu; rfl
          case c3 => unfold maxLen; omega
          case c4 => omega
          case c5 => simp; omega
          intro v' w8 hown8 hgrow _
          have hb2 : Below w7.heap.size w7 (w7.alloc (.cells #[.slice (some ⟨g, 0, none⟩) d d] 40)) := (Below.refl _ _).alloc (Nat.le_refl _) _
          have R8 := Lib.hid (ownRows_snoc (z := z) (hown7.alloc _) (rowsIn_below hrows7.out hb2) (own_up HZ7.out _) (fun i hi => by have := (rowsIn_lt HROWS.out hi).2; omega) (by rw [← HD.out]; exact hown8) hgrow)
          have HB8 : Below w.heap.size w7 w8 := (hb2.mono hsw7).grown hgrow (by simp; omega) (fun j hj => (hown7.lt j hj).1)
          have HA8 := Lib.hid (HAP7.out.later (Nat.le_of_lt hRw) HB8)
          have HR8 := Lib.hid (HRD7.out.below HB8 hRw)
          obtain ⟨a', c', rfl⟩ := R8.out.form
          clear hown8 hgrow hown7 hb2 HB8
          go_wp2
          go_ret
          exact ⟨_, _, _, _, rfl, R8.out, small_snoc HSM.out HSMALL.out, by rw [List.length_append]; simp; omega, ⟨_, by first | omega | (have := HQ.out; omega), HR8.out⟩, HA8.out⟩
        · have hy1 : ((y : Int) == 0) = false := by rw [beq_eq_false_iff_ne]; omega
          have hy2 : (y : Int) ≠ 0 := by omega
          obtain ⟨a', c', hform⟩ := HO6.out.form
          subst hform
          go_wp2
          go_ret
          exact ⟨_, _, _, _, rfl, HO6.out, HSM.out, by omega, ⟨_, by first | omega | (have := HQ.out; omega), HRD6.out⟩, HAP6.out⟩
  · by_cases hv1 : v = 1
    · subst hv1
      obtain ⟨rs, hrs⟩ : ∃ rs : List (List Int), rs = [[0, 2], [1, 4], [3, 4]] := ⟨_, rfl⟩
      have hle6 : rs.length ≤ 4 := by rw [hrs]; decide
      have HSM : Hid (Small rs) := Lib.hid (by rw [hrs]; exact three_small)
      have hs2 : w.heap.size ≤ w2.heap.size := HA2.out.below.size
      have HO0 := three_rows (w := w2) (B := w.heap.size) hs2
      obtain ⟨wr, hwr⟩ : ∃ wr, wr = ((((w2.alloc (.cells (ints [0, 2]).toArray 3)).alloc (.cells (ints [1, 4]).toArray 3)).alloc (.cells (ints [3, 4]).toArray 3)).alloc (.cells #[.slice (some ⟨w2.heap.size, 0, none⟩) 2 2, .slice (some ⟨w2.heap.size + 1, 0, none⟩) 2 2, .slice (some ⟨w2.heap.size + 1 + 1, 0, none⟩) 2 2] 40)) := ⟨_, rfl⟩
      have hb4 : Below w2.heap.size w2 wr := by rw [hwr]; exact ((((Below.refl _ _).alloc (Nat.le_refl _) _).alloc (by simp) _).alloc (by simp; omega) _).alloc (by simp; omega) _
      rw [← hrs, ← hwr] at HO0
      have HO := Lib.hid HO0
      have HRD := Lib.hid (HR2.out.below hb4 HR2.out.lt)
      have HAP := Lib.hid (HA2.out.trans (Apart.of_below (Nat.le_of_lt HR2.out.lt) hb4))
      have hRr := HRD.out.lt
      have hsw := HAP.out.below.size
      have hwr' : wr = ((((w2.alloc (.cells #[.int .i64 0, .int .i64 2] 3)).alloc (.cells #[.int .i64 1, .int .i64 4] 3)).alloc (.cells #[.int .i64 3, .int .i64 4] 3)).alloc (.cells #[.slice (some ⟨w2.heap.size, 0, none⟩) 2 2, .slice (some ⟨w2.heap.size + 1, 0, none⟩) 2 2, .slice (some ⟨w2.heap.size + 1 + 1, 0, none⟩) 2 2] 40)) := hwr
      clear hrs HO0 hwr hb4
      go_wp2_with fail
      rw [← hwr']
      refine (pick_rd HRD.out 20 (by first | omega | (have := HQ.out; omega)) (by omega) (by omega)).mono ?_
      rintro e w6 ⟨y, rfl, hy, hrd6, hap6, hsz6⟩
      have HO6 := Lib.hid (HO.out.apart hap6 hRw)
      have HAP6 := Lib.hid (HAP.out.trans hap6)
      have HRD6 := Lib.hid hrd6
      have hR6 := hrd6.lt
      have hsw6 := HAP6.out.below.size
      clear hap6 hrd6 hsz6
      by_cases hy0 : y = 0
      · subst hy0
        go_wp2_with fail
        refine (pick_rd (HRD6.out.below (below8 _ _ _ _ _ _ _ _ _) hR6) 7 (by first | omega | (have := HQ.out; omega)) (by omega) (by omega)).mono ?_
        rintro e w7 ⟨t, rfl, ht, hrd7, hap7, hsz7⟩
        obtain ⟨g, z, hcell, hz7, hsmall, hge⟩ := seven (B := w.heap.size) t ht hR6 hsw6 hap7
        obtain ⟨xs, G, hown, hrows⟩ := HO6.out
        have hap67 : Apart R w6 w7 := (Apart.of_below (Nat.le_of_lt hR6) (below8 _ _ _ _ _ _ _ _ _)).trans hap7
        have HROWS := Lib.hid hrows
        have hown7 := own_apart hown hap67 hRw
        have hrows7 := Lib.hid (rowsIn_apart hrows hap67 hRw)
        have HZ7 := Lib.hid hz7
        have HSMALL := Lib.hid hsmall
        have HRD7 := Lib.hid hrd7
        have HAP7 := Lib.hid (HAP6.out.trans hap67)
        have hsw7 := HAP7.out.below.size
        obtain ⟨d, hd⟩ : ∃ d, d = z.length := ⟨_, rfl⟩
        rw [← hd] at hcell
        have HD := Lib.hid hd
        have f7 : (t : Int) < 7 := by omega
        clear hown hrows hz7 hsmall hrd7 hap7 hap67 hsz7 hd
        go_wp2_with
          (at_builtin; refine wpList_append_own _ rfl _ _ 23 rfl w.heap.size 40 i0 (.slice none 0 0) 1 24 Try.underlying23 hi hz0 hz1 hz2 rfl (by decide) _ _ _ rfl (hown7.alloc _) ⟨w7.heap.size, 0, none⟩ 1 1 [.slice (some ⟨g, 0, none⟩) d d] rfl rfl ?c1 ?c2 ?c3 ?c4 ?c5 ?_)
        case c1 =>
          intro j u hj
          match j, hj with
          | 0, hj => simp at hj; subst hj; simp [Addr.add]
        case c2 => intro u hu; simp at hu; subst hu; rfl
        case c3 => unfold maxLen; omega
        case c4 => omega
        case c5 => simp; omega
        intro v' w8 hown8 hgrow _
        have hb2 : Below w7.heap.size w7 (w7.alloc (.cells #[.slice (some ⟨g, 0, none⟩) d d] 40)) := (Below.refl _ _).alloc (Nat.le_refl _) _
        have R8 := Lib.hid (ownRows_snoc (z := z) (hown7.alloc _) (rowsIn_below hrows7.out hb2) (own_up HZ7.out _) (fun i hi => by have := (rowsIn_lt HROWS.out hi).2; omega) (by rw [← HD.out]; exact hown8) hgrow)
        have HB8 : Below w.heap.size w7 w8 := (hb2.mono hsw7).grown hgrow (by simp; omega) (fun j hj => (hown7.lt j hj).1)
        have HA8 := Lib.hid (HAP7.out.later (Nat.le_of_lt hRw) HB8)
        have HR8 := Lib.hid (HRD7.out.below HB8 hRw)
        obtain ⟨a', c', rfl⟩ := R8.out.form
        clear hown8 hgrow hown7 hb2 HB8
        go_wp2
        go_ret
        exact ⟨_, _, _, _, rfl, R8.out, small_snoc HSM.out HSMALL.out, by rw [List.length_append]; simp; omega, ⟨_, by first | omega | (have := HQ.out; omega), HR8.out⟩, HA8.out⟩
      · have hy1 : ((y : Int) == 0) = false := by rw [beq_eq_false_iff_ne]; omega
        have hy2 : (y : Int) ≠ 0 := by omega
        go_wp2
        go_ret
        exact ⟨_, _, _, _, rfl, HO6.out, HSM.out, by omega, ⟨_, by first | omega | (have := HQ.out; omega), HRD6.out⟩, HAP6.out⟩
    · have hvn0 : ((v : Int) == 0) = false := by rw [beq_eq_false_iff_ne]; omega
      have hvn1 : ((v : Int) == 1) = false := by rw [beq_eq_false_iff_ne]; omega
      have hvi0 : (v : Int) ≠ 0 := by omega
      have hvi1 : (v : Int) ≠ 1 := by omega
      go_wp2_with fail
      refine (pick_rd HR2.out 6 (by omega) (by omega) (by omega)).mono ?_
      rintro e w3 ⟨x, rfl, hx, hrd3, hap3, hsz3⟩
      have HO3 := Lib.hid (HO2.out.apart hap3 hRw)
      have HA3 := Lib.hid (HA2.out.trans hap3)
      have HR3 := Lib.hid hrd3
      clear hap3 hrd3 hsz3 HO2 HA2 HR2
      go_wp2
      go_loopw [3, 6] (fun u i wr => ∃ (k : Nat) (rs : List (List Int)), i = .int .i64 k ∧ k + rs.length ≤ 5 ∧ Small rs ∧ OwnRows wr w.heap.size u rs ∧ (∃ q, q + 2 * k ≤ p + 12 ∧ Rd R a n c q wr) ∧ Apart R w wr) (fun _ i _ => (intOf i).toNat)
      case atStart => exact ⟨x, [], rfl, by simp; omega, small_nil, HO3.out, ⟨_, by omega, HR3.out⟩, HA3.out⟩
      case round =>
        obtain ⟨k, rs, rfl, hlen, hsm, ho, ⟨q, hq, hrd⟩, hap⟩ := hrel
        have HSM := Lib.hid hsm
        have HRD := Lib.hid hrd
        have HAP := Lib.hid hap
        have hRr := hrd.lt
        have hsw := hap.below.size
        by_cases hlt : 0 < k
        · have f1 : (0 : Int) < (k : Int) := by omega
          have HO := Lib.hid ho
          have HQ := Lib.hid hq
          clear hsm hrd hap ho hq
          go_wp2_with fail
          refine (drawRow HRD.out (by have := HQ.out; omega)).mono ?_
          rintro e w4 ⟨b, s, g, rfl, hb8, hs12, hdv, hrd4, hap4, hgle, hz4⟩
          obtain ⟨xs, G, hown, hrows⟩ := HO.out
          have HROWS := Lib.hid hrows
          have hown4 := own_apart hown hap4 hRw
          have hrows4 := Lib.hid (rowsIn_apart hrows hap4 hRw)
          have hz4' := Lib.hid (own_base hz4 hsw)
          have HRD4 := Lib.hid hrd4
          have HAP4 := Lib.hid (HAP.out.trans hap4)
          have hsw4 := HAP4.out.below.size
          have hdv' := Lib.hid (small_two b s hdv)
          clear hown hrows hz4 hrd4 hap4 hdv
          go_wp2_with
            (at_builtin; refine wpList_append_own _ rfl _ _ 23 rfl w.heap.size 40 i0 (.slice none 0 0) 1 24 Try.underlying23 hi hz0 hz1 hz2 rfl (by decide) _ _ _ rfl (hown4.alloc _) ⟨w4.heap.size, 0, none⟩ 1 1 [.slice (some ⟨g, 0, none⟩) 2 2] rfl rfl ?c1 ?c2 ?c3 ?c4 ?c5 ?_)
          case c1 =>
            intro j u hj
            match j, hj with
            | 0, hj => simp at hj; subst hj; simp [Addr.add]
          case c2 => intro u hu; simp at hu; subst hu; rfl
          case c3 => unfold maxLen; omega
          case c4 => omega
          case c5 => simp; omega
          intro v' w5 hown5 hgrow _
          have hb2 : Below w4.heap.size w4 (w4.alloc (.cells #[.slice (some ⟨g, 0, none⟩) 2 2] 40)) := (Below.refl _ _).alloc (Nat.le_refl _) _
          have R5 := Lib.hid (ownRows_snoc (z := [(b : Int), (s : Int)]) (hown4.alloc _) (rowsIn_below hrows4.out hb2) (own_up hz4'.out _) (fun i hi => by have := (rowsIn_lt HROWS.out hi).2; omega) hown5 hgrow)
          have HB5 : Below w.heap.size w4 w5 := (hb2.mono hsw4).grown hgrow (by simp; omega) (fun j hj => (hown4.lt j hj).1)
          have HA5 := Lib.hid (HAP4.out.later (Nat.le_of_lt hRw) HB5)
          have HR5 := Lib.hid (HRD4.out.below HB5 hRw)
          clear hown5 hgrow hown4 hb2 HB5
          go_wp2
          go_roundw
          case rel => exact ⟨k - 1, rs ++ [[(b : Int), (s : Int)]], by go_num, by rw [List.length_append]; simp; omega, small_snoc HSM.out hdv'.out, R5.out, ⟨_, by have := HQ.out; omega, HR5.out⟩, HA5.out⟩
          case measure => simp [intOf]; omega
        · obtain rfl : k = 0 := by omega
          have hle6 : rs.length ≤ 5 := by omega
          have HO := Lib.hid ho
          have HQ := Lib.hid hq
          clear hsm hrd hap ho hlen hq
          go_wp2_with fail
          refine (pick_rd HRD.out 20 (by first | omega | (have := HQ.out; omega)) (by omega) (by omega)).mono ?_
          rintro e w6 ⟨y, rfl, hy, hrd6, hap6, hsz6⟩
          have HO6 := Lib.hid (HO.out.apart hap6 hRw)
          have HAP6 := Lib.hid (HAP.out.trans hap6)
          have HRD6 := Lib.hid hrd6
          have hR6 := hrd6.lt
          have hsw6 := HAP6.out.below.size
          clear hap6 hrd6 hsz6
          by_cases hy0 : y = 0
          · subst hy0
            go_wp2_with fail
            refine (pick_rd (HRD6.out.below (below8 _ _ _ _ _ _ _ _ _) hR6) 7 (by first | omega | (have := HQ.out; omega)) (by omega) (by omega)).mono ?_
            rintro e w7 ⟨t, rfl, ht, hrd7, hap7, hsz7⟩
            obtain ⟨g, z, hcell, hz7, hsmall, hge⟩ := seven (B := w.heap.size) t ht hR6 hsw6 hap7
            obtain ⟨xs, G, hown, hrows⟩ := HO6.out
            have hap67 : Apart R w6 w7 := (Apart.of_below (Nat.le_of_lt hR6) (below8 _ _ _ _ _ _ _ _ _)).trans hap7
            have HROWS := Lib.hid hrows
            have hown7 := own_apart hown hap67 hRw
            have hrows7 := Lib.hid (rowsIn_apart hrows hap67 hRw)
            have HZ7 := Lib.hid hz7
            have HSMALL := Lib.hid hsmall
            have HRD7 := Lib.hid hrd7
            have HAP7 := Lib.hid (HAP6.out.trans hap67)
            have hsw7 := HAP7.out.below.size
            obtain ⟨d, hd⟩ : ∃ d, d = z.length := ⟨_, rfl⟩
            rw [← hd] at hcell
            have HD := Lib.hid hd
            have f7 : (t : Int) < 7 := by omega
            clear hown hrows hz7 hsmall hrd7 hap7 hap67 hsz7 hd
            go_wp2_with
              (at_builtin; refine wpList_append_own _ rfl _ _ 23 rfl w.heap.size 40 i0 (.slice none 0 0) 1 24 Try.underlying23 hi hz0 hz1 hz2 rfl (by decide) _ _ _ rfl (hown7.alloc _) ⟨w7.heap.size, 0, none⟩ 1 1 [.slice (some ⟨g, 0, none⟩) d d] rfl rfl ?c1 ?c2 ?c3 ?c4 ?c5 ?_)
            case c1 =>
              intro j u hj
              match j, hj with
              | 0, hj => simp at hj; subst hj; simp [Addr.add]
            case c2 => intro u hu; simp at hu; subst hu; rfl
            case c3 => unfold maxLen; omega
            case c4 => omega
            case c5 => simp; omega
            intro v' w8 hown8 hgrow _
            have hb2 : Below w7.heap.size w7 (w7.alloc (.cells #[.slice (some ⟨g, 0, none⟩) d d] 40)) := (Below.refl _ _).alloc (Nat.le_refl _) _
            have R8 := Lib.hid (ownRows_snoc (z := z) (hown7.alloc _) (rowsIn_below hrows7.out hb2) (own_up HZ7.out _) (fun i hi => by have := (rowsIn_lt HROWS.out hi).2; omega) (by rw [← HD.out]; exact hown8) hgrow)
            have HB8 : Below w.heap.size w7 w8 := (hb2.mono hsw7).grown hgrow (by simp; omega) (fun j hj => (hown7.lt j hj).1)
            have HA8 := Lib.hid (HAP7.out.later (Nat.le_of_lt hRw) HB8)
            have HR8 := Lib.hid (HRD7.out.below HB8 hRw)
            obtain ⟨a', c', rfl⟩ := R8.out.form
            clear hown8 hgrow hown7 hb2 HB8
            go_wp2
            go_ret
            exact ⟨_, _, _, _, rfl, R8.out, small_snoc HSM.out HSMALL.out, by rw [List.length_append]; simp; omega, ⟨_, by first | omega | (have := HQ.out; omega), HR8.out⟩, HA8.out⟩
          · have hy1 : ((y : Int) == 0) = false := by rw [beq_eq_false_iff_ne]; omega
            have hy2 : (y : Int) ≠ 0 := by omega
            obtain ⟨a', c', hform⟩ := HO6.out.form
            subst hform
            go_wp2
            go_ret
            exact ⟨_, _, _, _, rfl, HO6.out, HSM.out, by omega, ⟨_, by first | omega | (have := HQ.out; omega), HRD6.out⟩, HAP6.out⟩

set_option linter.unusedVariables false

/-- Rows that a law is handed: few, and short. -/
def RowsAsked (w : World) (e : Ending) (w' : World) : Prop :=
  ∃ a m c rs, e = .returned (.slice a m c) ∧ ReadsR w' a m rs ∧ m ≤ 6 ∧ Short rs ∧ Small rs ∧ Below w.heap.size w w'
theorem small_short {rs : List (List Int)} (h : Small rs) : Short rs := fun i hi => by
  have := (h (rs.getD i []) (by rw [List.getD_eq_getElem?_getD, List.getElem?_eq_getElem hi]; exact List.getElem_mem hi)).1
  omega
theorem rows_asked {w w' : World} {B m c : Nat} {a : Option Addr} {rs : List (List Int)} (ho : OwnRows w' B (.slice a m c) rs) (hs : Small rs) (hl : rs.length ≤ 6) (hap : Apart w.heap.size w w') :
    RowsAsked w (.returned (.slice a m c)) w' := by
  obtain ⟨e, hr⟩ := ho.reads
  exact ⟨a, m, c, rs, rfl, hr, by omega, small_short hs, hs, hap.below⟩

end Go.Proofs.Ytdcedkjoligekaa
