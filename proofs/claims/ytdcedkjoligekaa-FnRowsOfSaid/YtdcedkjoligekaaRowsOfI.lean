/-
  The walk of the program's RowsOf.
-/
import Derived.Test.YtdcedkjoligekaaRowsOfTold
import Derived.Test.YtdcedkjoligekaaCoreI
import Derived.Test.YtdcedkjoligekaaRing
import Derived.Test.YtdcedkjoligekaaFirst
import Derived.Test.YtdcedkjoligekaaRowRead
import Derived.Test.YtdcedkjoligekaaDrawRows
import Derived.Deep.WholeRow
namespace Go.Proofs.Ytdcedkjoligekaa
open Go.RowKit
set_option linter.unusedVariables false

theorem row180_cell {w : World} {g k : Nat} {f : Nat → Bool} (h : Row180 w g (firstV f)) (hk : k < 180) : w.cell? ⟨g, k, none⟩ = some (.bool (f k)) := by
  have h' : w.heap[g]? = some (.cells (firstV f) 61 (0, 0)) := h
  simp only [World.cell?, h']
  exact firstV_at f k hk
theorem ownRows_start2 (w : World) (o : Obj) {B : Nat} (hB : B ≤ w.heap.size + 1) : OwnRows ((w.alloc o).alloc (.cells #[] 40)) B (.slice (some ⟨w.heap.size + 1, 0, none⟩) 0 0) [] := by
  have h := ownRows_start (w.alloc o) (B := B) (by simp; omega)
  rw [World.size_alloc] at h
  exact h
theorem of_box {w w' : World} {o : Obj} (hb : Below (w.alloc o).heap.size (w.alloc o) w') : Below w.heap.size w w' := box_below (Below.refl _ _) hb
set_option maxRecDepth 100000 in
set_option maxHeartbeats 2000000 in
theorem implRowsOf_on (s : ByteArray) (m r : Nat) (g : Int) (w : World) (hs : s.size ≤ 1048576) (hL : LibAt g w) (h : okS s = true) (hT : Tidy (fS s) m r) (hm : m ≤ 60) (hq : r ≤ 60) :
    Calls Try.prog 24 #[.string s] w (RowsEnd (ofRows (fS s) m r) (okOf (fS s) m r) w) := by
  obtain ⟨i0, hi, hz0, hz1, hz2⟩ := info_parts Try.infoInts
  have H := Lib.hid hT
  clear hT
  go_enter Try.func24, Try.ntmps24
  go_wp2_with fail
  refine (split_on s g _ hs hL h).mono ?_
  rintro e w1 ⟨T, R, rfl, hb, hsp⟩
  go_wp2_with fail
  refine (first_any s T R _ hsp).mono ?_
  rintro e w2 ⟨rfl, hb2⟩
  have HB := Lib.hid (box_below hb hb2)
  clear hb hb2
  go_wp2_with (first
    | (refine wpList_store_row rfl 61 _ _ rfl w2.heap.size (firstV (fS s)) rfl rfl 61 Try.zeroCells61 (heap_alloc_new w2 _) (by rw [firstV_size]; exact Try.infoFirst) (by rw [firstV_size]; exact zeroFirst_size) (firstV_one _) ?_; rw [World.setRow_alloc_new])
    | (refine wpList_load_row rfl 61 _ rfl w2.heap.size rfl 61 (firstV (fS s)) (0, 0) _ (heap_alloc_new w2 _) Try.underlying61 rfl (by rw [firstV_size]; exact Try.infoFirst) ?_))
  refine (ringSize_any (fS s) m r _ H.out hm hq).mono ?_
  rintro e w3 ⟨rfl, hb3⟩
  have HR : Hid (w3.heap[w2.heap.size]? = some (.cells (firstV (fS s)) 61 (0, 0))) := Lib.hid ((hb3.block w2.heap.size (by simp)).trans (heap_alloc_new w2 _))
  have HB3 := Lib.hid ((HB.out.alloc HB.out.size _).trans (hb3.mono (by have := HB.out.size; simp; omega)))
  have HS3 : Hid (w2.heap.size < w3.heap.size) := Lib.hid (by have := hb3.size; simp at this; omega)
  clear hb3
  go_wp2_with (refine wpList_load_row rfl 61 _ rfl w2.heap.size rfl 61 (firstV (fS s)) (0, 0) _ HR.out Try.underlying61 rfl (by rw [firstV_size]; exact Try.infoFirst) ?_)
  refine (tailSize_any (fS s) m r _ H.out hm hq).mono ?_
  rintro e w4 ⟨rfl, hb4⟩
  have HB4 := Lib.hid (HB3.out.trans (hb4.mono HB3.out.size))
  have HR4 : Hid (Row180 w4 w2.heap.size (firstV (fS s))) := Lib.hid ((hb4.block w2.heap.size HS3.out).trans HR.out)
  have HS4 : Hid (w2.heap.size < w4.heap.size) := Lib.hid (Nat.lt_of_lt_of_le HS3.out hb4.size)
  clear hb4
  have w1' : IntKind.i64.wrap ((m : Int) + (r : Int)) = (m : Int) + (r : Int) := by rw [IntWalk.i64_in _ (by omega)]
  have c1 : (m : Int) + (r : Int) ≤ 180 := by omega
  have c2 : (0 : Int) ≤ (m : Int) + (r : Int) := by omega
  go_wp2
  go_loopw [9, 34] (fun u i wr => ∃ k : Nat, k ≤ m + r ∧ i = .int .i64 k ∧ Below w4.heap.size w4 wr ∧ OwnRows wr w4.heap.size u (rowsN (fS s) m r k) ∧ OfFar (fS s) m r k)
    (fun _ i _ => m + r - (intOf i).toNat)
  case atStart => exact ⟨0, Nat.zero_le _, rfl, (Below.refl _ _).alloc (Nat.le_refl _) _, ownRows_start _ (Nat.le_refl _), ofFar_zero _ _ _⟩
  case round =>
    obtain ⟨k, hk, rfl, hB, hO, hfar⟩ := hrel
    have HB := Lib.hid hB
    have HO := Lib.hid hO
    have HFAR := Lib.hid hfar
    have hr4 : Row180 wr w2.heap.size (firstV (fS s)) := HR4.out.below hB HS4.out
    clear hB hO hfar
    by_cases hlt : k < m + r
    · have q0 := row180_cell hr4 (show k < 180 by omega)
      have f1 : (k : Int) < (m : Int) + (r : Int) := by omega
      clear hr4
      cases hv : fS s k
      · rw [hv] at q0
        have HV := Lib.hid hv
        clear hv
        go_wp2
        go_roundw
        case rel => exact ⟨k + 1, by omega, by go_num, HB.out, by rw [rowsN_miss HV.out]; exact HO.out, ofFar_miss HFAR.out HV.out⟩
        case measure => simp [intOf]; omega
      · rw [hv] at q0
        have HV := Lib.hid hv
        clear hv
        by_cases hkm : k < m
        · have f2 : (k : Int) < (m : Int) := by omega
          have HZ : Hid (rowZ m r k = [(k : Int), (0 : Int)]) := Lib.hid (by unfold rowZ; rw [if_pos hkm])
          by_cases h59 : k ≤ 59
          · have e1 : (decide ((0 : Int) ≤ (k : Int) ∧ (k : Int) ≤ 59) && decide ((0 : Int) ≤ (0 : Int) ∧ (0 : Int) ≤ 60)) = true := by simp; omega
            have HE1 := Lib.hid e1
            clear e1
            by_cases h20 : (rowsN (fS s) m r k).length = 20
            · have HG := Lib.hid (of_many hlt HV.out h20)
              obtain ⟨a, c, rfl⟩ := HO.out.formN
              have h20i : ((rowsN (fS s) m r k).length : Int) = 20 := by omega
              go_wp2_with fail
              refine (rowFitsZ (k : Int) (0 : Int) _).mono ?_
              rintro e w5 ⟨rfl, hb5⟩
              rw [HE1.out]
              have HB5 := Lib.hid (HB.out.trans ((of_box hb5).mono HB.out.size))
              clear hb5
              go_wp2
              go_ret2
              exact ⟨some ⟨w5.heap.size, 0, none⟩, 0, 0, by rw [HG.out]; rfl, HB4.out.trans ((HB5.out.alloc HB5.out.size _).mono HB4.out.size), by rw [ofRows_off HG.out]; exact ownRows_start _ (Nat.le_trans HB4.out.size HB5.out.size)⟩
            · have HFN := Lib.hid (ofFar_hit HFAR.out HV.out h59 h20)
              obtain ⟨a, c, rfl⟩ := HO.out.formN
              have h20' : ¬ ((rowsN (fS s) m r k).length : Int) = 20 := by omega
              have h20n : (((rowsN (fS s) m r k).length : Int) == 20) = false := by rw [beq_eq_false_iff_ne]; omega
              go_wp2_with fail
              refine (rowFitsZ (k : Int) (0 : Int) _).mono ?_
              rintro e w5 ⟨rfl, hb5⟩
              rw [HE1.out]
              have HB5 := Lib.hid (HB.out.trans ((of_box hb5).mono HB.out.size))
              have HO5 := Lib.hid (HO.out.below (of_box hb5))
              obtain ⟨p0, p1⟩ := box_later hb5
              clear hb5
              go_wp2_with fail
              refine (rowList_is ⟨k, 0⟩ _).mono ?_
              rintro e w6 ⟨g6, rfl, hb6, hz6⟩
              have hb6' : Below w5.heap.size w5 w6 := hb6
              have hge6 : w5.heap.size ≤ g6 := (hz6.lt g6 rfl).1
              have HB6 := Lib.hid (HB5.out.trans (hb6.mono HB5.out.size))
              obtain ⟨xs, G, hown, hrows⟩ := HO5.out
              have HROWS := Lib.hid hrows
              have hown6 := own_below hown hb6 (Nat.le_refl _)
              have HRZ := Lib.hid (rowsIn_below hrows hb6)
              have HZ6 := Lib.hid (own_base hz6 HB5.out.size)
              have hsz6 := HB6.out.size
              have hle := rowsN_le (fS s) m r k
              clear hown hrows hz6 hb6 hb6' p0 p1
              go_wp2_with
                (at_builtin; refine wpList_append_own _ rfl _ _ 23 rfl w4.heap.size 40 i0 (.slice none 0 0) 1 24 Try.underlying23 hi hz0 hz1 hz2 rfl (by decide) _ _ _ rfl (hown6.alloc _) ⟨w6.heap.size, 0, none⟩ 1 1 [.slice (some ⟨g6, 0, none⟩) 2 2] rfl rfl ?c1 ?c2 ?c3 ?c4 ?c5 ?_)
              case c1 =>
                intro j u hj
                match j, hj with
                | 0, hj => simp at hj; subst hj; simp [Addr.add]
              case c2 => intro u hu; simp at hu; subst hu; rfl
              case c3 => unfold maxLen; omega
              case c4 => omega
              case c5 => simp; omega
              intro v' w7 hown7 hgrow _
              have hb2 : Below w6.heap.size w6 (w6.alloc (.cells #[.slice (some ⟨g6, 0, none⟩) 2 2] 40)) := (Below.refl _ _).alloc (Nat.le_refl _) _
              have R7 := Lib.hid (ownRows_snoc (z := [(k : Int), (0 : Int)]) (hown6.alloc _) (rowsIn_below HRZ.out hb2) (own_up HZ6.out _) (fun i hi => by have := (rowsIn_lt HROWS.out hi).2; omega) hown7 hgrow)
              have HB7 := Lib.hid ((HB6.out.trans (hb2.mono hsz6)).grown hgrow (by simp; omega) (fun j hj => (hown6.lt j hj).1))
              have HV2 := Lib.hid (rowsN_hit (T := m) (q := r) HV.out)
              clear hown7 hgrow hown6 hb2
              go_wp2
              go_roundw
              case rel => exact ⟨k + 1, by omega, by go_num, HB7.out, by rw [HV2.out, HZ.out]; exact R7.out, HFN.out⟩
              case measure => simp [intOf]; omega
          · exact absurd (show k ≤ 59 by omega) h59
        · have f2 : ¬ (k : Int) < (m : Int) := by omega
          have HZ : Hid (rowZ m r k = [(k : Int), (r : Int)]) := Lib.hid (by unfold rowZ; rw [if_neg hkm])
          by_cases h59 : k ≤ 59
          · have e1 : (decide ((0 : Int) ≤ (k : Int) ∧ (k : Int) ≤ 59) && decide ((0 : Int) ≤ (r : Int) ∧ (r : Int) ≤ 60)) = true := by simp; omega
            have HE1 := Lib.hid e1
            clear e1
            by_cases h20 : (rowsN (fS s) m r k).length = 20
            · have HG := Lib.hid (of_many hlt HV.out h20)
              obtain ⟨a, c, rfl⟩ := HO.out.formN
              have h20i : ((rowsN (fS s) m r k).length : Int) = 20 := by omega
              go_wp2_with fail
              refine (rowFitsZ (k : Int) (r : Int) _).mono ?_
              rintro e w5 ⟨rfl, hb5⟩
              rw [HE1.out]
              have HB5 := Lib.hid (HB.out.trans ((of_box hb5).mono HB.out.size))
              clear hb5
              go_wp2
              go_ret2
              exact ⟨some ⟨w5.heap.size, 0, none⟩, 0, 0, by rw [HG.out]; rfl, HB4.out.trans ((HB5.out.alloc HB5.out.size _).mono HB4.out.size), by rw [ofRows_off HG.out]; exact ownRows_start _ (Nat.le_trans HB4.out.size HB5.out.size)⟩
            · have HFN := Lib.hid (ofFar_hit HFAR.out HV.out h59 h20)
              obtain ⟨a, c, rfl⟩ := HO.out.formN
              have h20' : ¬ ((rowsN (fS s) m r k).length : Int) = 20 := by omega
              have h20n : (((rowsN (fS s) m r k).length : Int) == 20) = false := by rw [beq_eq_false_iff_ne]; omega
              go_wp2_with fail
              refine (rowFitsZ (k : Int) (r : Int) _).mono ?_
              rintro e w5 ⟨rfl, hb5⟩
              rw [HE1.out]
              have HB5 := Lib.hid (HB.out.trans ((of_box hb5).mono HB.out.size))
              have HO5 := Lib.hid (HO.out.below (of_box hb5))
              obtain ⟨p0, p1⟩ := box_later hb5
              clear hb5
              go_wp2_with fail
              refine (rowList_is ⟨k, r⟩ _).mono ?_
              rintro e w6 ⟨g6, rfl, hb6, hz6⟩
              have hb6' : Below w5.heap.size w5 w6 := hb6
              have hge6 : w5.heap.size ≤ g6 := (hz6.lt g6 rfl).1
              have HB6 := Lib.hid (HB5.out.trans (hb6.mono HB5.out.size))
              obtain ⟨xs, G, hown, hrows⟩ := HO5.out
              have HROWS := Lib.hid hrows
              have hown6 := own_below hown hb6 (Nat.le_refl _)
              have HRZ := Lib.hid (rowsIn_below hrows hb6)
              have HZ6 := Lib.hid (own_base hz6 HB5.out.size)
              have hsz6 := HB6.out.size
              have hle := rowsN_le (fS s) m r k
              clear hown hrows hz6 hb6 hb6' p0 p1
              go_wp2_with
                (at_builtin; refine wpList_append_own _ rfl _ _ 23 rfl w4.heap.size 40 i0 (.slice none 0 0) 1 24 Try.underlying23 hi hz0 hz1 hz2 rfl (by decide) _ _ _ rfl (hown6.alloc _) ⟨w6.heap.size, 0, none⟩ 1 1 [.slice (some ⟨g6, 0, none⟩) 2 2] rfl rfl ?c1 ?c2 ?c3 ?c4 ?c5 ?_)
              case c1 =>
                intro j u hj
                match j, hj with
                | 0, hj => simp at hj; subst hj; simp [Addr.add]
              case c2 => intro u hu; simp at hu; subst hu; rfl
              case c3 => unfold maxLen; omega
              case c4 => omega
              case c5 => simp; omega
              intro v' w7 hown7 hgrow _
              have hb2 : Below w6.heap.size w6 (w6.alloc (.cells #[.slice (some ⟨g6, 0, none⟩) 2 2] 40)) := (Below.refl _ _).alloc (Nat.le_refl _) _
              have R7 := Lib.hid (ownRows_snoc (z := [(k : Int), (r : Int)]) (hown6.alloc _) (rowsIn_below HRZ.out hb2) (own_up HZ6.out _) (fun i hi => by have := (rowsIn_lt HROWS.out hi).2; omega) hown7 hgrow)
              have HB7 := Lib.hid ((HB6.out.trans (hb2.mono hsz6)).grown hgrow (by simp; omega) (fun j hj => (hown6.lt j hj).1))
              have HV2 := Lib.hid (rowsN_hit (T := m) (q := r) HV.out)
              clear hown7 hgrow hown6 hb2
              go_wp2
              go_roundw
              case rel => exact ⟨k + 1, by omega, by go_num, HB7.out, by rw [HV2.out, HZ.out]; exact R7.out, HFN.out⟩
              case measure => simp [intOf]; omega
          · have e1 : (decide ((0 : Int) ≤ (k : Int) ∧ (k : Int) ≤ 59) && decide ((0 : Int) ≤ (r : Int) ∧ (r : Int) ≤ 60)) = false := by rw [decide_eq_false (by omega)]; rfl
            have HE1 := Lib.hid e1
            have HG := Lib.hid (of_late hq hlt HV.out h59)
            obtain ⟨a, c, rfl⟩ := HO.out.formN
            clear e1
            go_wp2_with fail
            refine (rowFitsZ (k : Int) (r : Int) _).mono ?_
            rintro e w5 ⟨rfl, hb5⟩
            rw [HE1.out]
            have HB5 := Lib.hid (HB.out.trans ((of_box hb5).mono HB.out.size))
            clear hb5
            go_wp2
            go_ret2
            exact ⟨some ⟨w5.heap.size, 0, none⟩, 0, 0, by rw [HG.out]; rfl, HB4.out.trans ((HB5.out.alloc HB5.out.size _).mono HB4.out.size), by rw [ofRows_off HG.out]; exact ownRows_start _ (Nat.le_trans HB4.out.size HB5.out.size)⟩
    · obtain rfl : k = m + r := by omega
      have HG := Lib.hid (ofFar_done hq HFAR.out)
      obtain ⟨a, c, rfl⟩ := HO.out.formN
      go_wp2
      go_ret2
      exact ⟨a, _, c, by rw [HG.out]; rfl, HB4.out.trans (HB.out.mono HB4.out.size), by rw [ofRows_on HG.out]; exact HO.out.base HB4.out.size⟩

set_option maxHeartbeats 400000 in
theorem implRowsOf_off (s : ByteArray) (g : Int) (w : World) (hs : s.size ≤ 1048576) (hL : LibAt g w) (h : okS s = false) :
    Calls Try.prog 24 #[.string s] w (RowsEnd [] false w) := by
  go_enter Try.func24, Try.ntmps24
  go_wp2_with fail
  refine (split_off s g _ hs hL h).mono ?_
  rintro e w1 ⟨rfl, hb⟩
  go_wp2
  go_ret2
  exact ⟨_, _, _, rfl, (hb.alloc hb.size _).alloc (by have := hb.size; simp; omega) _, ownRows_start2 _ _ (by have := hb.size; omega)⟩

end Go.Proofs.Ytdcedkjoligekaa
