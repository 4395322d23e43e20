/-
  The walk of the model's RowsOf.
-/
import Derived.Test.YtdcedkjoligekaaRowsOfTold
import Derived.Test.YtdcedkjoligekaaReadLess
import Derived.Test.YtdcedkjoligekaaHasS
import Derived.Test.YtdcedkjoligekaaRowsS
import Derived.Test.YtdcedkjoligekaaDrawRows
import Derived.Test.YtdcedkjoligekaaToldMath
import Derived.Maps.AppendAt
namespace Go.Proofs.Ytdcedkjoligekaa
open Go.RowKit
set_option linter.unusedVariables false

/-- A slice of the call's own grows: it lies in the block g0, or behind all that was there. -/
structure OfOut (W0 wr : World) (g0 : Nat) (u : Value) : Prop where
  size : W0.heap.size ≤ wr.heap.size
  same : ∀ j, j < W0.heap.size → j ≠ g0 → wr.heap[j]? = W0.heap[j]?
  lies : ∀ g, u.ownBlock = some g → g = g0 ∨ W0.heap.size ≤ g
theorem OfOut.start (W0 : World) (g0 n c : Nat) : OfOut W0 W0 g0 (.slice (some ⟨g0, 0, none⟩) n c) :=
  ⟨Nat.le_refl _, fun _ _ _ => rfl, fun g h => by injection h with h; exact .inl h.symm⟩
theorem OfOut.below {W0 wr w3 : World} {g0 : Nat} {u : Value} (h : OfOut W0 wr g0 u) (hb : Below wr.heap.size wr w3) : OfOut W0 w3 g0 u :=
  ⟨Nat.le_trans h.size hb.size, fun j hj hn => (hb.block j (Nat.lt_of_lt_of_le hj h.size)).trans (h.same j hj hn), h.lies⟩
theorem OfOut.grown {W0 wr w4 : World} {g0 : Nat} {u v : Value} (h : OfOut W0 wr g0 u) (hg : wr.grownBy w4 u.ownBlock) (hv : v.ownBlock = u.ownBlock ∨ v.ownBlock = some wr.heap.size) : OfOut W0 w4 g0 v := by
  refine ⟨Nat.le_trans h.size hg.size, fun j hj hn => ?_, fun g hgg => ?_⟩
  · rw [hg.block j (Nat.lt_of_lt_of_le hj h.size) (fun e => ?_)]
    · exact h.same j hj hn
    · rcases h.lies j e.symm with k | k
      · exact hn k
      · omega
  · rcases hv with hv | hv
    · exact h.lies g (hv ▸ hgg)
    · rw [hv] at hgg
      injection hgg with hgg
      right; have := h.size; omega
theorem OfOut.cell {W0 wr : World} {g0 : Nat} {u : Value} (h : OfOut W0 wr g0 u) {T : TypeId} (h0 : W0.heap[g0]? = some (.cells #[] T (0, 0))) {a : Addr} {v : Value} (hc : W0.cell? a = some v) : wr.cell? a = some v := by
  refine (World.cell?_of_block (h.same a.block (World.block_lt_of_cell? W0 a hc) fun e => ?_)).trans hc
  rw [← e] at h0
  simp [World.cell?, h0] at hc
theorem OfOut.reads {W0 wr : World} {g0 : Nat} {u : Value} (h : OfOut W0 wr g0 u) {T : TypeId} (h0 : W0.heap[g0]? = some (.cells #[] T (0, 0))) {a : Option Addr} {n : Nat} {bs : List Bool} (hr : Reads W0 a n bs) : Reads wr a n bs := by
  refine ⟨hr.len, ?_⟩
  rcases hr.cells with k | ⟨g, o, ha, hg, hc⟩
  · exact .inl k
  · exact .inr ⟨g, o, ha, Nat.lt_of_lt_of_le hg h.size, fun i hi => h.cell h0 (hc i hi)⟩
theorem of_cells (w : World) (u v : Value) (T : TypeId) : (w.alloc (.cells #[u, v] T)).cell? ⟨w.heap.size, 0, none⟩ = some u ∧ (w.alloc (.cells #[u, v] T)).cell? ⟨w.heap.size, 1, none⟩ = some v := by
  constructor <;> go_simp
theorem of_below1 {w w1 w2 : World} {o o1 : Obj} (hb : Below (w.alloc o).heap.size (w.alloc o) w1) (hb2 : Below (w1.alloc o1).heap.size (w1.alloc o1) w2) (o2 : Obj) : Below (w.alloc o).heap.size (w.alloc o) (w2.alloc o2) := by
  have h1 := hb.size
  have h2 := hb2.size
  have k2 : Below (w.alloc o).heap.size (w.alloc o) w2 := (hb.alloc h1 o1).trans (hb2.mono (Nat.le_trans h1 (by simp)))
  exact k2.alloc k2.size _
theorem of_below {w w1 w2 : World} {o o1 : Obj} (hb : Below (w.alloc o).heap.size (w.alloc o) w1) (hb2 : Below (w1.alloc o1).heap.size (w1.alloc o1) w2) (o2 : Obj) : Below w.heap.size w (w2.alloc o2) :=
  ((Below.refl _ _).alloc (Nat.le_refl _) o).trans ((of_below1 hb hb2 o2).mono (by simp))
theorem of_first {w w1 w2 : World} {T : TypeId} {o1 : Obj} (hb : Below (w.alloc (.cells #[] T)).heap.size (w.alloc (.cells #[] T)) w1) (hb2 : Below (w1.alloc o1).heap.size (w1.alloc o1) w2) (o2 : Obj) : (w2.alloc o2).heap[w.heap.size]? = some (.cells #[] T (0, 0)) :=
  ((of_below1 hb hb2 o2).block w.heap.size (by simp)).trans (heap_alloc_new w _)

set_option maxRecDepth 100000 in
set_option maxHeartbeats 1000000 in
theorem specRowsOf_on (s : ByteArray) (T q : Nat) (w : World) (hs : s.size ≤ 1048576) (hok : okS s = true) (hT : Tidy (fS s) T q) (hm : T ≤ 60) (hq : q ≤ 60) :
    Calls Try.prog 25 #[.string s] w (RowsEnd (ofRows (fS s) T q) (okOf (fS s) T q) w) := by
  obtain ⟨i0, hi, hz0, hz1, hz2⟩ := info_parts Try.infoInts
  have HT := Lib.hid hT
  clear hT
  go_enter Try.func25, Try.ntmps25
  go_wp2_with fail
  refine (read_less s _ hs hok).mono ?_
  rintro e w1 ⟨a1, n1, c1, a2, n2, c2, rfl, hb, hin⟩
  have HIn := Lib.hid (hin.below (B := w1.heap.size) ((Below.refl _ _).alloc (Nat.le_refl _) (.cells #[.slice a1 n1 c1, .slice a2 n2 c2] 83)) (Nat.le_refl _))
  clear hin
  go_wp2_with fail
  refine (less_on s a1 n1 c1 a2 n2 c2 _ HIn.out).mono ?_
  rintro e w2 ⟨b1, m, e1, b2, r, e2, rfl, hb2, hout⟩
  obtain ⟨rfl, rfl⟩ := tidy_unique hout.tidy HT.out
  have HBW := Lib.hid (of_below hb hb2 (.cells #[.slice b1 m e1, .slice b2 r e2] 83))
  have H0W := Lib.hid (of_first hb hb2 (.cells #[.slice b1 m e1, .slice b2 r e2] 83))
  have HLW : Hid (LessIn (w2.alloc (.cells #[.slice b1 m e1, .slice b2 r e2] 83)) (part (fS s) 0 m) (part (fS s) m r) b1 m e1 b2 r e2) := Lib.hid (hout.lies.below ((Below.refl _ _).alloc (Nat.le_refl _) _) (Nat.le_refl _))
  have HCW := Lib.hid (of_cells w2 (.slice b1 m e1) (.slice b2 r e2) 83)
  have HOW := Lib.hid ((ownRows_start w (Nat.le_refl _)).below (of_below1 hb hb2 (.cells #[.slice b1 m e1, .slice b2 r e2] 83)))
  clear hout hb hb2
  go_wp2
  go_loopw [4, 9] (fun u i wr => ∃ k : Nat, k ≤ m + r ∧ i = .int .i64 k ∧ Below w.heap.size w wr ∧ OfOut (w2.alloc (.cells #[.slice b1 m e1, .slice b2 r e2] 83)) wr w.heap.size u ∧ OwnRows wr w.heap.size u (rowsN (fS s) m r k))
    (fun _ i _ => m + r - (intOf i).toNat)
  case atStart => exact ⟨0, Nat.zero_le _, rfl, HBW.out, OfOut.start _ _ _ _, HOW.out⟩
  case round =>
    obtain ⟨k, hk, rfl, hB, hF, hR⟩ := hrel
    have q0 := hF.cell H0W.out HCW.out.1
    have q1 := hF.cell H0W.out HCW.out.2
    have HRD := Lib.hid (hF.reads H0W.out HLW.out.tail)
    have HRD2 := Lib.hid (hF.reads H0W.out HLW.out.ring)
    have HPOS := Lib.hid HLW.out.pos
    have HF := Lib.hid hF
    have HB := Lib.hid hB
    have HR := Lib.hid hR
    have w1' : IntKind.i64.wrap ((m : Int) + (r : Int)) = (m : Int) + (r : Int) := by rw [IntWalk.i64_in _ (by omega)]
    clear hF hB hR
    by_cases hlt : k < m + r
    · have f1 : (k : Int) < (m : Int) + (r : Int) := by omega
      cases hv : fS s k
      · have HV := Lib.hid hv
        have HQ : Hid (hasB (part (fS s) 0 m) (part (fS s) m r) k = false) := Lib.hid (by rw [fS_part HT.out]; exact hv)
        clear hv
        go_wp2_with fail
        refine (l1Has_any b1 b2 m e1 r e2 _ _ k _ HRD.out HRD2.out (by omega) (by omega) HPOS.out (by omega)).mono ?_
        rintro e w3 ⟨rfl, hb3⟩
        rw [HQ.out]
        have HB3 := Lib.hid hb3
        clear hb3
        go_wp2
        go_roundw
        case rel => exact ⟨k + 1, by omega, by go_num, HB.out.trans (HB3.out.mono HB.out.size), HF.out.below HB3.out, by rw [rowsN_miss HV.out]; exact HR.out.below HB3.out⟩
        case measure => simp [intOf]; omega
      · have HV := Lib.hid hv
        have HQ : Hid (hasB (part (fS s) 0 m) (part (fS s) m r) k = true) := Lib.hid (by rw [fS_part HT.out]; exact hv)
        clear hv
        go_wp2_with fail
        refine (l1Has_any b1 b2 m e1 r e2 _ _ k _ HRD.out HRD2.out (by omega) (by omega) HPOS.out (by omega)).mono ?_
        rintro e w3 ⟨rfl, hb3⟩
        rw [HQ.out]
        have HB3 := Lib.hid (HB.out.trans (hb3.mono HB.out.size))
        have HF3 := Lib.hid (HF.out.below hb3)
        have HR3 := Lib.hid (HR.out.below hb3)
        have q2 := HF3.out.cell H0W.out HCW.out.1
        have q3 := HF3.out.cell H0W.out HCW.out.2
        clear hb3 q0 q1
        by_cases hkm : k < m
        · have f2 : (k : Int) < (m : Int) := by omega
          have hgoodz : Hid (rowZ m r k = [(k : Int), (0 : Int)]) := Lib.hid (by unfold rowZ; rw [if_pos hkm])
          obtain ⟨xs, G, hown, hrows⟩ := HR3.out
          have HROWS := Lib.hid hrows
          have hsz3 := HB3.out.size
          have hz := own_lits2 w3 [(k : Int), (0 : Int)] w3.heap.size w.heap.size rfl hsz3 (by show 2 ≤ maxLen; decide)
          have HZ := Lib.hid hz
          have hbz : Below w3.heap.size w3 (w3.alloc (.cells #[.int .i64 k, .int .i64 (0 : Int)] 3)) := (Below.refl _ _).alloc (Nat.le_refl _) _
          have hownz := own_below hown hbz (Nat.le_refl _)
          have HRZ := Lib.hid (rowsIn_below hrows hbz)
          have hle := rowsN_le (fS s) m r k
          clear hown hrows hz hbz
          go_wp2_with
            (at_builtin; refine wpList_append_own_at _ rfl _ _ 23 rfl w.heap.size 40 i0 (.slice none 0 0) 1 24 Try.underlying23 hi hz0 hz1 hz2 rfl (by decide) _ _ _ rfl (hownz.alloc _) ⟨w3.heap.size + 1, 0, none⟩ 1 1 [.slice (some ⟨w3.heap.size, 0, none⟩) 2 2] rfl rfl ?c1 ?c2 ?c3 ?c4 ?c5 ?_)
          case c1 =>
            intro j u hj
            match j, hj with
            | 0, hj => simp at hj; subst hj; simp [Addr.add]
          case c2 => intro u hu; simp at hu; subst hu; rfl
          case c3 => unfold maxLen; omega
          case c4 => omega
          case c5 => simp; omega
          intro v' w4 hown4 hgrow _ hlie
          have hb2 : Below w3.heap.size w3 ((w3.alloc (.cells #[.int .i64 k, .int .i64 (0 : Int)] 3)).alloc (.cells #[.slice (some ⟨w3.heap.size, 0, none⟩) 2 2] 40)) := ((Below.refl _ _).alloc (Nat.le_refl _) _).alloc (by simp) _
          have R4 := Lib.hid (ownRows_snoc (z := [(k : Int), (0 : Int)]) (hownz.alloc _) (rowsIn_below HRZ.out ((Below.refl _ _).alloc (Nat.le_refl _) _)) (own_up HZ.out _) (fun i hi => (rowsIn_lt HROWS.out hi).2) hown4 hgrow)
          have HF4 := Lib.hid ((HF3.out.below hb2).grown hgrow (by simpa using hlie))
          have HB4 := Lib.hid ((HB3.out.trans (hb2.mono hsz3)).grown hgrow (by simp; omega) (fun j hj => (hownz.lt j hj).1))
          have HV2 := Lib.hid (rowsN_hit (T := m) (q := r) HV.out)
          clear hown4 hgrow hownz hb2 hlie q2 q3
          go_wp2
          go_roundw
          case rel => exact ⟨k + 1, by omega, by go_num, HB4.out, HF4.out, by rw [HV2.out, hgoodz.out]; exact R4.out⟩
          case measure => simp [intOf]; omega
        · have f2 : ¬ (k : Int) < (m : Int) := by omega
          have hgoodz : Hid (rowZ m r k = [(k : Int), (r : Int)]) := Lib.hid (by unfold rowZ; rw [if_neg hkm])
          obtain ⟨xs, G, hown, hrows⟩ := HR3.out
          have HROWS := Lib.hid hrows
          have hsz3 := HB3.out.size
          have hz := own_lits2 w3 [(k : Int), (r : Int)] w3.heap.size w.heap.size rfl hsz3 (by show 2 ≤ maxLen; decide)
          have HZ := Lib.hid hz
          have hbz : Below w3.heap.size w3 (w3.alloc (.cells #[.int .i64 k, .int .i64 (r : Int)] 3)) := (Below.refl _ _).alloc (Nat.le_refl _) _
          have hownz := own_below hown hbz (Nat.le_refl _)
          have HRZ := Lib.hid (rowsIn_below hrows hbz)
          have hle := rowsN_le (fS s) m r k
          clear hown hrows hz hbz
          go_wp2_with
            (at_builtin; refine wpList_append_own_at _ rfl _ _ 23 rfl w.heap.size 40 i0 (.slice none 0 0) 1 24 Try.underlying23 hi hz0 hz1 hz2 rfl (by decide) _ _ _ rfl (hownz.alloc _) ⟨w3.heap.size + 1, 0, none⟩ 1 1 [.slice (some ⟨w3.heap.size, 0, none⟩) 2 2] rfl rfl ?c1 ?c2 ?c3 ?c4 ?c5 ?_)
          case c1 =>
            intro j u hj
            match j, hj with
            | 0, hj => simp at hj; subst hj; simp [Addr.add]
          case c2 => intro u hu; simp at hu; subst hu; rfl
          case c3 => unfold maxLen; omega
          case c4 => omega
          case c5 => simp; omega
          intro v' w4 hown4 hgrow _ hlie
          have hb2 : Below w3.heap.size w3 ((w3.alloc (.cells #[.int .i64 k, .int .i64 (r : Int)] 3)).alloc (.cells #[.slice (some ⟨w3.heap.size, 0, none⟩) 2 2] 40)) := ((Below.refl _ _).alloc (Nat.le_refl _) _).alloc (by simp) _
          have R4 := Lib.hid (ownRows_snoc (z := [(k : Int), (r : Int)]) (hownz.alloc _) (rowsIn_below HRZ.out ((Below.refl _ _).alloc (Nat.le_refl _) _)) (own_up HZ.out _) (fun i hi => (rowsIn_lt HROWS.out hi).2) hown4 hgrow)
          have HF4 := Lib.hid ((HF3.out.below hb2).grown hgrow (by simpa using hlie))
          have HB4 := Lib.hid ((HB3.out.trans (hb2.mono hsz3)).grown hgrow (by simp; omega) (fun j hj => (hownz.lt j hj).1))
          have HV2 := Lib.hid (rowsN_hit (T := m) (q := r) HV.out)
          clear hown4 hgrow hownz hb2 hlie q2 q3
          go_wp2
          go_roundw
          case rel => exact ⟨k + 1, by omega, by go_num, HB4.out, HF4.out, by rw [HV2.out, hgoodz.out]; exact R4.out⟩
          case measure => simp [intOf]; omega
    · obtain rfl : k = m + r := by omega
      obtain ⟨a, c, rfl⟩ := HR.out.formN
      obtain ⟨-, hrd⟩ := HR.out.reads
      have hle := rowsN_le (fS s) m r (m + r)
      have hc := l3Rows_is a (rowsN (fS s) m r (m + r)).length c _ wr hrd (by omega) (rowsN_short _ _ _ _)
      rw [show goodRows (rowsN (fS s) m r (m + r)) = okOf (fS s) m r from rfl] at hc
      have HC := Lib.hid hc
      clear hrd hc
      cases hg : okOf (fS s) m r
      · have HG := Lib.hid hg
        clear hg
        go_wp2_with fail
        refine HC.out.mono ?_
        rintro e w3 ⟨rfl, rfl⟩
        rw [HG.out]
        go_wp2
        go_ret2
        exact ⟨some ⟨wr.heap.size, 0, none⟩, 0, 0, by rw [HG.out]; rfl, HB.out.alloc HB.out.size _, by rw [ofRows_off HG.out]; exact ownRows_start _ HB.out.size⟩
      · have HG := Lib.hid hg
        clear hg
        go_wp2_with fail
        refine HC.out.mono ?_
        rintro e w3 ⟨rfl, rfl⟩
        rw [HG.out]
        go_wp2
        go_ret2
        exact ⟨a, _, c, by rw [HG.out]; rfl, HB.out, by rw [ofRows_on HG.out]; exact HR.out⟩

set_option maxHeartbeats 400000 in
theorem specRowsOf_off (s : ByteArray) (w : World) (hs : s.size ≤ 1048576) (hok : okS s = false) :
    Calls Try.prog 25 #[.string s] w (RowsEnd [] false w) := by
  go_enter Try.func25, Try.ntmps25
  go_wp2_with fail
  refine (read_off s _ hs hok).mono ?_
  rintro e w1 ⟨a1, n1, c1, a2, n2, c2, rfl, hb⟩
  have HO := Lib.hid ((ownRows_start w (Nat.le_refl _)).below (hb.alloc hb.size (.cells #[.slice a1 n1 c1, .slice a2 n2 c2] 83)))
  have HB := Lib.hid (((Below.refl w.heap.size w).alloc (Nat.le_refl _) (.cells #[] 40)).trans ((hb.alloc hb.size (.cells #[.slice a1 n1 c1, .slice a2 n2 c2] 83)).mono (by simp)))
  clear hb
  go_wp2
  go_ret2
  exact ⟨_, _, _, rfl, HB.out, HO.out⟩
end Go.Proofs.Ytdcedkjoligekaa
