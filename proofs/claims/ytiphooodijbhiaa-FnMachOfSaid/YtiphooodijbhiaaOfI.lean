/-
  The walk of the program's MachOf.
-/
import Derived.Test.YtiphooodijbhiaaTurnI
import Derived.Test.YtiphooodijbhiaaSetSizesI
import Derived.Test.YtiphooodijbhiaaSetHasI
import Derived.Test.YtiphooodijbhiaaToldMath
namespace Go.Proofs.Ytiphooodijbhiaa
open Go.RowKit
set_option linter.unusedVariables false

/-- The world of MachOf's loop: the result's cell, the machine's block, its sets. -/
structure OfAt (X : List Nat) (n E G D : Nat) (w wr : World) : Prop where
  res : ResM (.slice none 0 0) (.int .i64 0) (.int .i64 0) w.heap.size wr
  mach : ResM (.slice (some ⟨G, 0, none⟩) n n) (.int .i64 1) (.int .i64 E) D wr
  own : wr.ownsRow (w.heap.size + 1) 3 1 (.slice (some ⟨G, 0, none⟩) n n) n (ints (castM X))
  ge : w.heap.size < G
  ne : G < D
  below : Below w.heap.size w wr
theorem OfAt.step {X : List Nat} {n E G D : Nat} {w wr w1 : World} (h : OfAt X n E G D w wr) (hb : Below wr.heap.size wr w1) : OfAt X n E G D w w1 :=
  ⟨h.res.step hb, h.mach.step hb, own_below h.own hb (Nat.le_refl _), h.ge, h.ne, h.below.trans (hb.mono h.below.size)⟩
theorem OfAt.store {X : List Nat} {n E G D k v : Nat} {w wr : World} (h : OfAt X n E G D w wr) : OfAt (X.set k v) n E G D w (wr.setCell ⟨G, k, none⟩ (.int .i64 v)) := by
  have hg := h.ge
  have hd := h.ne
  refine ⟨h.res.other (by show w.heap.size ≠ G; omega) _, h.mach.other (by show D ≠ G; omega) _, ?_, hg, hd, h.below.setCell (by show w.heap.size ≤ G; omega) _⟩
  have := (h.own.stored k (.int .i64 v)).1
  unfold ints at this ⊢
  rw [← castM_set, List.map_set]
  exact this
theorem OfAt.ends {X : List Nat} {n E E' G D : Nat} {w wr : World} (h : OfAt X n E G D w wr) : OfAt X n E' G D w (wr.setCell ⟨D, 2, none⟩ (.int .i64 E')) := by
  have hg := h.ge
  have hd := h.ne
  exact ⟨h.res.other (by show w.heap.size ≠ D; omega) _, heap_setCell_same _ D 2 _ _ (.int .i64 E') h.mach, own_other h.own (by show G ≠ D; omega) _, hg, hd, h.below.setCell (by show w.heap.size ≤ D; omega) _⟩
theorem of_start {n : Nat} {w w1 w2 : World} (hR : ResM (.slice none 0 0) (.int .i64 0) (.int .i64 0) w.heap.size w1) (hB : Below w.heap.size w w1)
    (hown : w2.ownsRow (w.heap.size + 1) 3 1 (.slice (some ⟨w1.heap.size, 0, none⟩) n n) n (madeCells #[.int .i64 0] n).toList) (hg : w1.grownBy w2 none) (hw : w1.heap.size < w2.heap.size) :
    OfAt (ofX n 0) n 0 w1.heap.size w2.heap.size w (w2.alloc (.cells #[.slice (some ⟨w1.heap.size, 0, none⟩) n n, .int .i64 1, .int .i64 0] 25)) := by
  have hb : Below w1.heap.size w1 w2 := (Below.refl _ _).grown hg (Nat.le_refl _) (fun k hk => by cases hk)
  have hlt := lt_of_block hR
  have hb3 : Below w2.heap.size w2 (w2.alloc (.cells #[.slice (some ⟨w1.heap.size, 0, none⟩) n n, .int .i64 1, .int .i64 0] 25)) := (Below.refl _ _).alloc (Nat.le_refl _) _
  refine ⟨(hR.step hb).step hb3, heap_alloc_new w2 _, ?_, hlt, hw, (hB.trans (hb.mono (by omega))).trans (hb3.mono (by omega))⟩
  have e : (madeCells #[.int .i64 0] n).toList = ints (castM (ofX n 0)) := by
    rw [ofX_zero, made_zero []]
    unfold turnX
    rw [show ((List.range n).map fun j => if j < 0 then turnK [] j (0 + 1) else turnK [] j 0) = List.replicate n 0 from List.eq_replicate_iff.2 ⟨by simp, fun b hb => by
      obtain ⟨j, _, rfl⟩ := List.mem_map.1 hb
      rw [if_neg (Nat.not_lt_zero _)]; rfl⟩]
  rw [← e]
  exact own_below hown hb3 (Nat.le_refl _)

/-- The last set is laid, and the machine copied into the result's cell. -/
theorem of_final {X : List Nat} {n E G D k v : Nat} {w wr : World} (h : OfAt X n E G D w wr) :
    ResM (.slice (some ⟨G, 0, none⟩) n n) (.int .i64 1) (.int .i64 E) w.heap.size ((((wr.setCell ⟨G, k, none⟩ (.int .i64 ((v : Nat) : Int))).setCell ⟨w.heap.size, 0, none⟩ (.slice (some ⟨G, 0, none⟩) n n)).setCell ⟨w.heap.size, 1, none⟩ (.int .i64 1)).setCell ⟨w.heap.size, 2, none⟩ (.int .i64 E)).drew ∧
    ((((wr.setCell ⟨G, k, none⟩ (.int .i64 ((v : Nat) : Int))).setCell ⟨w.heap.size, 0, none⟩ (.slice (some ⟨G, 0, none⟩) n n)).setCell ⟨w.heap.size, 1, none⟩ (.int .i64 1)).setCell ⟨w.heap.size, 2, none⟩ (.int .i64 E)).drew.ownsRow (w.heap.size + 1) 3 1 (.slice (some ⟨G, 0, none⟩) n n) n (ints (castM (X.set k v))) ∧
    Below w.heap.size w ((((wr.setCell ⟨G, k, none⟩ (.int .i64 ((v : Nat) : Int))).setCell ⟨w.heap.size, 0, none⟩ (.slice (some ⟨G, 0, none⟩) n n)).setCell ⟨w.heap.size, 1, none⟩ (.int .i64 1)).setCell ⟨w.heap.size, 2, none⟩ (.int .i64 E)).drew := by
  have h2 := h.store (k := k) (v := v)
  exact ⟨(h2.res.stored _ _ _).step (Below.refl _ _).drew, own_below (own_three h2.own (Nat.lt_succ_self _) _ _ _) (Below.refl _ _).drew (Nat.le_refl _), (below_three h2.below (Nat.le_refl _) _ _ _).drew⟩

def OfEnd (s : ByteArray) (w : World) (e : Ending) (w' : World) : Prop := ∃ ok L t, OfIs (okS s) (fS s) ok L t ∧ MachEnd ok L (if ok then 1 else 0) t w e w'

set_option maxRecDepth 100000 in
set_option maxHeartbeats 2000000 in
theorem implOf (s : ByteArray) (m0 : Int) (w : World) (hs : s.size ≤ 1048576) (hL : LibAt m0 w) :
    Calls Try.prog 22 #[.string s] w (OfEnd s w) := by
  obtain ⟨i0, hi, hz0, hz1, hz2⟩ := info_parts Try.infoInt
  have HL0 := Lib.hid (hL.alloc (.cells #[.slice none 0 0, .int .i64 0, .int .i64 0] 25))
  have HRX := Lib.hid (resM_start w)
  have HBX := Lib.hid ((Below.refl w.heap.size w).alloc (Nat.le_refl _) (.cells #[.slice none 0 0, .int .i64 0, .int .i64 0] 25))
  have hL9 := hL
  clear hL
  cases ho : okS s
  · have HIS : Hid (OfIs (okS s) (fS s) false [] 0) := Lib.hid (And.intro (fun h => by cases h) (fun _ => ⟨rfl, rfl, fun h => by rw [ho] at h; cases h⟩))
    go_enter Try.func22, Try.ntmps22
    go_wp2_with fail
    refine (implSizes_off s m0 _ hs HL0.out ho).mono ?_
    rintro e1 w9 ⟨rfl, hb⟩
    have HR1 := Lib.hid (HRX.out.step hb)
    have HF := Lib.hid (HR1.out.stored (.slice none 0 0) (.int .i64 0) (.int .i64 0))
    have HBF := Lib.hid (below_three (R := w.heap.size) (boxed hb) (Nat.le_refl _) (.slice none 0 0) (.int .i64 0) (.int .i64 0))
    obtain ⟨x0, x1, x2, x3, x4, x5⟩ := HR1.out.cells
    clear hb ho
    go_wp2
    generalize (((w9.setCell ⟨w.heap.size, 0, none⟩ (.slice none 0 0)).setCell ⟨w.heap.size, 1, none⟩ (.int .i64 0)).setCell ⟨w.heap.size, 2, none⟩ (.int .i64 0)) = wz at HF HBF ⊢
    obtain ⟨d0, d1, d2, _⟩ := HF.out.cells
    exact bodyPost_ret (v := .tuple #[.agg #[.slice none 0 0, .int .i64 0, .int .i64 0], .bool false]) (by simp [results, Try.results22, go_sem, d0, d1, d2]) rfl ⟨false, [], 0, HIS.out, none, 0, 0, rfl, own_base (own_nil _) HBF.out.size, rfl, HBF.out⟩
  · obtain ⟨m, q, ht, hm, hq⟩ := tidy_there ho
    have HT := Lib.hid ht
    have hq0 := ht.pos
    have hZ := sizes_of ho ht
    have HPER := Lib.hid ht.per
    clear ht
    by_cases h5 : m + q ≤ 5
    · have HIS : Hid (OfIs (okS s) (fS s) true (ofL m q) (ofE (fS s) (m + q))) := Lib.hid (And.intro (fun _ => ⟨ho, m, q, HT.out, h5, rfl, rfl⟩) (fun h => by cases h))
      obtain ⟨N, hN⟩ : ∃ N, N = m + q := ⟨_, rfl⟩
      have hNI : (m : Int) + (q : Int) = (N : Int) := by omega
      have hN1 : 1 ≤ N := by omega
      have hN5 : N ≤ 5 := by omega
      have hm4 : m < N := by omega
      have HLAST : Hid ((ofX N N).set (N - 1) (2 ^ m) = ofL m q) := Lib.hid (by rw [hN]; exact ofX_last m q hq0)
      have HNN := Lib.hid hN
      have HO := Lib.hid ho
      rw [← hN] at HIS
      go_enter Try.func22, Try.ntmps22
      go_wp2_with fail
      refine (implSizes_on s m q m0 _ hs HL0.out ho hZ).mono ?_
      rintro e1 w1 ⟨rfl, hb⟩
      have HR1 := Lib.hid (HRX.out.step hb)
      have HB1 := Lib.hid (boxed hb)
      have HL1 := Lib.hid (HL0.out.below hb)
      have HL9 := Lib.hid hL9
      clear hb ho hN h5 hm hq hZ hL9
      go_wp2_with (at_make; refine wpList_make_full _ rfl _ _ 23 rfl (w.heap.size + 1) 3 i0 (.int .i64 0) 1 Try.underlying23 hi hz0 hz1 .i64 .i64 _ _ N rfl rfl rfl rfl ?b2 ?b3 ?b4 ?_)
      case b2 => rw [hz2]; omega
      case b3 => unfold maxLen; omega
      case b4 => have := HR1.out; have := lt_of_block this; omega
      intro w2 hown hgrow
      have hww : w1.heap.size < w2.heap.size := by
        rcases hown.2 with ⟨hv, _⟩ | ⟨g, cap, cur, hv, _, hh, _⟩
        · cases hv
        · have : g = w1.heap.size := by injection hv with ha; injection ha with ha; injection ha with ha; exact ha.symm
          subst this
          exact lt_of_block hh
      have HT := Lib.hid (of_start HR1.out HB1.out hown hgrow hww)
      obtain ⟨G, hG⟩ : ∃ G, G = w1.heap.size := ⟨_, rfl⟩
      obtain ⟨D, hD⟩ : ∃ D, D = w2.heap.size := ⟨_, rfl⟩
      rw [← hG] at HT ⊢
      clear hown hgrow hG hww
      rw [← hD] at HT
      have hw2 := HT
      clear hw2
      go_wp2
      rw [← hD]
      clear hD
      go_loopw [30] (fun v wr => ∃ i : Nat, v = .int .i64 i ∧ i ≤ N ∧ OfAt (ofX N i) N (ofE (fS s) i) G D w wr) (fun v _ => N - (intOf v).toNat)
      case atStart => exact ⟨0, rfl, Nat.zero_le _, HT.out⟩
      case round =>
        obtain ⟨i, rfl, hin, hl⟩ := hrel
        by_cases hlt : i < N
        · have y0 := hl.own.cellAt i (by omega)
          have y1 := hl.own.frozenAt i
          obtain ⟨y, hy⟩ : ∃ y, (ints (castM (ofX N i)))[i]? = some y := ⟨_, List.getElem?_eq_getElem (by rw [ints_length, castM_length, ofX_length]; exact hlt)⟩
          rw [hy] at y0
          obtain ⟨d0, d1, d2, d3, d4, d5⟩ := hl.mach.cells
          have b1 : (i : Int) < (N : Int) := by omega
          have b2 : (0 : Int) ≤ (i : Int) := by omega
          obtain ⟨p1, p2⟩ := pow_all (show i + 1 ≤ 5 by omega)
          obtain ⟨p3, p4⟩ := pow_all (show i ≤ 5 by omega)
          have hgd := hl.ne
          have HE := ofE_succ (fS s) i
          have hE62 := lt62 (ofE_lt (fS s) i 5 (by omega)) (by decide)
          obtain ⟨E, hE⟩ : ∃ E, E = ofE (fS s) i := ⟨_, rfl⟩
          rw [← hE] at HE hE62 d2 hl
          have HOR : Hid (Go.bits .or .i64 (E : Int) ((2 : Int) ^ i) = ((E ||| 2 ^ i : Nat) : Int)) := Lib.hid (by rw [pow_cast]; exact bit_or _ _ hE62 (lt62 (Nat.pow_lt_pow_right (by decide) (show i < 6 by omega)) (by decide)))
          have HST : Hid (OfAt (ofX N (i + 1)) N E G D w (wr.setCell ⟨G, i, none⟩ (.int .i64 ((2 : Int) ^ (i + 1)))).drew) := Lib.hid (by
            have := (hl.store (k := i) (v := 2 ^ (i + 1))).step (Below.refl _ _).drew
            rw [ofX_set, ← pow_cast] at this
            exact this)
          have HLL := Lib.hid (HL1.out)
          have HB := Lib.hid (HST.out.below)
          clear hl hy hE
          go_wp2
          go_region
          go_wp2_with fail
          refine (implSetHas s i m0 _ hs (by omega) (HL9.out.below HB.out)).mono ?_
          have hsh : setHas s (i : Int) = fS s i := by unfold setHas; rw [HO.out, Bool.true_and, hasI_nat]; rfl
          rw [hsh]
          clear hsh y0 y1 d0 d1 d2 d3 d4 d5
          rintro e1 w3 ⟨rfl, hb3⟩
          have HS3 := Lib.hid (HST.out.step hb3)
          obtain ⟨d0, d1, d2, d3, d4, d5⟩ := HS3.out.mach.cells
          clear hb3
          cases hf : fS s i
          · rw [hf] at HE
            simp only [Bool.false_eq_true, if_false] at HE
            have HE := Lib.hid HE
            clear hf
            go_wp2
            go_roundw
            case rel => exact ⟨i + 1, by go_num, by omega, by rw [HE.out]; exact HS3.out⟩
            case measure => simp [intOf]; omega
          · rw [hf] at HE
            simp only [if_true] at HE
            have HE := Lib.hid HE
            have HEN := Lib.hid ((HS3.out.ends (E' := E ||| 2 ^ i)).step (Below.refl _ _).drew)
            clear hf
            go_wp2
            go_region
            rw [HOR.out]
            go_wp2
            go_roundw
            case rel => exact ⟨i + 1, by go_num, by omega, by rw [HE.out]; exact HEN.out⟩
            case measure => simp [intOf]; omega
        · obtain rfl : i = N := by omega
          have y0 := hl.own.cellAt (i - 1) (by omega)
          have y1 := hl.own.frozenAt (i - 1)
          obtain ⟨y, hy⟩ : ∃ y, (ints (castM (ofX i i)))[i - 1]? = some y := ⟨_, List.getElem?_eq_getElem (by rw [ints_length, castM_length, ofX_length]; omega)⟩
          rw [hy] at y0
          obtain ⟨d0, d1, d2, d3, d4, d5⟩ := hl.mach.cells
          obtain ⟨x0, x1, x2, x3, x4, x5⟩ := hl.res.cells
          have hgd := hl.ne
          have hge := hl.ge
          have g1 : ((i : Int) - 1).toNat = i - 1 := by omega
          have g2 : (0 : Int) ≤ (i : Int) - 1 := by omega
          have g3 : (i : Int) - 1 < (i : Int) := by omega
          obtain ⟨p1, p2⟩ := pow_all (show m ≤ 5 by omega)
          have HFI := Lib.hid (of_final (k := i - 1) (v := 2 ^ m) hl)
          rw [HLAST.out, ← pow_cast] at HFI
          obtain ⟨E, hE⟩ : ∃ E, E = ofE (fS s) i := ⟨_, rfl⟩
          rw [← hE] at HFI d2 HIS
          clear hl hy hE
          go_wp2
          go_region
          go_wp2
          generalize ((((wr.setCell ⟨G, i - 1, none⟩ (.int .i64 ((2 : Int) ^ m))).setCell ⟨w.heap.size, 0, none⟩ (.slice (some ⟨G, 0, none⟩) i i)).setCell ⟨w.heap.size, 1, none⟩ (.int .i64 1)).setCell ⟨w.heap.size, 2, none⟩ (.int .i64 E)).drew = wz at HFI ⊢
          obtain ⟨r1, r2, r3⟩ := HFI.out
          obtain ⟨e0, e1, e2, _⟩ := r1.cells
          exact bodyPost_ret (v := .tuple #[.agg #[.slice (some ⟨G, 0, none⟩) i i, .int .i64 1, .int .i64 E], .bool true]) (by simp [results, Try.results22, go_sem, e0, e1, e2]) rfl ⟨true, _, _, HIS.out, some ⟨G, 0, none⟩, i, i, rfl, own_base r2 (by omega), by rw [ofL_length, ← HNN.out], r3⟩
    · have HIS : Hid (OfIs (okS s) (fS s) false [] 0) := Lib.hid (And.intro (fun h => by cases h) (fun _ => ⟨rfl, rfl, fun _ => ⟨m, q, HT.out, by omega⟩⟩))
      go_enter Try.func22, Try.ntmps22
      go_wp2_with fail
      refine (implSizes_on s m q m0 _ hs HL0.out ho hZ).mono ?_
      rintro e1 w9 ⟨rfl, hb⟩
      have HR1 := Lib.hid (HRX.out.step hb)
      have HF := Lib.hid (HR1.out.stored (.slice none 0 0) (.int .i64 0) (.int .i64 0))
      have HBF := Lib.hid (below_three (R := w.heap.size) (boxed hb) (Nat.le_refl _) (.slice none 0 0) (.int .i64 0) (.int .i64 0))
      obtain ⟨x0, x1, x2, x3, x4, x5⟩ := HR1.out.cells
      clear hb ho
      go_wp2
      generalize (((w9.setCell ⟨w.heap.size, 0, none⟩ (.slice none 0 0)).setCell ⟨w.heap.size, 1, none⟩ (.int .i64 0)).setCell ⟨w.heap.size, 2, none⟩ (.int .i64 0)) = wz at HF HBF ⊢
      obtain ⟨d0, d1, d2, _⟩ := HF.out.cells
      exact bodyPost_ret (v := .tuple #[.agg #[.slice none 0 0, .int .i64 0, .int .i64 0], .bool false]) (by simp [results, Try.results22, go_sem, d0, d1, d2]) rfl ⟨false, [], 0, HIS.out, none, 0, 0, rfl, own_base (own_nil _) HBF.out.size, rfl, HBF.out⟩

end Go.Proofs.Ytiphooodijbhiaa
