/-
  The walk of the model's MachTurn.
-/
import Derived.Test.YtjaifkpmhcekcaaMachS
import Derived.Test.YtjaifkpmhcekcaaMachRes
import Derived.Deep.OwnRows
namespace Go.Proofs.Ytjaifkpmhcekcaa
open Go.RowKit
set_option linter.unusedVariables false

/-- The world of the model's MachTurn: the machine's box, the result's cell, the turned machine and its sets. -/
structure TurnS (a : Option Addr) (n c : Nat) (b e : Int) (X : List Nat) (G D : Nat) (w wr : World) : Prop where
  box : BoxM a n c b e w.heap.size w wr
  res : ResM (.slice none 0 0) (.int .i64 0) (.int .i64 0) (w.heap.size + 1) wr
  mach : ResM (.slice (some ⟨G, 0, none⟩) n n) (.int .i64 e) (.int .i64 b) D wr
  own : wr.ownsRow (w.heap.size + 1 + 1) 3 1 (.slice (some ⟨G, 0, none⟩) n n) n (ints (castM X))
  ge : w.heap.size + 1 < G
  ge2 : w.heap.size + 1 < D
  ne : G ≠ D
theorem TurnS.step {a : Option Addr} {n c G D : Nat} {b e : Int} {X : List Nat} {w wr w1 : World} (h : TurnS a n c b e X G D w wr) (hb : Below wr.heap.size wr w1) : TurnS a n c b e X G D w w1 :=
  ⟨h.box.step hb, h.res.step hb, h.mach.step hb, own_below h.own hb (Nat.le_refl _), h.ge, h.ge2, h.ne⟩
theorem TurnS.store {a : Option Addr} {n c : Nat} {b e : Int} {X : List Nat} {G D k v : Nat} {w wr : World} (h : TurnS a n c b e X G D w wr) : TurnS a n c b e (X.set k v) G D w (wr.setCell ⟨G, k, none⟩ (.int .i64 v)) := by
  have hg := h.ge
  refine ⟨h.box.store (by show w.heap.size < G; omega) _, h.res.other (by show w.heap.size + 1 ≠ G; omega) _, h.mach.other (by exact fun ee => h.ne ee.symm) _, ?_, hg, h.ge2, h.ne⟩
  have := (h.own.stored k (.int .i64 v)).1
  unfold ints at this ⊢
  rw [← castM_set, List.map_set]
  exact this
theorem made_own {base : Nat} (w : World) (n : Nat) (hb : base ≤ w.heap.size) (hn : n ≤ 1000000) : (w.alloc (.cells (madeCells #[.int .i64 0] n) 3)).ownsRow base 3 1 (.slice (some ⟨w.heap.size, 0, none⟩) n n) n (ints (castM (turnX [] n 0 0))) := by
  refine ⟨by rw [ints_length, castM_length, turnX_length, Nat.mul_one], .inr ⟨w.heap.size, n, _, rfl, hb, heap_alloc_new w _, Nat.le_refl _, by unfold maxLen; omega, by rw [size_madeCells, Nat.mul_one], ?_⟩⟩
  rw [made_zero []]
  exact List.take_of_length_le (by rw [ints_length, castM_length, turnX_length]; omega)
theorem turnX_same (l : List Nat) (n : Nat) : turnX l n 0 0 = turnX [] n 0 0 := by
  unfold turnX
  apply List.map_congr_left
  intro j _
  rw [if_neg (Nat.not_lt_zero _), if_neg (Nat.not_lt_zero _)]; rfl
theorem turnS_a {a : Option Addr} {n c : Nat} {b e : Int} (l : List Nat) {w w1 : World} (hB : BoxM a n c b e w.heap.size w w1) (hR : ResM (.slice none 0 0) (.int .i64 0) (.int .i64 0) (w.heap.size + 1) w1) (hn : n ≤ 1000000) :
    TurnS a n c b e (turnX l n 0 0) w1.heap.size (w1.heap.size + 1) w ((w1.alloc (.cells (madeCells #[.int .i64 0] n) 3)).alloc (.cells #[.slice (some ⟨w1.heap.size, 0, none⟩) n n, .int .i64 e, .int .i64 b] 25)).drew := by
  have hl := lt_of_block hR
  have b1 : Below w1.heap.size w1 (w1.alloc (.cells (madeCells #[.int .i64 0] n) 3)) := (Below.refl _ _).alloc (Nat.le_refl _) _
  have b2 : Below (w1.alloc (.cells (madeCells #[.int .i64 0] n) 3)).heap.size (w1.alloc (.cells (madeCells #[.int .i64 0] n) 3)) ((w1.alloc (.cells (madeCells #[.int .i64 0] n) 3)).alloc (.cells #[.slice (some ⟨w1.heap.size, 0, none⟩) n n, .int .i64 e, .int .i64 b] 25)).drew := ((Below.refl _ _).alloc (Nat.le_refl _) _).drew
  refine ⟨(hB.step b1).step b2, (hR.step b1).step b2, ?_, ?_, hl, by omega, by omega⟩
  · have := heap_alloc_new (w1.alloc (.cells (madeCells #[.int .i64 0] n) 3)) (.cells #[.slice (some ⟨w1.heap.size, 0, none⟩) n n, .int .i64 e, .int .i64 b] 25)
    rw [World.size_alloc] at this
    exact this
  · rw [turnX_same]
    exact own_below (made_own w1 n hl hn) b2 (Nat.le_refl _)
theorem turnS_b {a : Option Addr} {n c : Nat} {b e : Int} (l : List Nat) {w w1 : World} (hB : BoxM a n c b e w.heap.size w w1) (hR : ResM (.slice none 0 0) (.int .i64 0) (.int .i64 0) (w.heap.size + 1) w1) (hn : n ≤ 1000000) :
    TurnS a n c b e (turnX l n 0 0) (w1.heap.size + 1) w1.heap.size w ((w1.alloc (.cells #[.slice (some ⟨w1.heap.size + 1, 0, none⟩) n n, .int .i64 e, .int .i64 b] 25)).alloc (.cells (madeCells #[.int .i64 0] n) 3)).drew := by
  have hl := lt_of_block hR
  have b1 : Below w1.heap.size w1 (w1.alloc (.cells #[.slice (some ⟨w1.heap.size + 1, 0, none⟩) n n, .int .i64 e, .int .i64 b] 25)) := (Below.refl _ _).alloc (Nat.le_refl _) _
  have b2 : Below (w1.alloc (.cells #[.slice (some ⟨w1.heap.size + 1, 0, none⟩) n n, .int .i64 e, .int .i64 b] 25)).heap.size (w1.alloc (.cells #[.slice (some ⟨w1.heap.size + 1, 0, none⟩) n n, .int .i64 e, .int .i64 b] 25)) ((w1.alloc (.cells #[.slice (some ⟨w1.heap.size + 1, 0, none⟩) n n, .int .i64 e, .int .i64 b] 25)).alloc (.cells (madeCells #[.int .i64 0] n) 3)).drew := ((Below.refl _ _).alloc (Nat.le_refl _) _).drew
  refine ⟨(hB.step b1).step b2, (hR.step b1).step b2, ?_, ?_, by omega, hl, by omega⟩
  · exact (b2.block _ (by simp)).trans (heap_alloc_new w1 _)
  · rw [turnX_same]
    have := made_own (base := w.heap.size + 1 + 1) (w1.alloc (.cells #[.slice (some ⟨w1.heap.size + 1, 0, none⟩) n n, .int .i64 e, .int .i64 b] 25)) n (by simp; omega) hn
    rw [World.size_alloc] at this
    exact this

set_option maxRecDepth 100000 in
set_option maxHeartbeats 2000000 in
theorem specTurn (a : Option Addr) (n c : Nat) (zs : List Int) (b e : Int) (w : World) (h : ReadsI w a n zs) (hn : n ≤ 1048576) :
    Calls Try.prog 30 #[.agg #[.slice a n c, .int .i64 b, .int .i64 e]] w (MachEnd (okM zs b e) (if okM zs b e then turnL (natsM zs) else []) (if okM zs b e then e.toNat else 0) (if okM zs b e then b.toNat else 0) w) := by
  obtain ⟨i0, hi, hz0, hz1, hz2⟩ := info_parts Try.infoInt
  have H := Lib.hid ((h.alloc (.cells #[.slice a n c, .int .i64 b, .int .i64 e] 25)).alloc (.cells #[.slice none 0 0, .int .i64 0, .int .i64 0] 25))
  have HBX := Lib.hid ((boxM_start a n c b e w 25).step ((Below.refl _ _).alloc (Nat.le_refl _) (.cells #[.slice none 0 0, .int .i64 0, .int .i64 0] 25)))
  have hr0 := resM_start (w.alloc (.cells #[.slice a n c, .int .i64 b, .int .i64 e] 25))
  rw [World.size_alloc] at hr0
  have HRX := Lib.hid hr0
  have HR0 := Lib.hid h
  clear h hr0
  cases ho : okM zs b e
  · simp only [Bool.false_eq_true, if_false]
    go_enter Try.func30, Try.ntmps30
    go_wp2_with fail
    refine (specIn a n c zs b e _ H.out hn).mono ?_
    rw [ho]
    rintro e1 w1 ⟨rfl, hb⟩
    have HB1 := Lib.hid (HBX.out.step hb)
    have HR1 := Lib.hid (HRX.out.step hb)
    obtain ⟨x0, x1, x2, x3, x4, x5⟩ := HR1.out.cells
    have HF := Lib.hid (HR1.out.stored (.slice none 0 0) (.int .i64 0) (.int .i64 0))
    have HBF := Lib.hid (below_three (R := w.heap.size + 1) HB1.out.below (by omega) (.slice none 0 0) (.int .i64 0) (.int .i64 0))
    clear hb ho
    go_wp2
    generalize (((w1.setCell ⟨w.heap.size + 1, 0, none⟩ (.slice none 0 0)).setCell ⟨w.heap.size + 1, 1, none⟩ (.int .i64 0)).setCell ⟨w.heap.size + 1, 2, none⟩ (.int .i64 0)) = w9 at HF HBF ⊢
    obtain ⟨d0, d1, d2, _⟩ := HF.out.cells
    exact bodyPost_ret (v := .tuple #[.agg #[.slice none 0 0, .int .i64 0, .int .i64 0], .bool false]) (by simp [results, Try.results30, go_sem, d0, d1, d2]) rfl ⟨none, 0, 0, rfl, own_base (own_nil _) HBF.out.size, rfl, HBF.out⟩
  · obtain ⟨l, n', s, t, rfl, hl, rfl, rfl, hg⟩ := okM_good ho
    have hnn : n' = n := by rw [← hl]; exact HR0.out.len
    subst hnn
    simp only [if_true, natsM_cast, toNat_cast]
    have HG := Lib.hid hg
    have hn5 := hg.le
    clear hg
    go_enter Try.func30, Try.ntmps30
    go_wp2_with fail
    refine (specIn a n' c (castM l) s t _ H.out hn).mono ?_
    rw [ho]
    rintro e1 w1 ⟨rfl, hb⟩
    have HB1 := Lib.hid (HBX.out.step hb)
    have HR1 := Lib.hid (HRX.out.step hb)
    have q0 := HB1.out.q0
    have q1 := HB1.out.q1
    have q2 := HB1.out.q2
    have hmk := run_make_row (P := Try.prog) 23 3 i0 (.int .i64 0) Try.underlying23 hi hz0 hz1 rfl .i64 .i64 n' (by rw [hz2]; omega) (by omega)
    have hsz := HB1.out.lt
    clear hb ho
    go_wp2
    go_region
    have HT := Lib.hid (turnS_a l HB1.out HR1.out (show n' ≤ 1000000 by omega))
    generalize ((w1.alloc (.cells (madeCells #[.int .i64 0] n') 3)).alloc (.cells #[.slice (some ⟨w1.heap.size, 0, none⟩) n' n', .int .i64 t, .int .i64 s] 25)).drew = w2 at HT ⊢
    obtain ⟨D, hD⟩ : ∃ D, D = w1.heap.size + 1 := ⟨_, rfl⟩
    obtain ⟨G, hG⟩ : ∃ G, G = w1.heap.size := ⟨_, rfl⟩
    rw [← hD, ← hG] at HT ⊢
    clear hD hG
    rotate_left
    have HT := Lib.hid (turnS_b l HB1.out HR1.out (show n' ≤ 1000000 by omega))
    generalize ((w1.alloc (.cells #[.slice (some ⟨w1.heap.size + 1, 0, none⟩) n' n', .int .i64 t, .int .i64 s] 25)).alloc (.cells (madeCells #[.int .i64 0] n') 3)).drew = w2 at HT ⊢
    obtain ⟨G, hG⟩ : ∃ G, G = w1.heap.size + 1 := ⟨_, rfl⟩
    obtain ⟨D, hD⟩ : ∃ D, D = w1.heap.size := ⟨_, rfl⟩
    rw [← hG, ← hD] at HT ⊢
    clear hD hG
    rotate_left
    all_goals
      clear q0 q1 q2 hmk hsz
      go_wp2
      go_loopw [6] (fun v wr => ∃ i : Nat, v = .int .i64 i ∧ i ≤ n' ∧ TurnS a n' c s t (turnX l n' i 0) G D w wr) (fun v _ => n' - (intOf v).toNat)
      case atStart => exact ⟨0, rfl, Nat.zero_le _, HT.out⟩
      case round =>
        obtain ⟨i, rfl, hin, hl⟩ := hrel
        by_cases hlt : i < n'
        · rcases (HR0.out.below hl.box.below (Nat.le_refl _)).cells with h | ⟨g, o, rfl, hg, hc⟩
          · omega
          have z62 := lt62 (HG.out.good.lt i) (show n' ≤ 25 by omega)
          clear hc
          obtain ⟨z, hz⟩ : ∃ z, z = l.getD i 0 := ⟨_, rfl⟩
          rw [← hz] at z62
          have HTI : Hid (∀ k, turnK l k (i + 1) = if z.testBit k then turnK l k i ||| 2 ^ i else turnK l k i) := Lib.hid fun k => by rw [hz]; exact turnK_succ l k i
          have HZ := Lib.hid hz
          have HL := Lib.hid hl
          have b1 : (i : Int) < (n' : Int) := by omega
          have b2 : (0 : Int) ≤ (i : Int) := by omega
          obtain ⟨p1, p2⟩ := pow_all (show i ≤ 5 by omega)
          clear hl hz
          go_wp2
          go_loopw [7] (fun v wr => ∃ k : Nat, v = .int .i64 k ∧ k ≤ n' ∧ TurnS (some ⟨g, o, none⟩) n' c s t (turnX l n' i k) G D w wr) (fun v _ => n' - (intOf v).toNat)
          case atStart => exact ⟨0, rfl, Nat.zero_le _, HL.out⟩
          case round =>
            obtain ⟨k, rfl, hkn, hl⟩ := hrel
            by_cases hk : k < n'
            · have x1 : wr.cell? ⟨g, o + i, none⟩ = some (.int .i64 z) := by
                rcases (HR0.out.below hl.box.below (Nat.le_refl _)).cells with h | ⟨g', o', ha, hg', hc⟩
                · omega
                · injection ha with ha; injection ha with ha1 ha2 _; subst ha1; subst ha2
                  have := hc i hlt
                  rw [castM_getD, ← HZ.out] at this
                  exact this
              have q0 := hl.box.q0
              obtain ⟨d0, d1, d2, d3, d4, d5⟩ := hl.mach.cells
              have y0 := hl.own.cellAt k (by omega)
              have y1 := hl.own.frozenAt k
              have hv : (ints (castM (turnX l n' i k)))[k]? = some (.int .i64 (turnK l k i : Nat)) := by
                have e := turnX_getD l (i := i) (k := k) hk
                rw [if_neg (Nat.lt_irrefl _)] at e
                unfold ints castM
                have hb : k < (turnX l n' i k).length := by rw [turnX_length]; exact hk
                rw [List.getElem?_map, List.getElem?_map, List.getElem?_eq_getElem hb]
                rw [List.getD_eq_getElem?_getD, List.getElem?_eq_getElem hb] at e
                have e2 : (turnX l n' i k)[k] = turnK l k i := e
                rw [e2]
                rfl
              rw [hv] at y0
              have hbit := bit_one z k z62
              have HKI := HTI.out k
              have hlt5 := turnK_lt l k i 25 (by omega)
              have c1 : (k : Int) < (n' : Int) := by omega
              have c2 : (0 : Int) ≤ (k : Int) := by omega
              obtain ⟨x, hx⟩ : ∃ x, x = turnK l k i := ⟨_, rfl⟩
              rw [← hx] at y0 HKI hlt5
              have HO : Hid (Go.bits .or .i64 (x : Int) ((2 : Int) ^ i) = ((x ||| 2 ^ i : Nat) : Int)) := Lib.hid (by rw [pow_cast]; exact bit_or _ _ (lt62 hlt5 (Nat.le_refl _)) (lt62 (Nat.pow_lt_pow_right (by decide) (show i < 6 by omega)) (by decide)))
              have HS : Hid (TurnS (some ⟨g, o, none⟩) n' c s t (turnX l n' i (k + 1)) G D w (wr.setCell ⟨G, k, none⟩ (.int .i64 (turnK l k (i + 1) : Nat))).drew) := Lib.hid (by rw [← turnX_set]; exact hl.store.step (Below.refl _ _).drew)
              cases hd : z.testBit k
              · rw [hd] at HKI hbit
                simp only [Bool.false_eq_true, if_false] at HKI hbit
                have HN : Hid (TurnS (some ⟨g, o, none⟩) n' c s t (turnX l n' i (k + 1)) G D w wr) := Lib.hid (by
                  rw [turn_none l hk (by rw [HKI, hx])]; exact hl)
                clear hl hx hv HS HO HKI hd
                go_wp2
                go_roundw
                case rel => exact ⟨k + 1, by go_num, by omega, HN.out⟩
                case measure => simp [intOf]; omega
              · rw [hd] at HKI hbit
                simp only [if_true] at HKI hbit
                rw [HKI] at HS
                clear hl hx hv HKI hd
                go_wp2
                go_region
                rw [HO.out]
                go_wp2
                go_roundw
                case rel => exact ⟨k + 1, by go_num, by omega, HS.out⟩
                case measure => simp [intOf]; omega
            · obtain rfl : k = n' := by omega
              rw [turnX_end] at hl
              have HL2 := Lib.hid hl
              clear hl
              go_wp2
              go_roundw
              case rel => exact ⟨i + 1, by go_num, by omega, HL2.out⟩
              case measure => simp [intOf]; omega
        · obtain rfl : i = n' := by omega
          rw [turnX_all HG.out.good.len] at hl
          have HL := Lib.hid hl
          obtain ⟨d0, d1, d2, d3, d4, d5⟩ := hl.mach.cells
          obtain ⟨x0, x1, x2, x3, x4, x5⟩ := hl.res.cells
          have HF := Lib.hid (HL.out.res.stored (.slice (some ⟨G, 0, none⟩) i i) (.int .i64 t) (.int .i64 s))
          have HBF := Lib.hid (below_three (R := w.heap.size + 1) HL.out.box.below (by omega) (.slice (some ⟨G, 0, none⟩) i i) (.int .i64 t) (.int .i64 s))
          have HOF := Lib.hid (own_three (R := w.heap.size + 1) HL.out.own (by omega) (.slice (some ⟨G, 0, none⟩) i i) (.int .i64 t) (.int .i64 s))
          clear hl
          go_wp2
          generalize (((wr.setCell ⟨w.heap.size + 1, 0, none⟩ (.slice (some ⟨G, 0, none⟩) i i)).setCell ⟨w.heap.size + 1, 1, none⟩ (.int .i64 t)).setCell ⟨w.heap.size + 1, 2, none⟩ (.int .i64 s)) = w9 at HF HBF HOF ⊢
          obtain ⟨e0, e1, e2, _⟩ := HF.out.cells
          exact bodyPost_ret (v := .tuple #[.agg #[.slice (some ⟨G, 0, none⟩) i i, .int .i64 t, .int .i64 s], .bool true]) (by simp [results, Try.results30, go_sem, e0, e1, e2]) rfl ⟨some ⟨G, 0, none⟩, i, i, rfl, own_base HOF.out (by omega), by rw [turnL_length]; exact HG.out.good.len, HBF.out⟩

end Go.Proofs.Ytjaifkpmhcekcaa
