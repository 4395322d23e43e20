/-
  The walk of the program's MachTurn.
-/
import Derived.Test.YtjaifkpmhcekcaaMachAtI
import Derived.Test.YtjaifkpmhcekcaaMachRes
namespace Go.Proofs.Ytjaifkpmhcekcaa
open Go.RowKit
set_option linter.unusedVariables false

/-- The world of MachTurn's loops. -/
structure TurnAt (a : Option Addr) (n c : Nat) (b e : Int) (X : List Nat) (G : Nat) (w wr : World) : Prop where
  box : BoxM a n c b e w.heap.size w wr
  res : ResM (.slice none 0 0) (.int .i64 0) (.int .i64 0) (w.heap.size + 1) wr
  own : wr.ownsRow (w.heap.size + 1 + 1) 3 1 (.slice (some ⟨G, 0, none⟩) n n) n (ints (castM X))
  ge : w.heap.size + 1 + 1 ≤ G
theorem TurnAt.store {a : Option Addr} {n c : Nat} {b e : Int} {X : List Nat} {G k v : Nat} {w wr : World} (h : TurnAt a n c b e X G w wr) : TurnAt a n c b e (X.set k v) G w (wr.setCell ⟨G, k, none⟩ (.int .i64 v)) := by
  have hg := h.ge
  refine ⟨h.box.store (by show w.heap.size < G; omega) _, h.res.other (by show w.heap.size + 1 ≠ G; omega) _, ?_, hg⟩
  have := (h.own.stored k (.int .i64 v)).1
  unfold ints at this ⊢
  rw [← castM_set, List.map_set]
  exact this
theorem TurnAt.drew {a : Option Addr} {n c : Nat} {b e : Int} {X : List Nat} {G : Nat} {w wr : World} (h : TurnAt a n c b e X G w wr) : TurnAt a n c b e X G w wr.drew :=
  ⟨h.box.step (Below.refl _ _).drew, h.res, own_below h.own (Below.refl wr.heap.size wr).drew (Nat.le_refl _), h.ge⟩
theorem turn_start {l : List Nat} {a : Option Addr} {n c : Nat} {b e : Int} {w w1 w2 : World} (hB : BoxM a n c b e w.heap.size w w1) (hR : ResM (.slice none 0 0) (.int .i64 0) (.int .i64 0) (w.heap.size + 1) w1)
    (hown : w2.ownsRow (w.heap.size + 1 + 1) 3 1 (.slice (some ⟨w1.heap.size, 0, none⟩) n n) n (madeCells #[.int .i64 0] n).toList) (hg : w1.grownBy w2 none) : TurnAt a n c b e (turnX l n 0 0) w1.heap.size w w2 := by
  have hb : Below w1.heap.size w1 w2 := (Below.refl _ _).grown hg (Nat.le_refl _) (fun k hk => by cases hk)
  exact ⟨hB.step hb, hR.step hb, by rw [← made_zero l n]; exact hown, lt_of_block hR⟩

set_option maxRecDepth 100000 in
set_option maxHeartbeats 2000000 in
theorem implTurn (a : Option Addr) (n c : Nat) (zs : List Int) (b e : Int) (w : World) (h : ReadsI w a n zs) (hn : n ≤ 1048576) :
    Calls Try.prog 29 #[.agg #[.slice a n c, .int .i64 b, .int .i64 e]] w (MachEnd (okM zs b e) (if okM zs b e then turnL (natsM zs) else []) (if okM zs b e then e.toNat else 0) (if okM zs b e then b.toNat else 0) w) := by
  obtain ⟨i0, hi, hz0, hz1, hz2⟩ := info_parts Try.infoInt
  have H := Lib.hid ((h.alloc (.cells #[.slice a n c, .int .i64 b, .int .i64 e] 25)).alloc (.cells #[.slice none 0 0, .int .i64 0, .int .i64 0] 25))
  have HBX := Lib.hid ((boxM_start a n c b e w 25).step ((Below.refl _ _).alloc (Nat.le_refl _) (.cells #[.slice none 0 0, .int .i64 0, .int .i64 0] 25)))
  have hr0 := resM_start (w.alloc (.cells #[.slice a n c, .int .i64 b, .int .i64 e] 25))
  rw [World.size_alloc] at hr0
  have HRX := Lib.hid hr0
  have HR0 := Lib.hid h
  clear h hr0
  cases ho : okM zs b e
  · simp only [Bool.false_eq_true, if_false]
    go_enter Try.func29, Try.ntmps29
    go_wp2_with fail
    refine (machFits_is a n c zs b e _ H.out hn).mono ?_
    rw [ho]
    rintro e1 w1 ⟨rfl, hb⟩
    have HB1 := Lib.hid (HBX.out.step hb)
    have HR1 := Lib.hid (HRX.out.step hb)
    obtain ⟨x0, x1, x2, x3, x4, x5⟩ := HR1.out.cells
    have HF := Lib.hid (HR1.out.stored (.slice none 0 0) (.int .i64 0) (.int .i64 0))
    have HBF := Lib.hid (below_three (R := w.heap.size + 1) HB1.out.below (by omega) (.slice none 0 0) (.int .i64 0) (.int .i64 0))
    clear hb ho
    go_wp2
    generalize (((w1.setCell ⟨w.heap.size + 1, 0, none⟩ (.slice none 0 0)).setCell ⟨w.heap.size + 1, 1, none⟩ (.int .i64 0)).setCell ⟨w.heap.size + 1, 2, none⟩ (.int .i64 0)) = w9 at HF HBF ⊢
    obtain ⟨d0, d1, d2, _⟩ := HF.out.cells
    exact bodyPost_ret (v := .tuple #[.agg #[.slice none 0 0, .int .i64 0, .int .i64 0], .bool false]) (by simp [results, Try.results29, go_sem, d0, d1, d2]) rfl ⟨none, 0, 0, rfl, own_base (own_nil _) HBF.out.size, rfl, HBF.out⟩
  · obtain ⟨l, n', s, t, rfl, hl, rfl, rfl, hg⟩ := okM_good ho
    have hnn : n' = n := by rw [← hl]; exact HR0.out.len
    subst hnn
    simp only [if_true, natsM_cast, toNat_cast]
    have HG := Lib.hid hg
    have hn5 := hg.le
    clear hg
    go_enter Try.func29, Try.ntmps29
    go_wp2_with fail
    refine (machFits_is a n' c (castM l) s t _ H.out hn).mono ?_
    rw [ho]
    rintro e1 w1 ⟨rfl, hb⟩
    have HB1 := Lib.hid (HBX.out.step hb)
    have HR1 := Lib.hid (HRX.out.step hb)
    have q0 := HB1.out.q0
    clear hb ho
    go_wp2_with (at_make; refine wpList_make_full _ rfl _ _ 23 rfl (w.heap.size + 1 + 1) 3 i0 (.int .i64 0) 1 Try.underlying23 hi hz0 hz1 .i64 .i64 _ _ n' rfl rfl rfl rfl ?b2 ?b3 ?b4 ?_)
    case b2 => rw [hz2]; omega
    case b3 => unfold maxLen; omega
    case b4 => have := HR1.out; have := lt_of_block this; omega
    intro w2 hown hgrow
    have HT := Lib.hid (turn_start (l := l) HB1.out HR1.out hown hgrow)
    obtain ⟨G, hG⟩ : ∃ G, G = w1.heap.size := ⟨_, rfl⟩
    rw [← hG] at HT ⊢
    have q0 := HT.out.box.q0
    clear hown hgrow hG
    go_wp2
    go_loopw [19] (fun v wr => ∃ i : Nat, v = .int .i64 i ∧ i ≤ n' ∧ TurnAt a n' c s t (turnX l n' i 0) G w wr) (fun v _ => n' - (intOf v).toNat)
    case atStart => exact ⟨0, rfl, Nat.zero_le _, HT.out⟩
    case round =>
      obtain ⟨i, rfl, hin, hl⟩ := hrel
      by_cases hlt : i < n'
      · rcases (HR0.out.below hl.box.below (Nat.le_refl _)).cells with h | ⟨g, o, rfl, hg, hc⟩
        · omega
        have x1 := hc i hlt
        rw [castM_getD] at x1
        clear hc
        have z62 := lt62 (HG.out.good.lt i) (show n' ≤ 25 by omega)
        obtain ⟨z, hz⟩ : ∃ z, z = l.getD i 0 := ⟨_, rfl⟩
        rw [← hz] at x1 z62
        have HTI : Hid (∀ k, turnK l k (i + 1) = if z.testBit k then turnK l k i ||| 2 ^ i else turnK l k i) := Lib.hid fun k => by rw [hz]; exact turnK_succ l k i
        have HL := Lib.hid hl
        have b1 : (i : Int) < (n' : Int) := by omega
        have b2 : (0 : Int) ≤ (i : Int) := by omega
        obtain ⟨p1, p2⟩ := pow_all (show i ≤ 5 by omega)
        clear hl hz
        go_wp2
        go_loopw [26] (fun v wr => ∃ k : Nat, v = .int .i64 k ∧ k ≤ n' ∧ TurnAt (some ⟨g, o, none⟩) n' c s t (turnX l n' i k) G w wr) (fun v _ => n' - (intOf v).toNat)
        case atStart => exact ⟨0, rfl, Nat.zero_le _, HL.out⟩
        case round =>
          obtain ⟨k, rfl, hkn, hl⟩ := hrel
          by_cases hk : k < n'
          · have y0 := hl.own.cellAt k (by omega)
            have y1 := hl.own.frozenAt k
            have hv : (ints (castM (turnX l n' i k)))[k]? = some (.int .i64 (turnK l k i : Nat)) := by
              have e := turnX_getD l (i := i) (k := k) hk
              rw [if_neg (Nat.lt_irrefl _)] at e
              unfold ints castM
              have hb : k < (turnX l n' i k).length := by rw [turnX_length]; exact hk
              rw [List.getElem?_map, List.getElem?_map, List.getElem?_eq_getElem hb]
              rw [List.getD_eq_getElem?_getD, List.getElem?_eq_getElem hb] at e
              have e2 : (turnX l n' i k)[k] = turnK l k i := e
              rw [e2]
              rfl
            rw [hv] at y0
            have HKI := HTI.out k
            have hlt5 := turnK_lt l k i 25 (by omega)
            have c1 : (k : Int) < (n' : Int) := by omega
            have c2 : (0 : Int) ≤ (k : Int) := by omega
            obtain ⟨x, hx⟩ : ∃ x, x = turnK l k i := ⟨_, rfl⟩
            rw [← hx] at y0 HKI hlt5
            have HO : Hid (Go.bits .or .i64 (x : Int) ((2 : Int) ^ i) = ((x ||| 2 ^ i : Nat) : Int)) := Lib.hid (by rw [pow_cast]; exact bit_or _ _ (lt62 hlt5 (Nat.le_refl _)) (lt62 (Nat.pow_lt_pow_right (by decide) (show i < 6 by omega)) (by decide)))
            have HS : Hid (TurnAt (some ⟨g, o, none⟩) n' c s t (turnX l n' i (k + 1)) G w (wr.setCell ⟨G, k, none⟩ (.int .i64 (turnK l k (i + 1) : Nat))).drew) := Lib.hid (by rw [← turnX_set]; exact hl.store.drew)
            cases hd : z.testBit k
            · rw [hd] at HKI
              simp only [Bool.false_eq_true, if_false] at HKI
              have HN : Hid (TurnAt (some ⟨g, o, none⟩) n' c s t (turnX l n' i (k + 1)) G w wr) := Lib.hid (by
                have e : turnX l n' i (k + 1) = turnX l n' i k := by
                  rw [← turnX_set, HKI, hx]
                  apply List.ext_getElem?
                  intro j
                  rw [List.getElem?_set]
                  by_cases ej : k = j
                  · subst ej
                    rw [if_pos rfl, if_pos (by rw [turnX_length]; exact hk)]
                    have e := turnX_getD l (i := i) (k := k) hk
                    rw [if_neg (Nat.lt_irrefl _), List.getD_eq_getElem?_getD, List.getElem?_eq_getElem (by rw [turnX_length]; exact hk)] at e
                    rw [List.getElem?_eq_getElem (by rw [turnX_length]; exact hk)]
                    exact congrArg some e.symm
                  · rw [if_neg ej]
                rw [e]; exact hl)
              clear hl hx hv HS HO HKI
              go_wp2_with fail
              refine (hasState_is z k _ z62 (by omega)).mono ?_
              rw [hd]
              rintro e1 w3 ⟨rfl, rfl⟩
              clear hd
              go_wp2
              go_roundw
              case rel => exact ⟨k + 1, by go_num, by omega, HN.out⟩
              case measure => simp [intOf]; omega
            · rw [hd] at HKI
              simp only [if_true] at HKI
              rw [HKI] at HS
              clear hl hx hv HKI
              go_wp2_with fail
              refine (hasState_is z k _ z62 (by omega)).mono ?_
              rw [hd]
              rintro e1 w3 ⟨rfl, rfl⟩
              clear hd
              go_wp2
              go_region
              rw [HO.out]
              go_wp2
              go_roundw
              case rel => exact ⟨k + 1, by go_num, by omega, HS.out⟩
              case measure => simp [intOf]; omega
          · obtain rfl : k = n' := by omega
            rw [turnX_end] at hl
            have HL2 := Lib.hid hl
            clear hl
            go_wp2
            go_roundw
            case rel => exact ⟨i + 1, by go_num, by omega, HL2.out⟩
            case measure => simp [intOf]; omega
      · obtain rfl : i = n' := by omega
        rw [turnX_all HG.out.good.len] at hl
        have HL := Lib.hid hl
        have q0 := hl.box.q0
        have q1 := hl.box.q1
        have q2 := hl.box.q2
        obtain ⟨x0, x1, x2, x3, x4, x5⟩ := hl.res.cells
        have HF := Lib.hid (HL.out.res.stored (.slice (some ⟨G, 0, none⟩) i i) (.int .i64 t) (.int .i64 s))
        have HBF := Lib.hid (below_three (R := w.heap.size + 1) HL.out.box.below (by omega) (.slice (some ⟨G, 0, none⟩) i i) (.int .i64 t) (.int .i64 s))
        have HOF := Lib.hid (own_three (R := w.heap.size + 1) HL.out.own (by omega) (.slice (some ⟨G, 0, none⟩) i i) (.int .i64 t) (.int .i64 s))
        clear hl
        go_wp2
        generalize (((wr.setCell ⟨w.heap.size + 1, 0, none⟩ (.slice (some ⟨G, 0, none⟩) i i)).setCell ⟨w.heap.size + 1, 1, none⟩ (.int .i64 t)).setCell ⟨w.heap.size + 1, 2, none⟩ (.int .i64 s)) = w9 at HF HBF HOF ⊢
        obtain ⟨d0, d1, d2, _⟩ := HF.out.cells
        exact bodyPost_ret (v := .tuple #[.agg #[.slice (some ⟨G, 0, none⟩) i i, .int .i64 t, .int .i64 s], .bool true]) (by simp [results, Try.results29, go_sem, d0, d1, d2]) rfl ⟨some ⟨G, 0, none⟩, i, i, rfl, own_base HOF.out (by omega), by rw [turnL_length]; exact HG.out.good.len, HBF.out⟩

end Go.Proofs.Ytjaifkpmhcekcaa
