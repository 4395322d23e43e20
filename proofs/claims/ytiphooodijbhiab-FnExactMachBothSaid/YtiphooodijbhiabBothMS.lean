/-
  The walk of the model's MachBoth.
-/
import Derived.Test.YtiphooodijbhiabBothMI
import Derived.Test.YtiphooodijbhiabOfS
set_option linter.unusedVariables false
set_option linter.unusedSimpArgs false
namespace Go.Proofs.Ytiphooodijbhiab
open Go.RowKit

theorem and_bits (p q : Bool) : Go.bits .and .i64 (if p then 1 else 0) (if q then 1 else 0) = if (p && q) then 1 else 0 := by
  cases p <;> cases q <;> decide
theorem pair_or {a b n x y : Nat} (hn : 0 < n) (hy : y < n) (hk : n * x + y ≤ 25) : Go.bits .or .i64 (pairS a b n (n * x + y) : Nat) (wrap64 ((if (a.testBit x && b.testBit y) then 1 else 0 : Int) * (2 : Int) ^ (n * x + y))) = ((pairS a b n (n * x + y + 1) : Nat) : Int) := by
  obtain ⟨e1, e2, _⟩ := two_index (x := x + 1) hn hy (Nat.lt_succ_self x)
  have hl := pairS_lt a b n (n * x + y) 25 hk
  have hp : 2 ^ (n * x + y) < 2 ^ 26 := Nat.pow_lt_pow_right (by decide) (by omega)
  have hs : pairS a b n (n * x + y + 1) = if a.testBit ((n * x + y) / n) && b.testBit ((n * x + y) % n) then pairS a b n (n * x + y) ||| 2 ^ (n * x + y) else pairS a b n (n * x + y) := rfl
  rw [hs, e1, e2]
  cases (a.testBit x && b.testBit y)
  · rw [if_neg (by decide), if_neg (by decide), Int.zero_mul, IntWalk.wrap64_in 0 (by decide), show (0 : Int) = ((0 : Nat) : Int) from rfl, bit_or _ 0 (by omega) (by decide), Nat.or_zero]
  · obtain ⟨P, hP⟩ : ∃ P, P = 2 ^ (n * x + y) := ⟨_, rfl⟩
    rw [if_pos rfl, if_pos rfl, Int.one_mul, pow_cast]
    rw [← hP] at hp ⊢
    rw [IntWalk.wrap64_in _ (by omega), bit_or _ _ (by omega) (by omega)]

set_option maxRecDepth 100000 in
set_option maxHeartbeats 8000000 in
theorem specBoth (a : Option Addr) (n c : Nat) (zs : List Int) (b e : Int) (a2 : Option Addr) (n2 c2 : Nat) (ys : List Int) (d f : Int) (w : World) (h : ReadsI w a n zs) (h2 : ReadsI w a2 n2 ys) (hn : n ≤ 1048576) (hn2 : n2 ≤ 1048576) :
    Calls Try.prog 46 #[.agg #[.slice a n c, .int .i64 b, .int .i64 e], .agg #[.slice a2 n2 c2, .int .i64 d, .int .i64 f]] w
      (MachEnd (okBoth zs b e ys d f) (if okBoth zs b e ys d f then pairL (natsM zs) (natsM ys) else []) (if okBoth zs b e ys d f then pairN b.toNat d.toNat n2 else 0) (if okBoth zs b e ys d f then pairN e.toNat f.toNat n2 else 0) w) := by
  obtain ⟨i0, hi, hz0, hz1, hz2⟩ := info_parts Try.infoInt
  have H := Lib.hid (((h.alloc (.cells #[.slice a n c, .int .i64 b, .int .i64 e] 50)).alloc (.cells #[.slice a2 n2 c2, .int .i64 d, .int .i64 f] 50)).alloc (.cells #[.slice none 0 0, .int .i64 0, .int .i64 0] 50))
  have H2 := Lib.hid (((h2.alloc (.cells #[.slice a n c, .int .i64 b, .int .i64 e] 50)).alloc (.cells #[.slice a2 n2 c2, .int .i64 d, .int .i64 f] 50)).alloc (.cells #[.slice none 0 0, .int .i64 0, .int .i64 0] 50))
  have HBX := Lib.hid (bothBox_start a n c b e a2 n2 c2 d f w)
  have HR0 := Lib.hid h
  have HR2 := Lib.hid h2
  clear h h2
  cases ho : okM zs b e
  · have hk : okBoth zs b e ys d f = false := by unfold okBoth; rw [ho]; rfl
    rw [hk]
    simp only [Bool.false_eq_true, if_false]
    clear hk
    go_enter Try.func46, Try.ntmps46
    go_wp2_with fail
    refine (specIn a n c zs b e _ H.out hn).mono ?_
    rw [ho]
    rintro e1 w1 ⟨rfl, hb⟩
    have HB1 := Lib.hid (HBX.out.step hb)
    have HF := Lib.hid (HB1.out.res.stored (.slice none 0 0) (.int .i64 0) (.int .i64 0))
    have HBF := Lib.hid (below_three (R := w.heap.size + 1 + 1) HB1.out.box.below (by omega) (.slice none 0 0) (.int .i64 0) (.int .i64 0))
    obtain ⟨x0, x1, x2, x3, x4, x5⟩ := HB1.out.res.cells
    clear hb ho
    go_wp2
    generalize (((w1.setCell ⟨w.heap.size + 1 + 1, 0, none⟩ (.slice none 0 0)).setCell ⟨w.heap.size + 1 + 1, 1, none⟩ (.int .i64 0)).setCell ⟨w.heap.size + 1 + 1, 2, none⟩ (.int .i64 0)) = wz at HF HBF ⊢
    obtain ⟨d0, d1, d2, _⟩ := HF.out.cells
    exact bodyPost_ret (v := .tuple #[.agg #[.slice none 0 0, .int .i64 0, .int .i64 0], .bool false]) (by simp [results, Try.results46, go_sem, d0, d1, d2]) rfl ⟨none, 0, 0, rfl, own_base (own_nil _) HBF.out.size, rfl, HBF.out⟩
  · cases ho2 : okM ys d f
    · have hk : okBoth zs b e ys d f = false := by unfold okBoth; rw [ho, ho2]; rfl
      rw [hk]
      simp only [Bool.false_eq_true, if_false]
      clear hk
      go_enter Try.func46, Try.ntmps46
      go_wp2_with fail
      refine (specIn a n c zs b e _ H.out hn).mono ?_
      rw [ho]
      rintro e1 w1 ⟨rfl, hb⟩
      have HB1 := Lib.hid (HBX.out.step hb)
      have H3 := Lib.hid (H2.out.below hb (Nat.le_refl _))
      have y0 := HB1.out.k0
      have y1 := HB1.out.k1
      have y2 := HB1.out.k2
      clear hb ho
      go_wp2_with fail
      refine (specIn a2 n2 c2 ys d f _ H3.out hn2).mono ?_
      rw [ho2]
      rintro e1 w2 ⟨rfl, hb⟩
      have HB2 := Lib.hid (HB1.out.step hb)
      have HF := Lib.hid (HB2.out.res.stored (.slice none 0 0) (.int .i64 0) (.int .i64 0))
      have HBF := Lib.hid (below_three (R := w.heap.size + 1 + 1) HB2.out.box.below (by omega) (.slice none 0 0) (.int .i64 0) (.int .i64 0))
      obtain ⟨x0, x1, x2, x3, x4, x5⟩ := HB2.out.res.cells
      clear hb ho2 y0 y1 y2
      go_wp2
      generalize (((w2.setCell ⟨w.heap.size + 1 + 1, 0, none⟩ (.slice none 0 0)).setCell ⟨w.heap.size + 1 + 1, 1, none⟩ (.int .i64 0)).setCell ⟨w.heap.size + 1 + 1, 2, none⟩ (.int .i64 0)) = wz at HF HBF ⊢
      obtain ⟨d0, d1, d2, _⟩ := HF.out.cells
      exact bodyPost_ret (v := .tuple #[.agg #[.slice none 0 0, .int .i64 0, .int .i64 0], .bool false]) (by simp [results, Try.results46, go_sem, d0, d1, d2]) rfl ⟨none, 0, 0, rfl, own_base (own_nil _) HBF.out.size, rfl, HBF.out⟩
    · obtain ⟨l, n', s, t, rfl, hl, rfl, rfl, hg⟩ := okM_good ho
      have hnn : n' = n := by rw [← hl]; exact HR0.out.len
      subst hnn
      obtain ⟨l2, n2', s2, t2, rfl, hl2, rfl, rfl, hg2⟩ := okM_good ho2
      have hnn2 : n2' = n2 := by rw [← hl2]; exact HR2.out.len
      subst hnn2
      have hkk : okBoth (castM l) s t (castM l2) s2 t2 = decide (n' * n2' ≤ 5) := by unfold okBoth; rw [ho, ho2, hl, hl2]; rfl
      rw [hkk]
      have HG := Lib.hid hg
      have HG2 := Lib.hid hg2
      have hn5 := hg.le
      have hn25 := hg2.le
      have hpos2 := hg2.pos
      obtain ⟨M, hM⟩ : ∃ M, M = n' * n2' := ⟨_, rfl⟩
      have hmul : (n' : Int) * (n2' : Int) = (M : Int) := by rw [hM]; simp
      have hM25 : M ≤ 25 := by rw [hM]; exact Nat.mul_le_mul hn5 hn25
      have HM := Lib.hid hM
      rw [← hM]
      clear hM hg hg2 hkk
      by_cases h5 : M ≤ 5
      · rw [decide_eq_true h5]
        simp only [if_true, natsM_cast, toNat_cast]
        go_enter Try.func46, Try.ntmps46
        go_wp2_with fail
        refine (specIn a n' c (castM l) s t _ H.out hn).mono ?_
        rw [ho]
        rintro e1 w1 ⟨rfl, hb⟩
        have HB1 := Lib.hid (HBX.out.step hb)
        have H3 := Lib.hid (H2.out.below hb (Nat.le_refl _))
        have y0 := HB1.out.k0
        have y1 := HB1.out.k1
        have y2 := HB1.out.k2
        clear hb ho
        go_wp2_with fail
        refine (specIn a2 n2' c2 (castM l2) s2 t2 _ H3.out hn2).mono ?_
        rw [ho2]
        rintro e1 w2 ⟨rfl, hb⟩
        have HB2 := Lib.hid (HB1.out.step hb)
        have q0 := HB2.out.box.q0
        have r0 := HB2.out.k0
        clear hb ho2 y0 y1 y2
        have HST := Lib.hid (makeM_start w2 0 0 w2.heap.size (Nat.le_refl _) w2 (Below.refl _ _))
        obtain ⟨G, hG⟩ : ∃ G, G = w2.heap.size := ⟨_, rfl⟩
        have HLB : Hid (∀ wr, Below G w2 wr → BothBox a n' c s t a2 n2' c2 s2 t2 w wr) := Lib.hid (fun wr h => HB2.out.step (by rw [← hG]; exact h))
        have hGw : w.heap.size + 1 + 1 < G := by rw [hG]; exact lt_of_block HB2.out.res
        go_wp2
        rw [← hG] at HST
        rw [← hG]
        clear hG q0 r0
        go_loopw [8] (fun iv wr => ∃ (i : Nat) (v : Value), iv = .int .i64 i ∧ i ≤ n' ∧ MakeM (pairT l l2 n2' (n2' * i)) (n2' * i) (pairS s s2 n2' (n2' * i)) (pairS t t2 n2' (n2' * i)) v G (G + 1) w2 wr) (fun iv _ => n' - (intOf iv).toNat)
        case atStart => exact ⟨0, _, rfl, Nat.zero_le _, HST.out⟩
        case round =>
          obtain ⟨i, v, rfl, hin, hlp⟩ := hrel
          have hbx := HLB.out wr hlp.below
          have q0 := hbx.box.q0
          by_cases hlt : i < n'
          · have HL := Lib.hid hlp
            have b1 : (i : Int) < (n' : Int) := by omega
            clear hlp
            go_wp2
            go_loopw [9] (fun kv wr => ∃ (k : Nat) (v : Value), kv = .int .i64 k ∧ k ≤ n2' ∧ MakeM (pairT l l2 n2' (n2' * i + k)) (n2' * i + k) (pairS s s2 n2' (n2' * i + k)) (pairS t t2 n2' (n2' * i + k)) v G (G + 1) w2 wr) (fun kv _ => n2' - (intOf kv).toNat)
            case atStart => exact ⟨0, v, rfl, Nat.zero_le _, HL.out⟩
            case round =>
              obtain ⟨k, v, rfl, hkn, hlp⟩ := hrel
              have hbx := HLB.out wr hlp.below
              by_cases hk : k < n2'
              · have HL2 := Lib.hid hlp
                have c1 : (k : Int) < (n2' : Int) := by omega
                obtain ⟨z, hz⟩ : ∃ z, z = l.getD i 0 := ⟨_, rfl⟩
                obtain ⟨y, hy⟩ : ∃ y, y = l2.getD k 0 := ⟨_, rfl⟩
                have hz5 : z < 2 ^ 5 := by rw [hz]; exact Nat.lt_of_lt_of_le (HG.out.good.lt i) (Nat.pow_le_pow_right (by decide) hn5)
                have hy5 : y < 2 ^ 5 := by rw [hy]; exact Nat.lt_of_lt_of_le (HG2.out.good.lt k) (Nat.pow_le_pow_right (by decide) hn25)
                have HCL : Hid (∀ W, Below G w2 W → (∃ g o, a = some ⟨g, o, none⟩ ∧ W.cell? ⟨g, o + i, none⟩ = some (.int .i64 z)) ∧ ∃ g o, a2 = some ⟨g, o, none⟩ ∧ W.cell? ⟨g, o + k, none⟩ = some (.int .i64 y)) := Lib.hid (fun W h => by
                  have hb := HLB.out W h
                  obtain ⟨g, o, e1, _, hc⟩ := (HR0.out.below hb.box.below (Nat.le_refl _)).cells.resolve_left (by omega)
                  obtain ⟨g2, o2, e2, _, hc2⟩ := (HR2.out.below hb.box.below (Nat.le_refl _)).cells.resolve_left (by omega)
                  refine ⟨⟨g, o, e1, ?_⟩, g2, o2, e2, ?_⟩
                  · have := hc i hlt; rw [castM_getD, ← hz] at this; exact this
                  · have := hc2 k hk; rw [castM_getD, ← hy] at this; exact this)
                obtain ⟨⟨g, o, rfl, _⟩, g2, o2, rfl, _⟩ := HCL.out wr hlp.below
                have HZ := Lib.hid hz
                have HY := Lib.hid hy
                have hkm : n2' * i + k < M := by
                  have h3 := (two_index (by omega) hk hlt).2.2
                  rw [HM.out]; exact h3
                clear hlp hz hy hbx q0
                go_wp2
                go_loopw [10, 11] (fun sv xv wr => ∃ x : Nat, xv = .int .i64 x ∧ x ≤ n' ∧ sv = .int .i64 (pairS z y n2' (n2' * x) : Nat) ∧ MakeM (pairT l l2 n2' (n2' * i + k)) (n2' * i + k) (pairS s s2 n2' (n2' * i + k)) (pairS t t2 n2' (n2' * i + k)) v G (G + 1) w2 wr) (fun _ xv _ => n' - (intOf xv).toNat)
                case atStart => exact ⟨0, rfl, Nat.zero_le _, rfl, HL2.out⟩
                case round =>
                  obtain ⟨x, rfl, hxn, rfl, hlp⟩ := hrel
                  have hbx := HLB.out wr hlp.below
                  have q0 := hbx.box.q0
                  have HL3 := Lib.hid hlp
                  by_cases hx : x < n'
                  · have e1 : (x : Int) < (n' : Int) := by omega
                    clear hlp hbx
                    go_wp2
                    go_loopw [10, 12] (fun sv yv wr => ∃ u : Nat, yv = .int .i64 u ∧ u ≤ n2' ∧ sv = .int .i64 (pairS z y n2' (n2' * x + u) : Nat) ∧ MakeM (pairT l l2 n2' (n2' * i + k)) (n2' * i + k) (pairS s s2 n2' (n2' * i + k)) (pairS t t2 n2' (n2' * i + k)) v G (G + 1) w2 wr) (fun _ yv _ => n2' - (intOf yv).toNat)
                    case atStart => exact ⟨0, rfl, Nat.zero_le _, rfl, HL3.out⟩
                    case round =>
                      obtain ⟨u, rfl, hun, rfl, hlp⟩ := hrel
                      have hbx := HLB.out wr hlp.below
                      have HL4 := Lib.hid hlp
                      by_cases hu : u < n2'
                      · have u1 : (u : Int) < (n2' : Int) := by omega
                        have hum : n2' * x + u < M := by
                          have h3 := (two_index (by omega) hu hx).2.2
                          rw [HM.out]; exact h3
                        have q0 := hbx.box.q0
                        have k0 := hbx.k0
                        obtain ⟨⟨g', o', ha, ca⟩, g3, o3, hb, cb⟩ := HCL.out wr hlp.below
                        injection ha with ha; injection ha with ha1 ha2 _; subst ha1; subst ha2
                        injection hb with hb; injection hb with hb1 hb2 _; subst hb1; subst hb2
                        have hb1 := bit_one z x (by omega)
                        have hb2 := bit_one y u (by omega)
                        have hand := and_bits (z.testBit x) (y.testBit u)
                        have HO := Lib.hid (pair_or (a := z) (b := y) (n := n2') (x := x) (y := u) (by omega) hu (by omega))
                        obtain ⟨V1, hV1⟩ : ∃ V1 : Int, V1 = if z.testBit x then 1 else 0 := ⟨_, rfl⟩
                        obtain ⟨V2, hV2⟩ : ∃ V2 : Int, V2 = if y.testBit u then 1 else 0 := ⟨_, rfl⟩
                        obtain ⟨V, hV⟩ : ∃ V : Int, V = if (z.testBit x && y.testBit u) then 1 else 0 := ⟨_, rfl⟩
                        have hV0 : 0 ≤ V := by rw [hV]; split <;> decide
                        have hVm : V ≤ 1 := by rw [hV]; split <;> decide
                        rw [← hV1] at hb1 hand
                        rw [← hV2] at hb2 hand
                        rw [← hV] at hand HO
                        obtain ⟨E, hE⟩ : ∃ E, E = n2' * x := ⟨_, rfl⟩
                        have hmul2 : (n2' : Int) * (x : Int) = (E : Int) := by rw [hE]; simp
                        rw [← hE] at hum HO ⊢
                        have HE := Lib.hid hE
                        have hx5 : x ≤ 5 := by omega
                        have hu5 : u ≤ 5 := by omega
                        clear hlp hbx hV1 hV2 hV hE
                        go_wp2
                        go_region
                        rw [HO.out]
                        have HL5 := Lib.hid (HL4.out.step (Below.refl _ _).drew)
                        go_wp2
                        go_roundw
                        case rel => exact ⟨u + 1, by go_num, by omega, rfl, HL5.out⟩
                        case measure => simp [intOf]; omega
                      · obtain rfl : u = n2' := by omega
                        clear hlp hbx
                        go_wp2
                        go_roundw
                        case rel => exact ⟨x + 1, by go_num, by omega, by rw [Nat.mul_succ], HL4.out⟩
                        case measure => simp [intOf]; omega
                  · obtain rfl : x = n' := by omega
                    obtain ⟨a3, c3, rfl⟩ := own_form hlp.own
                    obtain ⟨P, hP⟩ : ∃ P, P = pairN z y n2' := ⟨_, rfl⟩
                    have hPS : pairS z y n2' (n2' * x) = P := by rw [hP, Nat.mul_comm]; exact pairS_is (by omega) (by rw [HY.out]; exact HG2.out.good.lt k) (by rw [HZ.out]; exact HG.out.good.lt i) hn5
                    rw [hPS]
                    obtain ⟨E, hE⟩ : ∃ E, E = n2' * i := ⟨_, rfl⟩
                    have hmul2 : (n2' : Int) * (i : Int) = (E : Int) := by rw [hE]; simp
                    obtain ⟨m, hm⟩ : ∃ m, m = E + k := ⟨_, rfl⟩
                    have HLm : Hid (MakeM (pairT l l2 n2' m) m (pairS s s2 n2' m) (pairS t t2 n2' m) (.slice a3 (n2' * i + k) c3) G (G + 1) w2 wr) := Lib.hid (by rw [hm, hE]; exact hlp)
                    rw [← hE] at HLm
                    have hmm : E + k = m := hm.symm
                    rw [hmm] at HLm
                    have HE := Lib.hid hE
                    have HP := Lib.hid hP
                    have hm5 : m ≤ 5 := by rw [hm, hE]; omega
                    have hown := HLm.out.own
                    obtain ⟨d0, d1, d2, d3, d4, d5⟩ := HLm.out.mach.cells
                    have hGs : G ≤ wr.heap.size := HLm.out.le
                    rw [← hE, hmm]
                    clear hlp hbx hE hP hPS HL3 HL2 hkm hm
                    go_wp2_with
                      (at_builtin; refine wpList_append_own _ rfl _ _ 46 rfl G 3 i0 (.int .i64 0) 1 8 Try.underlying46 hi hz0 hz1 hz2 rfl (by decide) _ _ _ rfl (hown.alloc _) ⟨wr.heap.size, 0, none⟩ 1 1 [.int .i64 P] rfl rfl ?c1 ?c2 ?c3 ?c4 ?c5 ?_)
                    case c1 =>
                      intro j u hj
                      match j, hj with
                      | 0, hj => simp at hj; subst hj; simp [Addr.add]
                    case c2 => intro u hu; simp at hu; subst hu; rfl
                    case c3 => unfold maxLen; omega
                    case c4 => omega
                    case c5 => simp; omega
                    intro v' w5 hown' hgrow _
                    have HL0 := Lib.hid (HLm.out.step ((Below.refl wr.heap.size wr).alloc (Nat.le_refl _) (.cells #[.int .i64 P] 3)))
                    have HA := Lib.hid (HL0.out.append (z := P) hown' hgrow)
                    have hm1 := HL0.out.grown hgrow
                    obtain ⟨a4, c4, rfl⟩ := own_form hown'
                    clear d0 d1 d2 d3 d4 d5
                    obtain ⟨d0, d1, d2, d3, d4, d5⟩ := hm1.cells
                    clear hown' hgrow hown hm1 HL0 HLm q0
                    go_wp2
                    generalize w5.setCell ⟨G + 1, 0, none⟩ (.slice a4 (m + 1) c4) = w6 at HA ⊢
                    clear d0 d1 d2 d3 d4 d5
                    have hbx := HLB.out w6 HA.out.below
                    have q0 := hbx.box.q1
                    have k0 := hbx.k1
                    obtain ⟨d0, d1, d2, d3, d4, d5⟩ := HA.out.mach.cells
                    have hb1 := bit_one s i (lt62 HG.out.starts (by omega))
                    have hb2 := bit_one s2 k (lt62 HG2.out.starts (by omega))
                    have hand := and_bits (s.testBit i) (s2.testBit k)
                    have HO := Lib.hid (pair_or (a := s) (b := s2) (n := n2') (x := i) (y := k) (by omega) hk (by omega))
                    obtain ⟨V1, hV1⟩ : ∃ V1 : Int, V1 = if s.testBit i then 1 else 0 := ⟨_, rfl⟩
                    obtain ⟨V2, hV2⟩ : ∃ V2 : Int, V2 = if s2.testBit k then 1 else 0 := ⟨_, rfl⟩
                    obtain ⟨V, hV⟩ : ∃ V : Int, V = if (s.testBit i && s2.testBit k) then 1 else 0 := ⟨_, rfl⟩
                    have hV0 : 0 ≤ V := by rw [hV]; split <;> decide
                    have hVm : V ≤ 1 := by rw [hV]; split <;> decide
                    rw [← hV1] at hb1 hand
                    rw [← hV2] at hb2 hand
                    rw [← hV] at hand HO
                    rw [← HE.out, hmm] at HO
                    clear hV1 hV2 hV hbx
                    go_wp2
                    go_region
                    rw [HO.out]
                    have HA7 := Lib.hid ((HA.out.first (x' := pairS s s2 n2' (m + 1))).step (Below.refl _ _).drew)
                    generalize (w6.setCell ⟨G + 1, 1, none⟩ (.int .i64 (pairS s s2 n2' (m + 1) : Nat))).drew = w7 at HA7 ⊢
                    clear q0 k0 d0 d1 d2 d3 d4 d5 hb1 hb2 hand HO hV0 hVm
                    have hbx := HLB.out w7 HA7.out.below
                    have q0 := hbx.box.q2
                    have k0 := hbx.k2
                    obtain ⟨d0, d1, d2, d3, d4, d5⟩ := HA7.out.mach.cells
                    have hb1 := bit_one t i (lt62 HG.out.ends (by omega))
                    have hb2 := bit_one t2 k (lt62 HG2.out.ends (by omega))
                    have hand := and_bits (t.testBit i) (t2.testBit k)
                    have HO := Lib.hid (pair_or (a := t) (b := t2) (n := n2') (x := i) (y := k) (by omega) hk (by omega))
                    obtain ⟨V1, hV1⟩ : ∃ V1 : Int, V1 = if t.testBit i then 1 else 0 := ⟨_, rfl⟩
                    obtain ⟨V2, hV2⟩ : ∃ V2 : Int, V2 = if t2.testBit k then 1 else 0 := ⟨_, rfl⟩
                    obtain ⟨V, hV⟩ : ∃ V : Int, V = if (t.testBit i && t2.testBit k) then 1 else 0 := ⟨_, rfl⟩
                    have hV0 : 0 ≤ V := by rw [hV]; split <;> decide
                    have hVm : V ≤ 1 := by rw [hV]; split <;> decide
                    rw [← hV1] at hb1 hand
                    rw [← hV2] at hb2 hand
                    rw [← hV] at hand HO
                    rw [← HE.out, hmm] at HO
                    clear hV1 hV2 hV hbx
                    go_wp2
                    go_region
                    rw [HO.out]
                    have HA8 := Lib.hid ((HA7.out.second (y' := pairS t t2 n2' (m + 1))).step (Below.refl _ _).drew)
                    generalize (w7.setCell ⟨G + 1, 2, none⟩ (.int .i64 (pairS t t2 n2' (m + 1) : Nat))).drew = w8 at HA8 ⊢
                    clear q0 k0 d0 d1 d2 d3 d4 d5 hb1 hb2 hand HO hV0 hVm
                    have HPT : Hid (pairT l l2 n2' (n2' * i + (k + 1)) = pairT l l2 n2' m ++ [P]) := Lib.hid (by
                      obtain ⟨e1, e2, _⟩ := two_index (x := i + 1) (by omega) hk (Nat.lt_succ_self i)
                      rw [← Nat.add_assoc, pairT_succ, e1, e2, ← HZ.out, ← HY.out, ← HP.out, ← HE.out, hmm])
                    go_wp2
                    go_roundw
                    case rel => exact ⟨k + 1, _, by go_num, by omega, by rw [HPT.out, ← Nat.add_assoc, ← HE.out, hmm]; exact HA8.out⟩
                    case measure => simp [intOf]; omega
              · obtain rfl : k = n2' := by omega
                have HL2 := Lib.hid hlp
                clear hlp hbx
                go_wp2
                go_roundw
                case rel => exact ⟨i + 1, v, by go_num, by omega, HL2.out⟩
                case measure => simp [intOf]; omega
          · obtain rfl : i = n' := by omega
            obtain ⟨a3, c3, rfl⟩ := own_form hlp.own
            have hsw : n2' * i = i * n2' := Nat.mul_comm _ _
            have hPL : pairT l l2 n2' (n2' * i) = pairL l l2 := by unfold pairL; rw [HG.out.good.len, HG2.out.good.len, hsw]
            have hPS : pairS s s2 n2' (n2' * i) = pairN s s2 n2' := by rw [hsw]; exact pairS_is (by omega) HG2.out.starts HG.out.starts hn5
            have hPT : pairS t t2 n2' (n2' * i) = pairN t t2 n2' := by rw [hsw]; exact pairS_is (by omega) HG2.out.ends HG.out.ends hn5
            rw [hPL, hPS, hPT] at hlp
            obtain ⟨PS, hPS⟩ : ∃ x, x = pairN s s2 n2' := ⟨_, rfl⟩
            obtain ⟨PT, hPT⟩ : ∃ x, x = pairN t t2 n2' := ⟨_, rfl⟩
            have HPS := Lib.hid hPS
            have HPT := Lib.hid hPT
            rw [← hPS, ← hPT] at hlp
            obtain ⟨m, hm⟩ : ∃ m, m = n2' * i := ⟨_, rfl⟩
            rw [← hm] at hlp
            obtain ⟨d0, d1, d2, d3, d4, d5⟩ := hlp.mach.cells
            obtain ⟨x0, x1, x2, x3, x4, x5⟩ := hbx.res.cells
            have HF := Lib.hid (hbx.res.stored (.slice a3 m c3) (.int .i64 PS) (.int .i64 PT))
            have HBF := Lib.hid (below_three (R := w.heap.size + 1 + 1) hbx.box.below (by omega) (.slice a3 m c3) (.int .i64 PS) (.int .i64 PT))
            have HOF := Lib.hid (own_three (R := w.heap.size + 1 + 1) hlp.own hGw (.slice a3 m c3) (.int .i64 PS) (.int .i64 PT))
            have HLEN := Lib.hid hlp.len
            clear hlp hbx hPL hPS hPT hsw hm
            go_wp2
            generalize (((wr.setCell ⟨w.heap.size + 1 + 1, 0, none⟩ (.slice a3 m c3)).setCell ⟨w.heap.size + 1 + 1, 1, none⟩ (.int .i64 PS)).setCell ⟨w.heap.size + 1 + 1, 2, none⟩ (.int .i64 PT)) = wz at HF HBF HOF ⊢
            obtain ⟨e0, e1, e2, _⟩ := HF.out.cells
            exact bodyPost_ret (v := .tuple #[.agg #[.slice a3 m c3, .int .i64 PS, .int .i64 PT], .bool true]) (by simp [results, Try.results46, go_sem, e0, e1, e2]) rfl ⟨a3, m, c3, by rw [HPS.out, HPT.out], own_base HOF.out (by omega), by rw [HLEN.out], HBF.out⟩
      · rw [decide_eq_false h5]
        simp only [Bool.false_eq_true, if_false]
        go_enter Try.func46, Try.ntmps46
        go_wp2_with fail
        refine (specIn a n' c (castM l) s t _ H.out hn).mono ?_
        rw [ho]
        rintro e1 w1 ⟨rfl, hb⟩
        have HB1 := Lib.hid (HBX.out.step hb)
        have H3 := Lib.hid (H2.out.below hb (Nat.le_refl _))
        have y0 := HB1.out.k0
        have y1 := HB1.out.k1
        have y2 := HB1.out.k2
        clear hb ho
        go_wp2_with fail
        refine (specIn a2 n2' c2 (castM l2) s2 t2 _ H3.out hn2).mono ?_
        rw [ho2]
        rintro e1 w2 ⟨rfl, hb⟩
        have HB2 := Lib.hid (HB1.out.step hb)
        have q0 := HB2.out.box.q0
        have r0 := HB2.out.k0
        have HF := Lib.hid (HB2.out.res.stored (.slice none 0 0) (.int .i64 0) (.int .i64 0))
        have HBF := Lib.hid (below_three (R := w.heap.size + 1 + 1) HB2.out.box.below (by omega) (.slice none 0 0) (.int .i64 0) (.int .i64 0))
        obtain ⟨x0, x1, x2, x3, x4, x5⟩ := HB2.out.res.cells
        clear hb ho2 y0 y1 y2
        go_wp2
        generalize (((w2.setCell ⟨w.heap.size + 1 + 1, 0, none⟩ (.slice none 0 0)).setCell ⟨w.heap.size + 1 + 1, 1, none⟩ (.int .i64 0)).setCell ⟨w.heap.size + 1 + 1, 2, none⟩ (.int .i64 0)) = wz at HF HBF ⊢
        obtain ⟨d0, d1, d2, _⟩ := HF.out.cells
        exact bodyPost_ret (v := .tuple #[.agg #[.slice none 0 0, .int .i64 0, .int .i64 0], .bool false]) (by simp [results, Try.results46, go_sem, d0, d1, d2]) rfl ⟨none, 0, 0, rfl, own_base (own_nil _) HBF.out.size, rfl, HBF.out⟩

end Go.Proofs.Ytiphooodijbhiab
