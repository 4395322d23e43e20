/-
  The walks of the model's l6mSet, MachSet and MachFew.
-/
import Derived.Test.YtjaifkpmhcekcaaMachAtS
import Derived.Test.YtjaifkpmhcekcaaLess
import Derived.Test.YtjaifkpmhcekcaaWrite
import Derived.Test.YtjaifkpmhcekcaaMarkRow
import Derived.Test.YtjaifkpmhcekcaaSteps
import Derived.Test.YtjaifkpmhcekcaaToldMath
import Derived.Test.YtjaifkpmhcekcaaMachTidy
namespace Go.Proofs.Ytjaifkpmhcekcaa
open Go.RowKit
set_option linter.unusedVariables false

theorem set_old {R : Nat} {wr w3 : World} (h : wr.heap[R]? = some (.cells #[.slice none 0 0, .slice none 0 0] 78 (0, 0))) (hb : Below wr.heap.size wr w3) :
    w3.cell? ⟨R, 0, none⟩ = some (.slice none 0 0) ∧ w3.cell? ⟨R, 1, none⟩ = some (.slice none 0 0) ∧ w3.frozen? ⟨R, 0, none⟩ = false ∧ w3.frozen? ⟨R, 1, none⟩ = false := by
  have h3 := (hb.block _ (lt_of_block h)).trans h
  exact ⟨by rw [cell_of_row _ _ _ _ _ _ h3]; rfl, by rw [cell_of_row _ _ _ _ _ _ h3]; rfl, frozen_of_row _ _ _ _ _ h3, frozen_of_row _ _ _ _ _ h3⟩
/-- The answer is stored into the result's cell. -/
theorem set_fin {f : Nat → Bool} {w wr w3 : World} {b1 b2 : Option Addr} {m e1 q e2 : Nat} {u v : Value} (h : wr.heap[w.heap.size + 1]? = some (.cells #[.slice none 0 0, .slice none 0 0] 78 (0, 0))) (hB : Below w.heap.size w wr) (hb : Below wr.heap.size wr w3)
    (ho : LessOut w3 f b1 m e1 b2 q e2) :
    LessOut ((w3.setCell ⟨w.heap.size + 1, 0, none⟩ u).setCell ⟨w.heap.size + 1, 1, none⟩ v) f b1 m e1 b2 q e2 ∧ Below w.heap.size w ((w3.setCell ⟨w.heap.size + 1, 0, none⟩ u).setCell ⟨w.heap.size + 1, 1, none⟩ v) ∧
    ((w3.setCell ⟨w.heap.size + 1, 0, none⟩ u).setCell ⟨w.heap.size + 1, 1, none⟩ v).cell? ⟨w.heap.size + 1, 0, none⟩ = some u ∧ ((w3.setCell ⟨w.heap.size + 1, 0, none⟩ u).setCell ⟨w.heap.size + 1, 1, none⟩ v).cell? ⟨w.heap.size + 1, 1, none⟩ = some v := by
  have h3 := (hb.block _ (lt_of_block h)).trans h
  have h4 := heap_setCell_same _ (w.heap.size + 1) 0 _ _ u h3
  have h5 := heap_setCell_same _ (w.heap.size + 1) 1 _ _ v h4
  have r0 : w3.cell? ⟨w.heap.size + 1, 0, none⟩ = some (.slice none 0 0) := by rw [cell_of_row _ _ _ _ _ _ h3]; rfl
  have r1 : (w3.setCell ⟨w.heap.size + 1, 0, none⟩ u).cell? ⟨w.heap.size + 1, 1, none⟩ = some (.slice none 0 0) := by rw [cell_of_row _ _ _ _ _ _ h4]; rfl
  refine ⟨(ho.store r0 u).store r1 v, ((hB.trans (hb.mono hB.size)).setCell (by show w.heap.size ≤ w.heap.size + 1; omega) _).setCell (by show w.heap.size ≤ w.heap.size + 1; omega) _, ?_, ?_⟩
  · rw [cell_of_row _ _ _ _ _ _ h5]; rfl
  · rw [cell_of_row _ _ _ _ _ _ h5]; rfl

set_option maxRecDepth 100000 in
set_option maxHeartbeats 4000000 in
theorem set6_is (a : Option Addr) (n c : Nat) (l : List Nat) (s e p q : Nat) (w : World) (h : ReadsI w a n (castM l)) (hg : GoodL l n) (hn : n ≤ 5) (hs : s < 2 ^ n) (he : e < 2 ^ 62) (hc : Comes (afterN l s) p q) (hpq : p + q ≤ 32) :
    Calls Try.prog 63 #[.agg #[.slice a n c, .int .i64 s, .int .i64 e]] w (LessPost (takesF l s e) w) := by
  have HCALL := Lib.hid (shape6_is a n c l s e p q _ ((h.alloc (.cells #[.slice a n c, .int .i64 s, .int .i64 e] 25)).alloc (.cells #[.slice none 0 0, .slice none 0 0] 78)) hg hn hs hc hpq)
  have HBX := Lib.hid ((boxM_start a n c s e w 25).step ((Below.refl _ _).alloc (Nat.le_refl _) (.cells #[.slice none 0 0, .slice none 0 0] 78)))
  have hq0 := hc.pos
  have HPER := Lib.hid (takes_round hc e)
  have HLT : Hid (∀ i, afterN l s i < 32) := Lib.hid fun i => Nat.lt_of_lt_of_le (after_lt hg hs i) (Nat.pow_le_pow_right (by decide) hn)
  rw [takes_end] at HPER ⊢
  generalize afterN l s = g at HCALL HPER HLT ⊢
  clear h hg hs hc
  go_enter Try.func63, Try.ntmps63
  go_wp2_with fail
  refine HCALL.out.mono ?_
  rintro e1 w1 ⟨a2, c2, rfl, hown, hb⟩
  have HB1 := Lib.hid (HBX.out.step hb)
  have HRES : Hid (w1.heap[w.heap.size + 1]? = some (.cells #[.slice none 0 0, .slice none 0 0] 78 (0, 0))) := Lib.hid (by
    have h0 := heap_alloc_new (w.alloc (.cells #[.slice a n c, .int .i64 s, .int .i64 e] 25)) (.cells #[.slice none 0 0, .slice none 0 0] 78)
    rw [World.size_alloc] at h0
    exact (hb.block _ (by simp)).trans h0)
  have HR := Lib.hid (readsI_own hown)
  have hms := marks_start (endF g e) w1 w1 w1.heap.size w1.heap.size (Nat.le_refl _) (Nat.le_refl _) (Below.refl _ _)
  have HMS := Lib.hid hms
  clear hb hown hms
  go_wp2
  go_loopw [5, 6] (fun v i wr => ∃ k : Nat, k ≤ p + q ∧ i = .int .i64 k ∧ Marks (endF g e) w1.heap.size w1.heap.size w1 wr v k) (fun _ i _ => p + q - (intOf i).toNat)
  case atStart => exact ⟨0, Nat.zero_le _, rfl, HMS.out⟩
  case round =>
    obtain ⟨k, hk, rfl, hM⟩ := hrel
    obtain ⟨a3, c3, rfl⟩ := own_form hM.own
    have hb0 := HB1.out.lt
    by_cases hlt : k < p + q
    · rcases (HR.out.below hM.below (Nat.le_refl _)).cells with h | ⟨g2, o2, rfl, hg2, hc2⟩
      · omega
      have x1 := hc2 k hlt
      rw [metL_getD g hlt] at x1
      have qe : wr.cell? ⟨w.heap.size, 2, none⟩ = some (.int .i64 e) := (hM.below.cell (p := ⟨w.heap.size, 2, none⟩) hb0).trans HB1.out.q2
      have hlt1 : g2 < w1.heap.size := by
        rcases HR.out.cells with h | ⟨g3, o3, ha, hg3, _⟩
        · omega
        · injection ha with ha; injection ha with ha; omega
      have HM := Lib.hid hM
      obtain ⟨B, hB⟩ : ∃ B, B = endF g e k := ⟨_, rfl⟩
      have hbit := endF_bits g e k (HLT.out k) he
      rw [← hB] at hbit
      have HBB := Lib.hid hB.symm
      have HK10 : Hid (∀ W : World, Below w1.heap.size w1 W → W.cell? ⟨g2, o2 + k, none⟩ = some (.int .i64 (g k : Nat)) ∧ W.cell? ⟨w.heap.size, 2, none⟩ = some (.int .i64 e)) := Lib.hid fun W hW =>
        ⟨(hW.cell (p := ⟨g2, o2 + k, none⟩) hlt1).trans ((hM.below.cell (p := ⟨g2, o2 + k, none⟩) hlt1).symm.trans x1), (hW.cell (p := ⟨w.heap.size, 2, none⟩) hb0).trans HB1.out.q2⟩
      have HKM := Lib.hid hM.below
      have k1 : (k : Int) < (p : Int) + (q : Int) := by omega
      have k2 : (0 : Int) ≤ (k : Int) := by omega
      have hsz := hM.below.size
      clear hM hc2 hB
      go_wp2
      refine wp_region_noPanic ?_
      refine wp_region_held_drew (S := fun w' => w'.cell? ⟨g2, o2 + k, none⟩ = some (.int .i64 (g k : Nat)) ∧ w'.cell? ⟨w.heap.size, 2, none⟩ = some (.int .i64 e)) (by kernel_rfl) (⟨x1, qe⟩) (fun HS => ?_)
      refine' doH 0 (v := ?v0) rfl (by kernel_rfl) (by kernel_rfl) (by kernel_rfl) (fun _ _ _ h => h) rfl HS ?hy0 ?rest0
      case hy0 => (rintro w ⟨s0, s1⟩; go_simp; try with_reducible rfl)
      try simp only [Act.put, List.setIfInBounds_toArray, List.set_cons_zero, List.set_cons_succ]
      refine' doH 1 (v := ?v1) rfl (by kernel_rfl) (by kernel_rfl) (by kernel_rfl) (fun _ _ _ h => h) rfl HS ?hy1 ?rest1
      case hy1 => (rintro w ⟨s0, s1⟩; go_simp; try with_reducible rfl)
      try simp only [Act.put, List.setIfInBounds_toArray, List.set_cons_zero, List.set_cons_succ]
      refine' doH 2 (v := ?v2) rfl (by kernel_rfl) (by kernel_rfl) (by kernel_rfl) (fun _ _ _ h => h) rfl HS ?hy2 ?rest2
      case hy2 => (rintro w ⟨s0, s1⟩; go_simp; try with_reducible rfl)
      try simp only [Act.put, List.setIfInBounds_toArray, List.set_cons_zero, List.set_cons_succ]
      refine' doH 3 (v := ?v3) rfl (by kernel_rfl) (by kernel_rfl) (by kernel_rfl) (fun _ _ _ h => h) rfl HS ?hy3 ?rest3
      case hy3 => (rintro w ⟨s0, s1⟩; go_simp; try with_reducible rfl)
      try simp only [Act.put, List.setIfInBounds_toArray, List.set_cons_zero, List.set_cons_succ]
      refine' doH 4 (v := .int .i64 (g k : Nat)) rfl (by kernel_rfl) (by kernel_rfl) (by kernel_rfl) (fun _ _ _ h => h) rfl HS ?hy4 ?rest4
      case hy4 => (rintro w ⟨s0, s1⟩; go_simp; try with_reducible rfl)
      try simp only [Act.put, List.setIfInBounds_toArray, List.set_cons_zero, List.set_cons_succ]
      refine' doH 5 (v := ?v5) rfl (by kernel_rfl) (by kernel_rfl) (by kernel_rfl) (fun _ _ _ h => h) rfl HS ?hy5 ?rest5
      case hy5 => (rintro w ⟨s0, s1⟩; go_simp; try with_reducible rfl)
      try simp only [Act.put, List.setIfInBounds_toArray, List.set_cons_zero, List.set_cons_succ]
      refine' doH 6 (v := .int .i64 e) rfl (by kernel_rfl) (by kernel_rfl) (by kernel_rfl) (fun _ _ _ h => h) rfl HS ?hy6 ?rest6
      case hy6 => (rintro w ⟨s0, s1⟩; go_simp; try with_reducible rfl)
      try simp only [Act.put, List.setIfInBounds_toArray, List.set_cons_zero, List.set_cons_succ]
      refine' doH 7 (v := ?v7) rfl (by kernel_rfl) (by kernel_rfl) (by kernel_rfl) (fun _ _ _ h => h) rfl HS ?hy7 ?rest7
      case hy7 => (rintro w ⟨s0, s1⟩; go_simp; try with_reducible rfl)
      try simp only [Act.put, List.setIfInBounds_toArray, List.set_cons_zero, List.set_cons_succ]
      refine' doH 8 (v := .bool B) rfl (by kernel_rfl) (by kernel_rfl) (by kernel_rfl) (fun _ _ _ h => h) rfl HS ?hy8 ?rest8
      case hy8 => (rintro w ⟨s0, s1⟩; go_simp; try with_reducible rfl)
      try simp only [Act.put, List.setIfInBounds_toArray, List.set_cons_zero, List.set_cons_succ]
      refine oneH 9 (by kernel_rfl) rfl (fun K9 hK9 => ?_)
      go_simp
      refine hK9.out _ _ (HK10.out _ ((HKM.out.drew).alloc hsz _)) (fun HS => ?_)
      clear hK9 K9
      try simp only [Act.put, List.setIfInBounds_toArray, List.set_cons_zero, List.set_cons_succ]
      refine oneH 10 (by kernel_rfl) rfl (fun K10 hK10 => ?_)
      refine step_marks rfl _ _ rfl rfl rfl (cell_lit _ _ _) (HM.out.step (by have := HM.out.below.size; omega) ((Below.refl _ _).drew.alloc (Nat.le_refl _) _)) HBB.out (Nat.le_refl _) (by have := HM.out.below.size; simp; omega) (by omega) (fun gg cap w4 hM4 => ?_)
      have HM4 := Lib.hid hM4
      clear hM4
      refine hK10.out _ _ (HK10.out _ HM4.out.below) (fun HS => ?_)
      clear hK10 K10
      try simp only [Act.put, List.setIfInBounds_toArray, List.set_cons_zero, List.set_cons_succ]
      refine' doH 11 (v := ?v11) rfl (by kernel_rfl) (by kernel_rfl) (by kernel_rfl) (fun _ _ _ h => h) rfl HS ?hy11 ?rest11
      case hy11 => (rintro w ⟨s0, s1⟩; go_simp; try with_reducible rfl)
      try simp only [Act.put, List.setIfInBounds_toArray, List.set_cons_zero, List.set_cons_succ]
      refine wpAnyH_done (by kernel_rfl) ?_ _
      refine NoPanic.normal ?_
      go_wp2
      go_roundw
      case rel => exact ⟨k + 1, by omega, by go_num, HM4.out⟩
      case measure => simp [intOf]; omega
    · obtain rfl : k = p + q := by omega
      obtain ⟨g3, rfl⟩ : ∃ g3, a3 = some ⟨g3, 0, none⟩ := by
        rcases hM.own.2 with ⟨_, h0⟩ | ⟨g3, _, _, hv, _⟩
        · omega
        · injection hv with ha _ _; exact ⟨g3, ha⟩
      have HI := Lib.hid (fill_in hM.own hq0 (by omega) (by omega))
      obtain ⟨cc1, _⟩ := own_cap hM.own
      have HP := hasB_part hq0 HPER.out
      have HK := Lib.hid (fun W' (hb : Below wr.heap.size wr W') => less_any _ _ _ _ _ _ _ _ _ W' rfl (HI.out.below hb (Nat.le_refl _)))
      rw [HP] at HK
      have HBW := Lib.hid (HB1.out.below.trans (hM.below.mono (Nat.le_of_lt (Nat.lt_of_le_of_lt (Nat.le_refl _) hb0))))
      have HRW := Lib.hid ((hM.below.block _ (lt_of_block HRES.out)).trans HRES.out)
      have b1 : (p : Int) ≤ (c3 : Int) := by omega
      have b2 : (p : Int) ≤ (p : Int) + (q : Int) := by omega
      have b3 : (p : Int) + (q : Int) ≤ (c3 : Int) := by omega
      have b4 : ¬ c3 = p := by omega
      have r0 := (cell_of_row _ _ 0 _ _ _ HRW.out)
      clear hM HP r0
      go_wp2
      go_region_with (go_at_call 73; (with_reducible refine (HK.out _ ?_).mono ?_); exact (Below.refl _ _).drew; rintro e1 w3 ⟨d1, m, e2, d2, r, e3, rfl, hb3, hout⟩; have HF := Lib.hid (set_fin (u := .slice d1 m e2) (v := .slice d2 r e3) HRW.out HBW.out (Below.trans (Below.refl _ _).drew hb3) hout); obtain ⟨y0, y1, y2, y3⟩ := (set_old HRW.out (Below.trans (Below.refl _ _).drew hb3)); clear hb3 hout)
      all_goals
        generalize ((w3.setCell ⟨w.heap.size + 1, 0, none⟩ (.slice d1 m e2)).setCell ⟨w.heap.size + 1, 1, none⟩ (.slice d2 r e3)) = wz at HF ⊢
        obtain ⟨f1, f2, f3, f4⟩ := HF.out
        go_wp2
        exact bodyPost_ret (v := .agg #[.slice d1 m e2, .slice d2 r e3]) (by simp [results, Try.results63, go_sem, f3, f4]) rfl ⟨d1, m, e2, d2, r, e3, rfl, f2, f1⟩

set_option maxHeartbeats 1000000 in
theorem specSet (a : Option Addr) (n c : Nat) (zs : List Int) (b e : Int) (w : World) (h : ReadsI w a n zs) (hn : n ≤ 1048576) :
    Calls Try.prog 26 #[.agg #[.slice a n c, .int .i64 b, .int .i64 e]] w fun e1 w' => (∃ T, e1 = .returned (.tuple #[.string T, .bool (okM zs b e)]) ∧ SetIs (okM zs b e) (fM zs b e) T) ∧ Below w.heap.size w w' := by
  have H := Lib.hid (h.alloc (.cells #[.slice a n c, .int .i64 b, .int .i64 e] 25))
  have HBX := Lib.hid (boxM_start a n c b e w 25)
  clear h
  cases ho : okM zs b e
  · go_enter Try.func26, Try.ntmps26
    go_wp2_with fail
    refine (specIn a n c zs b e _ H.out hn).mono ?_
    rw [ho]
    rintro e1 w1 ⟨rfl, hb⟩
    have HB := Lib.hid (boxed hb)
    clear hb ho
    go_wp2
    go_ret2
    exact ⟨⟨_, rfl, And.intro (fun h => by cases h) (fun _ => rfl)⟩, HB.out⟩
  · obtain ⟨l, n', s, t, rfl, hl, rfl, rfl, hg⟩ := okM_good ho
    obtain ⟨p, q, hc, hpq⟩ := good_comes hg
    obtain ⟨m, r, ht, hm, hr⟩ := mach_tidy t hc hpq
    have hnn : n' = n := by rw [← hl]; exact H.out.len
    subst hnn
    have hf : fM (castM l) s t = takesF l s t := by unfold fM; rw [natsM_cast, toNat_cast, toNat_cast]
    rw [hf]
    have HT := Lib.hid ht
    have HC := Lib.hid hc
    have HGD := Lib.hid hg
    have ht62 : Hid (t < 2 ^ 62) := Lib.hid (lt62 hg.ends (by have := hg.le; omega))
    clear hc hg ht hf
    go_enter Try.func26, Try.ntmps26
    go_wp2_with fail
    refine (specIn a n' c (castM l) s t _ H.out hn).mono ?_
    rw [ho]
    rintro e1 w1 ⟨rfl, hb⟩
    have HB1 := Lib.hid (HBX.out.step hb)
    have H1 := Lib.hid (H.out.below hb (Nat.le_refl _))
    have q0 := HB1.out.q0
    have q1 := HB1.out.q1
    have q2 := HB1.out.q2
    clear hb ho
    go_wp2_with fail
    refine (set6_is a n' c l s t p q _ H1.out HGD.out.good HGD.out.le HGD.out.starts ht62.out HC.out hpq).mono ?_
    rintro e1 w2 ⟨b1, m', e2, b2, r', e3, rfl, hb, hout⟩
    obtain ⟨rfl, rfl⟩ := tidy_unique HT.out hout.tidy
    have HB2 := Lib.hid (HB1.out.step hb)
    have HO := Lib.hid hout
    clear hb hout q0 q1 q2
    go_wp2_with fail
    refine (write_any _ _ b1 m e2 b2 r e3 _ HO.out.lies).mono ?_
    rintro e1 w3 ⟨rfl, hb⟩
    have HB3 := Lib.hid (HB2.out.step hb)
    clear hb
    go_wp2
    go_ret2
    exact ⟨⟨_, rfl, And.intro (fun _ => ⟨m, r, HT.out, hm, hr, rfl⟩) (fun h => by cases h)⟩, HB3.out.below⟩

/-- The number of signs of the tidy text. -/
def FewIs (ok : Bool) (f : Nat → Bool) (e : Ending) : Prop := ∃ n : Nat, e = .returned (.tuple #[.int .i64 n, .bool ok]) ∧ (ok = true → ∃ m q, Tidy f m q ∧ n = m + q) ∧ (ok = false → n = 0)

set_option maxHeartbeats 1000000 in
theorem specFew (a : Option Addr) (n c : Nat) (zs : List Int) (b e : Int) (w : World) (h : ReadsI w a n zs) (hn : n ≤ 1048576) :
    Calls Try.prog 44 #[.agg #[.slice a n c, .int .i64 b, .int .i64 e]] w fun e1 w' => FewIs (okM zs b e) (fM zs b e) e1 ∧ Below w.heap.size w w' := by
  have H := Lib.hid (h.alloc (.cells #[.slice a n c, .int .i64 b, .int .i64 e] 25))
  have HBX := Lib.hid (boxM_start a n c b e w 25)
  clear h
  cases ho : okM zs b e
  · go_enter Try.func44, Try.ntmps44
    go_wp2_with fail
    refine (specIn a n c zs b e _ H.out hn).mono ?_
    rw [ho]
    rintro e1 w1 ⟨rfl, hb⟩
    have HB := Lib.hid (boxed hb)
    clear hb ho
    go_wp2
    go_ret2
    exact ⟨⟨0, rfl, And.intro (fun h => by cases h) (fun _ => rfl)⟩, HB.out⟩
  · obtain ⟨l, n', s, t, rfl, hl, rfl, rfl, hg⟩ := okM_good ho
    obtain ⟨p, q, hc, hpq⟩ := good_comes hg
    obtain ⟨m, r, ht, hm, hr⟩ := mach_tidy t hc hpq
    have hnn : n' = n := by rw [← hl]; exact H.out.len
    subst hnn
    have hf : fM (castM l) s t = takesF l s t := by unfold fM; rw [natsM_cast, toNat_cast, toNat_cast]
    rw [hf]
    have HT := Lib.hid ht
    have HC := Lib.hid hc
    have HGD := Lib.hid hg
    have ht62 : Hid (t < 2 ^ 62) := Lib.hid (lt62 hg.ends (by have := hg.le; omega))
    clear hc hg ht hf
    go_enter Try.func44, Try.ntmps44
    go_wp2_with fail
    refine (specIn a n' c (castM l) s t _ H.out hn).mono ?_
    rw [ho]
    rintro e1 w1 ⟨rfl, hb⟩
    have HB1 := Lib.hid (HBX.out.step hb)
    have H1 := Lib.hid (H.out.below hb (Nat.le_refl _))
    have q0 := HB1.out.q0
    have q1 := HB1.out.q1
    have q2 := HB1.out.q2
    clear hb ho
    go_wp2_with fail
    refine (set6_is a n' c l s t p q _ H1.out HGD.out.good HGD.out.le HGD.out.starts ht62.out HC.out hpq).mono ?_
    rintro e1 w2 ⟨b1, m', e2, b2, r', e3, rfl, hb, hout⟩
    obtain ⟨rfl, rfl⟩ := tidy_unique HT.out hout.tidy
    have HB2 := Lib.hid ((HB1.out.step hb).step ((Below.refl _ _).alloc (Nat.le_refl _) (.cells #[.slice b1 m e2, .slice b2 r e3] 78)))
    clear hb hout q0 q1 q2
    go_wp2
    go_ret2
    exact ⟨⟨m + r, by simp, And.intro (fun _ => ⟨m, r, HT.out, rfl⟩) (fun h => by cases h)⟩, HB2.out.below⟩

end Go.Proofs.Ytjaifkpmhcekcaa
