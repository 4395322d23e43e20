/-
  The walk of WaysOdd, of the program.
-/
import Derived.Test.YtojjfkabepkhdaaWayLenI
set_option linter.unusedVariables false
set_option linter.unusedSimpArgs false
namespace Go.Proofs.Ytojjfkabepkhdaa
open Go.RowKit

theorem oddS_bound (f : Nat → Bool) {n : Nat} (hn : n ≤ 40) (m : Nat) (hm : m ≤ 41) : oddS f n m ≤ 1099511627776 := by
  have h1 := oddS_le f n m
  have h2 : ∀ j, partS f n m ≤ partS f n (m + j) := by
    intro j
    induction j with
    | zero => exact Nat.le_refl _
    | succ j ih => exact Nat.le_trans ih (Nat.le_add_right _ _)
  have h3 := h2 (41 - m)
  rw [show m + (41 - m) = 41 from by omega, partS_many f 41 n (by omega)] at h3
  have := manyF_le40 f hn
  omega
theorem boxed_below {w w' : World} {B : Nat} {t : TypeId} {v : Value} (h : Boxed w B t v) (hb : Below w.heap.size w w') : Boxed w' B t v := (hb.block B h.lt).trans h

set_option maxRecDepth 100000 in
set_option maxHeartbeats 1000000 in
theorem implWaysOdd_off (s : ByteArray) (n m : Int) (w : World) (hs : s.size ≤ 1048576) (hL : LibAt m w) (h : okW s n 40 = false) :
    Calls Try.prog 37 #[.string s, .int .i64 n] w fun e w' => TellsW s n 40 oddI e ∧ Below w.heap.size w w' := by
  have HO := Lib.hid (tellsW_off (F := oddI) h)
  unfold okW at h
  go_enter Try.func37, Try.ntmps37
  go_wp2_with fail
  refine (waySet_any s n 40 m _ hs (hL.alloc _)).mono ?_
  rintro e w1 ⟨⟨T, R, rfl, hsp⟩, hb⟩
  have HB1 := Lib.hid ((((Below.refl _ w).alloc (Nat.le_refl _) (.cells #[.int .i64 n] 3)).trans (hb.mono (by simp))).alloc (by have := hb.size; simp at this; omega) (.cells #[.string T, .string R] 41))
  rw [h]
  clear hsp hb h
  go_wp2
  go_ret2
  exact ⟨HO.out, HB1.out⟩

set_option maxRecDepth 100000 in
set_option maxHeartbeats 4000000 in
theorem implWaysOdd_on (s : ByteArray) (n : Nat) (m : Int) (w : World) (hs : s.size ≤ 1048576) (hL : LibAt m w) (h : okW s n 40 = true) (h1 : smallS s = true) (hn : n ≤ 40) :
    Calls Try.prog 37 #[.string s, .int .i64 n] w fun e w' => TellsW s n 40 oddI e ∧ Below w.heap.size w w' := by
  have HO := Lib.hid (tellsW_on (F := oddI) (v := (oddS (fS s) n 41 : Nat)) h (by unfold oddI; rw [oddF_at _ _ _ (by omega)]))
  unfold okW at h
  refine (callsIn_wide (n := 20)).1 ?_
  refine callsIn_of_wp_marks Try.func37 rfl trivial ?_ rfl
  simp only [Try.ntmps37, List.size_toArray, List.length_cons, List.length_nil, Nat.reduceAdd, Nat.reduceSub, Array.replicate_succ, Array.replicate_zero, List.push_toArray, List.append_toArray, List.nil_append, List.cons_append]
  gi_wp2_with fail
  refine ⟨trivial, (callsIn_wide.2 (waySet_any s n 40 m _ hs (hL.alloc _))).mono ?_⟩
  rintro e w1 ⟨⟨T, R, rfl, hsp⟩, hb⟩
  have HSP := Lib.hid (hsp h1)
  rw [h]
  have hs1 := hb.size
  rw [World.size_alloc] at hs1
  have bN := boxed_below (Boxed.new w 3 (.int .i64 n)) hb
  have HB1 := Lib.hid (((Below.refl _ w).alloc (Nat.le_refl _) (.cells #[.int .i64 n] 3)).trans (hb.mono (by simp)))
  have cN := (bN.alloc (.cells #[.string T, .string R] 41)).alloc (.cells #[.int .i64 0] 3)
  have cN := cN.cell
  have HBN := Lib.hid bN
  clear hsp hb h h1 bN
  gi_wp2_with fail
  refine ⟨trivial, (callsIn_wide.2 (byLength_call T R n _)).mono ?_⟩
  rintro e W0 ⟨rfl, rfl⟩
  have hPB := pBox_new T R n ((w1.alloc (.cells #[.string T, .string R] 41)).alloc (.cells #[.int .i64 0] 3))
  have hB0 := (((HB1.out.alloc (by omega) (.cells #[.string T, .string R] 41)).alloc (by simp; omega) (.cells #[.int .i64 0] 3)).alloc (by simp; omega) (.cells #[.string T, .string R] 41)).alloc (by simp; omega) (.cells #[.int .i64 n] 3)
  have bO := ((Boxed.new (w1.alloc (.cells #[.string T, .string R] 41)) 3 (.int .i64 0)).alloc (.cells #[.string T, .string R] 41)).alloc (.cells #[.int .i64 n] 3)
  have bN2 := (((HBN.out.alloc (.cells #[.string T, .string R] 41)).alloc (.cells #[.int .i64 0] 3)).alloc (.cells #[.string T, .string R] 41)).alloc (.cells #[.int .i64 n] 3)
  simp only [World.size_alloc] at hPB bO
  have HPB := Lib.hid hPB
  have HB0 := Lib.hid hB0
  have HBO := Lib.hid bO
  have HBN2 := Lib.hid bN2
  clear hPB hB0 bO bN2 cN
  gi_wp2
  try simp only [World.size_alloc]
  refine rangeQ rfl (by decide) (gf := 68) (lb := #[.pointer (some ⟨w1.heap.size + 1 + 1 + 1, 0, none⟩), .pointer (some ⟨w1.heap.size + 1 + 1, 0, none⟩)]) rfl trivial (enters_of Try.func68 (by kernel_rfl) rfl)
    (byLength_stops (fS s) T R n (w1.heap.size + 1 + 1) (w1.heap.size + 1 + 1) (w1.heap.size + 1 + 1 + 1) _ HSP.out.parts hn (Nat.le_refl _) (Nat.le_succ _) _ (by simp) HPB.out) (Below.refl _ _) (fun _ => rfl) keepsHi_t (fun W l r o' _ hl => keepsHi_b W l r o' hl)
    (fun pre W => (Boxed W w.heap.size 3 (.int .i64 n) ∧ Boxed W (w1.heap.size + 1) 3 (.int .i64 (oddS (fS s) n pre.length : Nat))) ∧ Below w.heap.size w W)
    (fun _ _ => False)
    (OwnFrom.and (OwnFrom.and (Own.from (boxed_own _ _ (fun _ => .int .i64 n)) _) (Own.from (boxed_own _ _ (fun pre : List LenX => .int .i64 (oddS (fS s) n pre.length : Nat))) _)) (ownFrom_below (Nat.le_refl _) (by simp; omega)))
    (fun _ _ _ _ hs _ _ => hs)
    (lenKn_own _ _ _ _)
    ⟨⟨HBN2.out, HBO.out⟩, HB0.out⟩
    (fun x => { tmps := #[.string s, .int .i64 n, undef, .pointer (some ⟨w.heap.size, 0, none⟩), .int .i64 0, .bool false, .pointer (some ⟨w1.heap.size, 0, none⟩), .bool true, .pointer (some ⟨w1.heap.size + 1, 0, none⟩), .int .i64 (x.1.1 : Int), .slice x.2.1 (n + 1 : Nat) x.2.2, .tuple #[.agg #[.string T, .string R], .bool true], .string s, .int .i64 n, .tuple #[.agg #[.string T, .string R], .bool true], .agg #[.string T, .string R], .bool true, .bool true, .bool false, .agg #[.string T, .string R], .int .i64 n, .func (.func 68) #[] #[.pointer (some ⟨w1.heap.size + 1 + 1 + 1, 0, none⟩), .pointer (some ⟨w1.heap.size + 1 + 1, 0, none⟩)], .int .i64 (x.1.1 : Int), .slice x.2.1 (n + 1 : Nat) x.2.2, undef, undef, undef, undef, undef, undef, undef, undef, undef, undef], defers := [] }) ?assign ?body ?done ?stop
  case assign =>
    intro l x W K hK
    have hsem := @Oper.semAt_some
    gi_wp2
    exact hK
  case body =>
    rintro l pre ⟨⟨k, hk⟩, a, c⟩ W ⟨⟨bN, bO⟩, hB⟩ ⟨hpre, hkn⟩
    have hsem := @Oper.semAt_some
    dsimp only at hpre hkn ⊢
    obtain ⟨g, o, rfl, hg, c0⟩ := hkn.reads.at (i := n) (Nat.lt_succ_self _)
    unfold partI at c0
    have hs1 := oddS_bound (fS s) hn pre.length (by omega)
    have hs2 := partF_le40 (fS s) k hn
    have hstep : oddS (fS s) n (pre ++ [((⟨k, hk⟩, (some ⟨g, o, none⟩, c)) : LenX)]).length = oddS (fS s) n pre.length + (if k % 2 = 1 then partF (fS s) k n else 0) := by
      rw [List.length_append, List.length_singleton, oddS, ← hpre]
    have HSTEP := Lib.hid hstep
    obtain ⟨v, hv⟩ : ∃ v, v = partF (fS s) k n := ⟨_, rfl⟩
    obtain ⟨u, hu⟩ : ∃ u, u = oddS (fS s) n pre.length := ⟨_, rfl⟩
    rw [← hv] at c0 hs2 HSTEP
    rw [← hu] at bO hs1 HSTEP
    have hsv : (u : Int) + (v : Int) ≤ 1099511627776000 := by omega
    have cN := bN.cell
    have cO := bO.cell
    have fO := bO.frozen
    have HBN3 := Lib.hid bN
    have HBO3 := Lib.hid bO
    have HBB := Lib.hid hB
    clear hv hu hs1 hs2 hstep bN bO hB hkn hpre
    have hmix : Try.prog.follows .mixedOrders = true := by kernel_rfl
    by_cases ho : k % 2 = 1
    · have hoi : (k : Int) % 2 = 1 := by omega
      have HSV : Hid (IntKind.i64.wrap ((u : Int) + (v : Int)) = ((oddS (fS s) n (pre ++ [((⟨k, hk⟩, (some ⟨g, o, none⟩, c)) : LenX)]).length : Nat) : Int)) := Lib.hid (by rw [HSTEP.out, if_pos ho, IntWalk.i64_in _ (by omega)]; omega)
      clear ho
      gi_wp2
      gi_region_with_o (fail)
      all_goals
        gi_wp2
        rw [HSV.out]
        exact ⟨((KeepsOthers.setCell _ _ _).trans (KeepsOthers.drew _)).from _, KeepsHi.setDrew (H := w1.heap.size + 1 + 1) (b := w1.heap.size + 1) W _ (by omega), ⟨HBN3.out.other (B' := w1.heap.size + 1) (by omega) _, HBO3.out.set _⟩, (HBB.out.setCell (p := ⟨w1.heap.size + 1, 0, none⟩) (show w.heap.size ≤ w1.heap.size + 1 from by omega) _).drew⟩
    · have hoi : (k : Int) % 2 = 0 := by omega
      have HSV : Hid (u = oddS (fS s) n (pre ++ [((⟨k, hk⟩, (some ⟨g, o, none⟩, c)) : LenX)]).length) := Lib.hid (by rw [HSTEP.out, if_neg ho]; rfl)
      clear ho
      gi_wp2
      exact ⟨KeepsFrom.refl _ _, KeepsHi.refl _ _, ⟨HBN3.out, by rw [← HSV.out]; exact HBO3.out⟩, HBB.out⟩
  case done =>
    rintro D xs W hD hxs ⟨⟨bN, bO⟩, hB⟩ hK
    rw [hxs] at bO
    have cO := bO.cell
    have HBB := Lib.hid hB
    have hDs : w.heap.size ≤ D := by simp at hD; omega
    clear bN bO hB hD
    gi_wp2
    refine ⟨by simp, .inl ⟨_, _, rfl, run_takeDeferred hK, ?_⟩⟩
    exact ⟨.tuple #[.int .i64 (oddS (fS s) n 41 : Nat), .bool true], by simp [results, Try.results37, go_sem], HO.out, HBB.out.trans (belowK_b (w := w) (Nat.le_refl _) W D _ _ hDs hK rfl rfl)⟩
  case stop =>
    rintro D pre W _ _ h _
    exact h.elim

theorem implWaysOdd (s : ByteArray) (n m : Int) (w : World) (hs : s.size ≤ 1048576) (hL : LibAt m w) :
    Calls Try.prog 37 #[.string s, .int .i64 n] w fun e w' => TellsW s n 40 oddI e ∧ Below w.heap.size w w' := by
  cases h : okW s n 40
  · exact implWaysOdd_off s n m w hs hL h
  · obtain ⟨h1, k, rfl, hk⟩ := okW_nat h
    exact implWaysOdd_on s k m w hs hL h h1 (by omega)

end Go.Proofs.Ytojjfkabepkhdaa
