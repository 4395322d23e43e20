/-
  The walk of WaysBack, of the program.
-/
import Derived.Test.YtojjfkabepkhdaaWayTabI
import Derived.Test.YtojjfkabepkhdaaWayVal
set_option linter.unusedVariables false
set_option linter.unusedSimpArgs false
namespace Go.Proofs.Ytojjfkabepkhdaa
open Go.RowKit

theorem half_le40 (f : Nat → Bool) (M : Nat) (hM : M ≤ 41) (i : Nat) : cutF (halfF f) M i ≤ 1099511627776 := by
  unfold cutF
  split
  · unfold halfF
    split
    · exact manyF_le40 f (by omega)
    · exact Nat.zero_le _
  · exact Nat.zero_le _
theorem half_cut (f : Nat → Bool) (n : Nat) : sumP f (cutF (halfF f) (n + 1)) n n = sumP f (halfF f) n n := sumP_congr n (fun y a b => by unfold cutF; rw [if_pos (by omega)])

set_option maxRecDepth 100000 in
set_option maxHeartbeats 1000000 in
theorem implWaysBack_off (s : ByteArray) (n m : Int) (w : World) (hs : s.size ≤ 1048576) (hL : LibAt m w) (h : okW s n 40 = false) :
    Calls Try.prog 40 #[.string s, .int .i64 n] w fun e w' => TellsW s n 40 backI e ∧ Below w.heap.size w w' := by
  have HO := Lib.hid (tellsW_off (F := backI) h)
  unfold okW at h
  go_enter Try.func40, Try.ntmps40
  go_wp2_with fail
  refine (waySet_any s n 40 m _ hs hL).mono ?_
  rintro e w1 ⟨⟨T, R, rfl, hsp⟩, hb⟩
  have HB1 := Lib.hid (hb.alloc hb.size (.cells #[.string T, .string R] 41))
  rw [h]
  clear hsp hb h
  go_wp2
  go_ret2
  exact ⟨HO.out, HB1.out⟩

/-- The boxes of the table and of the sum. -/
structure BackBox (w2 V : World) (B : Nat) (T R : ByteArray) (A : Option Addr) (n c : Nat) (z : Int) : Prop where
  p0 : V.cell? ⟨B, 0, none⟩ = some (.string T)
  p1 : V.cell? ⟨B, 1, none⟩ = some (.string R)
  told : Boxed V w2.heap.size 44 (.slice A (n + 1 : Nat) c)
  sum : Boxed V (w2.heap.size + 1) 3 (.int .i64 z)
  below : Below w2.heap.size w2 V
  size : V.heap.size = w2.heap.size + 2
theorem backBox_new {w2 : World} {B : Nat} {T R : ByteArray} (A : Option Addr) (n c : Nat) (z : Int) (h0 : w2.cell? ⟨B, 0, none⟩ = some (.string T)) (h1 : w2.cell? ⟨B, 1, none⟩ = some (.string R)) :
    BackBox w2 ((w2.alloc (.cells #[.slice A (n + 1 : Nat) c] 44)).alloc (.cells #[.int .i64 (z : Int)] 3)) B T R A n c z := by
  have hb : Below w2.heap.size w2 ((w2.alloc (.cells #[.slice A (n + 1 : Nat) c] 44)).alloc (.cells #[.int .i64 (z : Int)] 3)) := ((Below.refl _ _).alloc (Nat.le_refl _) _).alloc (by simp) _
  have b2 := Boxed.new (w2.alloc (.cells #[.slice A (n + 1 : Nat) c] 44)) 3 (.int .i64 (z : Int))
  rw [World.size_alloc] at b2
  exact ⟨(hb.cell (p := ⟨B, 0, none⟩) (lt_of_some h0)).trans h0, (hb.cell (p := ⟨B, 1, none⟩) (lt_of_some h1)).trans h1, (Boxed.new w2 _ _).alloc _, b2, hb, by simp⟩

set_option maxRecDepth 100000 in
set_option maxHeartbeats 4000000 in
theorem implWaysBack_on (s : ByteArray) (n : Nat) (m : Int) (w : World) (hs : s.size ≤ 1048576) (hL : LibAt m w) (h : okW s n 40 = true) (h1 : smallS s = true) (hn : n ≤ 40) :
    Calls Try.prog 40 #[.string s, .int .i64 n] w fun e w' => TellsW s n 40 backI e ∧ Below w.heap.size w w' := by
  have HO := Lib.hid (tellsW_on (F := backI) (v := ((halfF (fS s) n + sumL (cutF (halfF (fS s)) (n + 1)) n (pcL (fS s) n n (Nat.le_refl _)) : Nat) : Int)) h (by rw [sumL_pc, half_cut]; rfl))
  unfold okW at h
  refine (callsIn_wide (n := 20)).1 ?_
  refine callsIn_of_wp_marks Try.func40 rfl trivial ?_ rfl
  simp only [Try.ntmps40, List.size_toArray, List.length_cons, List.length_nil, Nat.reduceAdd, Nat.reduceSub, Array.replicate_succ, Array.replicate_zero, List.push_toArray, List.append_toArray, List.nil_append, List.cons_append]
  gi_wp2_with fail
  refine ⟨trivial, (callsIn_wide.2 (waySet_any s n 40 m _ hs hL)).mono ?_⟩
  rintro e w1 ⟨⟨T, R, rfl, hsp⟩, hb⟩
  have HSP := Lib.hid (hsp h1)
  rw [h]
  have HB1 := Lib.hid (hb.alloc hb.size (.cells #[.string T, .string R] 41))
  have hs1 := hb.size
  clear hsp hb h h1
  gi_wp2_with fail
  refine ⟨trivial, (callsIn_wide.2 (manyWays_any (fS s) T R n _ HSP.out.parts hn)).mono ?_⟩
  rintro e w2 ⟨a, c, rfl, hr, hb2⟩
  have HB2 := Lib.hid (HB1.out.trans (hb2.mono HB1.out.size))
  have hs2 := hb2.size
  rw [World.size_alloc] at hs2
  obtain ⟨p0, p1⟩ := box_later hb2
  have P0 := Lib.hid p0
  have P1 := Lib.hid p1
  have HR := Lib.hid hr
  clear hb2 hr p0 p1
  by_cases he : n % 2 = 0
  · have hei : (n : Int) % 2 = 0 := by omega
    obtain ⟨q, hq⟩ : ∃ q, q = n / 2 := ⟨_, rfl⟩
    have hqi : (n : Int) / 2 = (q : Int) := by omega
    have hqn : q < n + 1 := by omega
    have hqi2 : (q : Int) < (n : Int) + 1 := by omega
    have HHV : Hid (halfF (fS s) n = manyF (fS s) q) := Lib.hid (by unfold halfF; rw [if_pos he, hq])
    obtain ⟨b, o, rfl, hbl, c0⟩ := HR.out.at hqn
    unfold manyI at c0
    obtain ⟨z, hz⟩ : ∃ z, z = manyF (fS s) q := ⟨_, rfl⟩
    rw [← hz] at c0 HHV
    have HVV := Lib.hid (backBox_new (some ⟨b, o, none⟩) n c z P0.out P1.out)
    have HVX := Lib.hid (backBox_new (some ⟨b, o, none⟩) n c 0 P0.out P1.out)
    have cX := (HVX.out.below.cell (p := ⟨b, o + q, none⟩) hbl).trans c0
    have pX0 := HVX.out.p0
    have pX1 := HVX.out.p1
    have p0 := HVV.out.p0
    have p1 := HVV.out.p1
    clear hz he hq c0
    gi_wp2_with fail
    refine ⟨trivial, (callsIn_wide.2 (pieces_call T R n _)).mono ?_⟩
    rintro e W0 ⟨rfl, rfl⟩
    generalize (w2.alloc (.cells #[.slice (some ⟨b, o, none⟩) (n + 1 : Nat) c] 44)).alloc (.cells #[.int .i64 (z : Int)] 3) = V at p0 p1 HVV ⊢
    have hPB := pBox_new T R n V
    have HPB := Lib.hid hPB
    have bT := (HVV.out.told.alloc (.cells #[.string T, .string R] 41)).alloc (.cells #[.int .i64 n] 3)
    have bS := (HVV.out.sum.alloc (.cells #[.string T, .string R] 41)).alloc (.cells #[.int .i64 n] 3)
    have hB := (HVV.out.below.alloc (by have := HVV.out.size; omega) (.cells #[.string T, .string R] 41)).alloc (by have := HVV.out.size; simp; omega) (.cells #[.int .i64 n] 3)
    have HT := Lib.hid bT
    have HS := Lib.hid bS
    have HB := Lib.hid hB
    have HVS := Lib.hid HVV.out.size
    clear hPB bT bS hB p0 p1 cX pX0 pX1
    gi_wp2
    try simp only [World.size_alloc]
    refine wpIn_rangeFunc_ownG rfl (by decide) (gf := 79) (lb := #[.pointer (some ⟨V.heap.size + 1, 0, none⟩), .pointer (some ⟨V.heap.size, 0, none⟩)]) rfl trivial (enters_of Try.func79 (by kernel_rfl) rfl)
      (pieces_stops (fS s) T R n V.heap.size (V.heap.size + 1) _ HSP.out.parts (by omega) _ HPB.out) keepsB_t (keepsB_b (by simp; omega) (by simp)) (Below.refl _ _) (fun _ => rfl)
      (fun pre W => (Boxed W w2.heap.size 44 (.slice (some ⟨b, o, none⟩) (n + 1 : Nat) c) ∧ Boxed W (w2.heap.size + 1) 3 (.int .i64 (z + sumL (cutF (halfF (fS s)) (n + 1)) n pre : Nat))) ∧ Below w2.heap.size w2 W)
      (fun _ _ _ => False)
      (OwnFrom.and (OwnFrom.and (Own.from (boxed_own _ _ (fun _ => .slice (some ⟨b, o, none⟩) (n + 1 : Nat) c)) _) (Own.from (boxed_own _ _ (fun pre => .int .i64 (z + sumL (cutF (halfF (fS s)) (n + 1)) n pre : Nat))) _)) (ownFrom_below (Nat.le_refl _) (by have := HVS.out; simp; omega)))
      (fun _ _ _ _ _ hs _ _ => hs)
      ⟨⟨HT.out, HS.out⟩, HB.out⟩
      (fun x => { tmps := #[.string s, .int .i64 n, undef, undef, .int .i64 0, .bool false, .pointer (some ⟨w1.heap.size, 0, none⟩), .bool true, .pointer (some ⟨w2.heap.size, 0, none⟩), .pointer (some ⟨w2.heap.size + 1, 0, none⟩), undef, .int .i64 ((n - x.1 : Nat) : Int),
        .tuple #[.agg #[.string T, .string R], .bool true], .string s, .int .i64 n, .tuple #[.agg #[.string T, .string R], .bool true], .agg #[.string T, .string R], .bool true, .bool true, .bool false, .agg #[.string T, .string R], .int .i64 n, .slice (some ⟨b, o, none⟩) (n + 1 : Nat) c, .int .i64 n, .int .i64 0, .bool true, .slice (some ⟨b, o, none⟩) (n + 1 : Nat) c, .int .i64 n, .int .i64 q, .pointer (some ⟨b, o + q, none⟩), .int .i64 z,
        .agg #[.string T, .string R], .int .i64 n, .func (.func 79) #[] #[.pointer (some ⟨V.heap.size + 1, 0, none⟩), .pointer (some ⟨V.heap.size, 0, none⟩)], .int .i64 (x.1 : Int), .int .i64 ((n - x.1 : Nat) : Int), undef, undef, undef, undef, undef, undef, undef, undef, undef, undef, undef], defers := [] }) ?assign ?body ?done ?stop
    case assign =>
      intro l x W K hK
      have hsem := @Oper.semAt_some
      gi_wp2
      exact hK
    case body =>
      rintro l pre x W ⟨⟨bT, bS⟩, hB⟩ hlen
      have hsem := @Oper.semAt_some
      have hx1 := x.2.1
      have hx2 := x.2.2
      obtain ⟨y, hy⟩ : ∃ y, y = n - x.1 := ⟨_, rfl⟩
      rw [← hy]
      obtain ⟨r, hr⟩ : ∃ r, r = y / 2 := ⟨_, rfl⟩
      have hri : (y : Int) / 2 = (r : Int) := by omega
      have hrn : r < n + 1 := by omega
      have hrn2 : (r : Int) < (n : Int) + 1 := by omega
      have hwr : IntKind.i64.wrap (r : Int) = (r : Int) := IntWalk.i64_in _ (by omega)
      obtain ⟨g, o2, hao, hg, cc⟩ := (HR.out.below hB (Nat.le_refl _)).at hrn
      cases hao
      unfold manyI at cc
      have hb1 := sumL_le (cutF (halfF (fS s)) (n + 1)) n _ (half_le40 (fS s) (n + 1) (by omega)) pre
      have hb2 := manyF_le40 (fS s) (i := r) (by omega)
      have hb3 : z ≤ 1099511627776 := by rw [← HHV.out]; unfold halfF; split; exact manyF_le40 (fS s) (by omega); exact Nat.zero_le _
      have hstep : z + sumL (cutF (halfF (fS s)) (n + 1)) n (pre ++ [x]) = (z + sumL (cutF (halfF (fS s)) (n + 1)) n pre) + (if y % 2 = 0 then manyF (fS s) r else 0) := by
        rw [sumL_snoc, ← hy]
        unfold cutF halfF
        rw [if_pos (by omega), hr]
        omega
      have HSTEP := Lib.hid hstep
      obtain ⟨v, hv⟩ : ∃ v, v = manyF (fS s) r := ⟨_, rfl⟩
      obtain ⟨u, hu⟩ : ∃ u, u = z + sumL (cutF (halfF (fS s)) (n + 1)) n pre := ⟨_, rfl⟩
      rw [← hv] at cc hb2 HSTEP
      rw [← hu] at bS HSTEP
      have hsv : (u : Int) + (v : Int) ≤ 109951162777600 := by omega
      have cT := bT.cell
      have cS := bS.cell
      have fS2 := bS.frozen
      have HBT := Lib.hid bT
      have HBS := Lib.hid bS
      have HBB := Lib.hid hB
      clear hv hu hb1 hb2 hb3 hstep bT bS hB hr hx1 hx2
      have hmix : Try.prog.follows .mixedOrders = true := by kernel_rfl
      by_cases ho : y % 2 = 0
      · have hoi : (y : Int) % 2 = 0 := by omega
        have HSV : Hid (IntKind.i64.wrap ((u : Int) + (v : Int)) = ((z + sumL (cutF (halfF (fS s)) (n + 1)) n (pre ++ [x]) : Nat) : Int)) := Lib.hid (by rw [HSTEP.out, if_pos ho, IntWalk.i64_in _ (by omega)]; omega)
        clear ho hy
        gi_wp2
        gi_region_with_o (fail)
        all_goals
          gi_wp2
          rw [HSV.out]
          exact ⟨((KeepsOthers.setCell _ _ _).trans (KeepsOthers.drew _)).from _, KeepsB.setDrew (p := V.heap.size) (q := V.heap.size + 1) (b := w2.heap.size + 1) W _ (by have := HVS.out; omega) (by have := HVS.out; omega), ⟨HBT.out.other (B' := w2.heap.size + 1) (by omega) _, HBS.out.set _⟩, (HBB.out.setCell (p := ⟨w2.heap.size + 1, 0, none⟩) (Nat.le_succ _) _).drew⟩
      · have hoi : (y : Int) % 2 = 1 := by omega
        have HSV : Hid (u = z + sumL (cutF (halfF (fS s)) (n + 1)) n (pre ++ [x])) := Lib.hid (by rw [HSTEP.out, if_neg ho]; rfl)
        clear ho hy
        gi_wp2
        exact ⟨KeepsFrom.refl _ _, KeepsB.refl _ _ _, ⟨HBT.out, by rw [← HSV.out]; exact HBS.out⟩, HBB.out⟩
    case done =>
      rintro D xs W hD rfl ⟨⟨bT, bS⟩, hB⟩ hK
      rw [← HHV.out] at bS
      have cS := bS.cell
      have HBB := Lib.hid (HB2.out.trans (hB.mono HB2.out.size))
      have hDs : w.heap.size ≤ D := by have := HB2.out.size; have := HVS.out; simp at hD; omega
      clear bT bS hB hD
      gi_wp2
      refine ⟨by simp, .inl ⟨_, _, rfl, run_takeDeferred hK, ?_⟩⟩
      exact ⟨.tuple #[.int .i64 (halfF (fS s) n + sumL (cutF (halfF (fS s)) (n + 1)) n (pcL (fS s) n n (Nat.le_refl _)) : Nat), .bool true], by simp [results, Try.results40, go_sem], HO.out, HBB.out.trans (belowK_b (w := w) (Nat.le_refl _) W D _ _ hDs hK rfl rfl)⟩
    case stop =>
      rintro D c pre W _ _ h _
      exact h.elim
  · have hei : (n : Int) % 2 = 1 := by omega
    have HHV : Hid (halfF (fS s) n = 0) := Lib.hid (by unfold halfF; rw [if_neg he])
    have HVV := Lib.hid (backBox_new a n c 0 P0.out P1.out)
    have p0 := HVV.out.p0
    have p1 := HVV.out.p1
    clear he
    gi_wp2_with fail
    refine ⟨trivial, (callsIn_wide.2 (pieces_call T R n _)).mono ?_⟩
    rintro e W0 ⟨rfl, rfl⟩
    generalize (w2.alloc (.cells #[.slice a (n + 1 : Nat) c] 44)).alloc (.cells #[.int .i64 0] 3) = V at p0 p1 HVV ⊢
    have hPB := pBox_new T R n V
    have HPB := Lib.hid hPB
    have bT := (HVV.out.told.alloc (.cells #[.string T, .string R] 41)).alloc (.cells #[.int .i64 n] 3)
    have bS := (HVV.out.sum.alloc (.cells #[.string T, .string R] 41)).alloc (.cells #[.int .i64 n] 3)
    have hB := (HVV.out.below.alloc (by have := HVV.out.size; omega) (.cells #[.string T, .string R] 41)).alloc (by have := HVV.out.size; simp; omega) (.cells #[.int .i64 n] 3)
    have HT := Lib.hid bT
    have HS := Lib.hid bS
    have HB := Lib.hid hB
    have HVS := Lib.hid HVV.out.size
    clear hPB bT bS hB p0 p1 
    gi_wp2
    try simp only [World.size_alloc]
    refine wpIn_rangeFunc_ownG rfl (by decide) (gf := 79) (lb := #[.pointer (some ⟨V.heap.size + 1, 0, none⟩), .pointer (some ⟨V.heap.size, 0, none⟩)]) rfl trivial (enters_of Try.func79 (by kernel_rfl) rfl)
      (pieces_stops (fS s) T R n V.heap.size (V.heap.size + 1) _ HSP.out.parts (by omega) _ HPB.out) keepsB_t (keepsB_b (by simp; omega) (by simp)) (Below.refl _ _) (fun _ => rfl)
      (fun pre W => (Boxed W w2.heap.size 44 (.slice a (n + 1 : Nat) c) ∧ Boxed W (w2.heap.size + 1) 3 (.int .i64 (0 + sumL (cutF (halfF (fS s)) (n + 1)) n pre : Nat))) ∧ Below w2.heap.size w2 W)
      (fun _ _ _ => False)
      (OwnFrom.and (OwnFrom.and (Own.from (boxed_own _ _ (fun _ => .slice a (n + 1 : Nat) c)) _) (Own.from (boxed_own _ _ (fun pre => .int .i64 (0 + sumL (cutF (halfF (fS s)) (n + 1)) n pre : Nat))) _)) (ownFrom_below (Nat.le_refl _) (by have := HVS.out; simp; omega)))
      (fun _ _ _ _ _ hs _ _ => hs)
      ⟨⟨HT.out, HS.out⟩, HB.out⟩
      (fun x => { tmps := #[.string s, .int .i64 n, undef, undef, .int .i64 0, .bool false, .pointer (some ⟨w1.heap.size, 0, none⟩), .bool true, .pointer (some ⟨w2.heap.size, 0, none⟩), .pointer (some ⟨w2.heap.size + 1, 0, none⟩), undef, .int .i64 ((n - x.1 : Nat) : Int),
        .tuple #[.agg #[.string T, .string R], .bool true], .string s, .int .i64 n, .tuple #[.agg #[.string T, .string R], .bool true], .agg #[.string T, .string R], .bool true, .bool true, .bool false, .agg #[.string T, .string R], .int .i64 n, .slice a (n + 1 : Nat) c, .int .i64 n, .int .i64 1, .bool false, undef, undef, undef, undef, undef,
        .agg #[.string T, .string R], .int .i64 n, .func (.func 79) #[] #[.pointer (some ⟨V.heap.size + 1, 0, none⟩), .pointer (some ⟨V.heap.size, 0, none⟩)], .int .i64 (x.1 : Int), .int .i64 ((n - x.1 : Nat) : Int), undef, undef, undef, undef, undef, undef, undef, undef, undef, undef, undef], defers := [] }) ?assign ?body ?done ?stop
    case assign =>
      intro l x W K hK
      have hsem := @Oper.semAt_some
      gi_wp2
      exact hK
    case body =>
      rintro l pre x W ⟨⟨bT, bS⟩, hB⟩ hlen
      have hsem := @Oper.semAt_some
      have hx1 := x.2.1
      have hx2 := x.2.2
      obtain ⟨y, hy⟩ : ∃ y, y = n - x.1 := ⟨_, rfl⟩
      rw [← hy]
      obtain ⟨r, hr⟩ : ∃ r, r = y / 2 := ⟨_, rfl⟩
      have hri : (y : Int) / 2 = (r : Int) := by omega
      have hrn : r < n + 1 := by omega
      have hrn2 : (r : Int) < (n : Int) + 1 := by omega
      have hwr : IntKind.i64.wrap (r : Int) = (r : Int) := IntWalk.i64_in _ (by omega)
      obtain ⟨g, o2, hao, hg, cc⟩ := (HR.out.below hB (Nat.le_refl _)).at hrn
      subst hao
      unfold manyI at cc
      have hb1 := sumL_le (cutF (halfF (fS s)) (n + 1)) n _ (half_le40 (fS s) (n + 1) (by omega)) pre
      have hb2 := manyF_le40 (fS s) (i := r) (by omega)
      have hb3 : 0 ≤ 1099511627776 := by rw [← HHV.out]; unfold halfF; split; exact manyF_le40 (fS s) (by omega); exact Nat.zero_le _
      have hstep : 0 + sumL (cutF (halfF (fS s)) (n + 1)) n (pre ++ [x]) = (0 + sumL (cutF (halfF (fS s)) (n + 1)) n pre) + (if y % 2 = 0 then manyF (fS s) r else 0) := by
        rw [sumL_snoc, ← hy]
        unfold cutF halfF
        rw [if_pos (by omega), hr]
        omega
      have HSTEP := Lib.hid hstep
      obtain ⟨v, hv⟩ : ∃ v, v = manyF (fS s) r := ⟨_, rfl⟩
      obtain ⟨u, hu⟩ : ∃ u, u = 0 + sumL (cutF (halfF (fS s)) (n + 1)) n pre := ⟨_, rfl⟩
      rw [← hv] at cc hb2 HSTEP
      rw [← hu] at bS HSTEP
      have hsv : (u : Int) + (v : Int) ≤ 109951162777600 := by omega
      have cT := bT.cell
      have cS := bS.cell
      have fS2 := bS.frozen
      have HBT := Lib.hid bT
      have HBS := Lib.hid bS
      have HBB := Lib.hid hB
      clear hv hu hb1 hb2 hb3 hstep bT bS hB hr hx1 hx2
      have hmix : Try.prog.follows .mixedOrders = true := by kernel_rfl
      by_cases ho : y % 2 = 0
      · have hoi : (y : Int) % 2 = 0 := by omega
        have HSV : Hid (IntKind.i64.wrap ((u : Int) + (v : Int)) = ((0 + sumL (cutF (halfF (fS s)) (n + 1)) n (pre ++ [x]) : Nat) : Int)) := Lib.hid (by rw [HSTEP.out, if_pos ho, IntWalk.i64_in _ (by omega)]; omega)
        clear ho hy
        gi_wp2
        gi_region_with_o (fail)
        all_goals
          gi_wp2
          rw [HSV.out]
          exact ⟨((KeepsOthers.setCell _ _ _).trans (KeepsOthers.drew _)).from _, KeepsB.setDrew (p := V.heap.size) (q := V.heap.size + 1) (b := w2.heap.size + 1) W _ (by have := HVS.out; omega) (by have := HVS.out; omega), ⟨HBT.out.other (B' := w2.heap.size + 1) (by omega) _, HBS.out.set _⟩, (HBB.out.setCell (p := ⟨w2.heap.size + 1, 0, none⟩) (Nat.le_succ _) _).drew⟩
      · have hoi : (y : Int) % 2 = 1 := by omega
        have HSV : Hid (u = 0 + sumL (cutF (halfF (fS s)) (n + 1)) n (pre ++ [x])) := Lib.hid (by rw [HSTEP.out, if_neg ho]; rfl)
        clear ho hy
        gi_wp2
        exact ⟨KeepsFrom.refl _ _, KeepsB.refl _ _ _, ⟨HBT.out, by rw [← HSV.out]; exact HBS.out⟩, HBB.out⟩
    case done =>
      rintro D xs W hD rfl ⟨⟨bT, bS⟩, hB⟩ hK
      rw [← HHV.out] at bS
      have cS := bS.cell
      have HBB := Lib.hid (HB2.out.trans (hB.mono HB2.out.size))
      have hDs : w.heap.size ≤ D := by have := HB2.out.size; have := HVS.out; simp at hD; omega
      clear bT bS hB hD
      gi_wp2
      refine ⟨by simp, .inl ⟨_, _, rfl, run_takeDeferred hK, ?_⟩⟩
      exact ⟨.tuple #[.int .i64 (halfF (fS s) n + sumL (cutF (halfF (fS s)) (n + 1)) n (pcL (fS s) n n (Nat.le_refl _)) : Nat), .bool true], by simp [results, Try.results40, go_sem], HO.out, HBB.out.trans (belowK_b (w := w) (Nat.le_refl _) W D _ _ hDs hK rfl rfl)⟩
    case stop =>
      rintro D c pre W _ _ h _
      exact h.elim

theorem implWaysBack (s : ByteArray) (n m : Int) (w : World) (hs : s.size ≤ 1048576) (hL : LibAt m w) :
    Calls Try.prog 40 #[.string s, .int .i64 n] w fun e w' => TellsW s n 40 backI e ∧ Below w.heap.size w w' := by
  cases h : okW s n 40
  · exact implWaysBack_off s n m w hs hL h
  · obtain ⟨h1, k, rfl, hk⟩ := okW_nat h
    exact implWaysBack_on s k m w hs hL h h1 (by omega)

end Go.Proofs.Ytojjfkabepkhdaa
