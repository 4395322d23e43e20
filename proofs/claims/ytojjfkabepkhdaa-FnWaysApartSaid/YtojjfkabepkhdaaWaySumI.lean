/-
  The sum of what is told of all that may be left (sumOfLeft), of the program: a loop over the iterator.
-/
import Derived.Test.YtojjfkabepkhdaaWayI
import Derived.Test.YtojjfkabepkhdaaWayRow
set_option linter.unusedVariables false
set_option linter.unusedSimpArgs false
namespace Go.Proofs.Ytojjfkabepkhdaa
open Go.RowKit

/-- The sum over numbers that have come. -/
def sumL (h : Nat → Nat) (n : Nat) (l : List (Pc n)) : Nat := (l.map fun y => h (n - y.1)).sum
theorem sumL_snoc (h : Nat → Nat) (n : Nat) (l : List (Pc n)) (y : Pc n) : sumL h n (l ++ [y]) = sumL h n l + h (n - y.1) := by simp [sumL]
theorem sumL_pc (f : Nat → Bool) (h : Nat → Nat) (n : Nat) : ∀ k hk, sumL h n (pcL f n k hk) = sumP f h n k
  | 0, _ => rfl
  | k + 1, hk => by
    rw [sumP]
    by_cases hf : f (k + 1) = true
    · rw [pcL_yes hk hf, sumL_snoc, sumL_pc f h n k, if_pos hf]
    · rw [pcL_no hk (by simpa using hf), sumL_pc f h n k, if_neg hf, Nat.add_zero]
theorem sumL_le (h : Nat → Nat) (n C : Nat) (hC : ∀ i, h i ≤ C) (l : List (Pc n)) : sumL h n l ≤ l.length * C := by
  induction l with
  | nil => exact Nat.zero_le _
  | cons a l ih =>
    have e : sumL h n (a :: l) = h (n - a.1) + sumL h n l := by simp [sumL]
    have := hC (n - a.1)
    rw [e, List.length_cons, Nat.add_mul, Nat.one_mul]
    omega

set_option maxRecDepth 100000 in
set_option maxHeartbeats 2000000 in
theorem sumOfLeft_any (f : Nat → Bool) (T R : ByteArray) (n M c : Nat) (a : Option Addr) (h : Nat → Nat) (w : World) (hf : Tells f T R) (hn : n ≤ 1000) (hM : n ≤ M) (hr : ReadsI w a M (natsOf h M)) (hh : ∀ i, h i ≤ 1099511627776) :
    Calls Try.prog 65 #[.agg #[.string T, .string R], .int .i64 n, .slice a M c] w fun e w' => e = .returned (.int .i64 (sumP f h n n : Nat)) ∧ Below w.heap.size w w' := by
  refine (callsIn_wide (n := 20)).1 ?_
  refine callsIn_of_wp_marks Try.func65 rfl trivial ?_ rfl
  simp only [Try.ntmps65, List.size_toArray, List.length_cons, List.length_nil, Nat.reduceAdd, Nat.reduceSub, Array.replicate_succ, Array.replicate_zero, List.push_toArray, List.append_toArray, List.nil_append, List.cons_append]
  gi_wp2_with fail
  refine ⟨trivial, (callsIn_wide.2 (pieces_call T R n _)).mono ?_⟩
  rintro e W1 ⟨rfl, rfl⟩
  have hPB := pBox_new T R n (((w.alloc (.cells #[.string T, .string R] 41)).alloc (.cells #[.slice a M c] 44)).alloc (.cells #[.int .i64 0] 3))
  have hB0 : Below w.heap.size w (((((w.alloc (.cells #[.string T, .string R] 41)).alloc (.cells #[.slice a M c] 44)).alloc (.cells #[.int .i64 0] 3)).alloc (.cells #[.string T, .string R] 41)).alloc (.cells #[.int .i64 n] 3)) :=
    (((((Below.refl _ w).alloc (Nat.le_refl _) _).alloc (by simp) _).alloc (by simp; omega) _).alloc (by simp; omega) _).alloc (by simp; omega) _
  have bT := (((Boxed.new (w.alloc (.cells #[.string T, .string R] 41)) 44 (.slice a M c)).alloc (.cells #[.int .i64 0] 3)).alloc (.cells #[.string T, .string R] 41)).alloc (.cells #[.int .i64 n] 3)
  have bS := ((Boxed.new ((w.alloc (.cells #[.string T, .string R] 41)).alloc (.cells #[.slice a M c] 44)) 3 (.int .i64 0)).alloc (.cells #[.string T, .string R] 41)).alloc (.cells #[.int .i64 n] 3)
  simp only [World.size_alloc] at hPB bT bS
  have HPB := Lib.hid hPB
  have HB0 := Lib.hid hB0
  have HT := Lib.hid bT
  have HS := Lib.hid bS
  clear hPB hB0 bT bS
  gi_wp2
  try simp only [World.size_alloc]
  refine wpIn_rangeFunc_ownG rfl (by decide) (gf := 79) (lb := #[.pointer (some ⟨w.heap.size + 1 + 1 + 1 + 1, 0, none⟩), .pointer (some ⟨w.heap.size + 1 + 1 + 1, 0, none⟩)]) rfl trivial (enters_of Try.func79 (by kernel_rfl) rfl)
    (pieces_stops f T R n (w.heap.size + 1 + 1 + 1) (w.heap.size + 1 + 1 + 1 + 1) _ hf hn _ HPB.out) keepsB_t (keepsB_b (by simp) (by simp)) (Below.refl _ _) (fun _ => rfl)
    (fun pre W => (Boxed W (w.heap.size + 1) 44 (.slice a M c) ∧ Boxed W (w.heap.size + 1 + 1) 3 (.int .i64 (sumL h n pre : Nat))) ∧ Below w.heap.size w W)
    (fun _ _ _ => False)
    (OwnFrom.and (OwnFrom.and (Own.from (boxed_own _ _ (fun _ => .slice a M c)) _) (Own.from (boxed_own _ _ (fun pre => .int .i64 (sumL h n pre : Nat))) _)) (ownFrom_below (Nat.le_refl _) (by simp; omega)))
    (fun _ _ _ _ _ hs _ _ => hs)
    ⟨⟨HT.out, HS.out⟩, HB0.out⟩
    (fun x => { tmps := #[.agg #[.string T, .string R], .int .i64 n, .slice a M c, .pointer (some ⟨w.heap.size, 0, none⟩), undef, .pointer (some ⟨w.heap.size + 1, 0, none⟩), .int .i64 0, .pointer (some ⟨w.heap.size + 1 + 1, 0, none⟩), undef, .int .i64 ((n - x.1 : Nat) : Int), .agg #[.string T, .string R], .int .i64 n, .func (.func 79) #[] #[.pointer (some ⟨w.heap.size + 1 + 1 + 1 + 1, 0, none⟩), .pointer (some ⟨w.heap.size + 1 + 1 + 1, 0, none⟩)], .int .i64 (x.1 : Int), .int .i64 ((n - x.1 : Nat) : Int), undef, undef, undef, undef, undef, undef, undef], defers := [] }) ?assign ?body ?done ?stop
  case assign =>
    intro l x W K hK
    have hsem := @Oper.semAt_some
    gi_wp2
    exact hK
  case body =>
    rintro l pre x W ⟨⟨bT, bS⟩, hB⟩ hlen
    have hsem := @Oper.semAt_some
    have hx1 := x.2.1
    have hx2 := x.2.2
    obtain ⟨g, o, rfl, hg, hcells⟩ := (hr.below hB (Nat.le_refl _)).cells.resolve_left (by omega)
    obtain ⟨z, hz⟩ : ∃ z, z = n - x.1 := ⟨_, rfl⟩
    rw [← hz]
    have c0 := hcells z (by omega)
    rw [natsOf_at h (by omega)] at c0
    have hs1 := sumL_le h n _ hh pre
    have hs2 := hh z
    have hs3 : sumL h n (pre ++ [x]) = sumL h n pre + h z := by rw [sumL_snoc, hz]
    have HS3 := Lib.hid hs3
    obtain ⟨s, hs⟩ : ∃ s, s = sumL h n pre := ⟨_, rfl⟩
    obtain ⟨v, hv⟩ : ∃ v, v = h z := ⟨_, rfl⟩
    rw [← hs] at bS hs1 HS3
    rw [← hv] at c0 hs2 HS3
    have hsv : (s : Int) + (v : Int) ≤ 1099511627776000 := by omega
    have hzn : (z : Int) < (M : Int) := by omega
    have cT := bT.cell
    have cS := bS.cell
    have fS := bS.frozen
    have HBT := Lib.hid bT
    have HBS := Lib.hid bS
    have HBB := Lib.hid hB
    clear hs hv hs1 hs2 hs3 hcells bT bS hB hz hr hh
    have hmix : Try.prog.follows .mixedOrders = true := by kernel_rfl
    gi_wp2
    gi_region_with_o (fail)
    all_goals
      gi_wp2
      rw [show IntKind.i64.wrap ((s : Int) + (v : Int)) = ((sumL h n (pre ++ [x]) : Nat) : Int) from by rw [HS3.out, IntWalk.i64_in _ (by omega)]; omega]
      exact ⟨((KeepsOthers.setCell _ _ _).trans (KeepsOthers.drew _)).from _, KeepsB.setDrew (p := w.heap.size + 1 + 1 + 1) (q := w.heap.size + 1 + 1 + 1 + 1) (b := w.heap.size + 1 + 1) W _ (by omega) (by omega), ⟨HBT.out.other (B' := w.heap.size + 1 + 1) (by omega) _, HBS.out.set _⟩, (HBB.out.setCell (p := ⟨w.heap.size + 1 + 1, 0, none⟩) (show w.heap.size ≤ w.heap.size + 1 + 1 from by omega) _).drew⟩
  case done =>
    rintro D ys W hD rfl ⟨⟨bT, bS⟩, hB⟩ hK
    rw [sumL_pc] at bS
    have cS := bS.cell
    gi_wp2
    refine ⟨by simp, .inl ⟨_, _, rfl, run_takeDeferred hK, ?_⟩⟩
    exact ⟨_, results_tmp rfl _ _ _, rfl, hB.trans (belowK_b (w := w) (Nat.le_refl _) W D _ _ (by simp at hD; omega) hK rfl rfl)⟩
  case stop =>
    rintro D c pre W _ _ h _
    exact h.elim

end Go.Proofs.Ytojjfkabepkhdaa
