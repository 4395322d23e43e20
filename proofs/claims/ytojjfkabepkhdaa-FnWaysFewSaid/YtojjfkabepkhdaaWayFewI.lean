/-
  The fewest numbers of a way, of the program (fewest): a loop over the iterator, and the table.
-/
import Derived.Test.YtojjfkabepkhdaaWayTabI
import Derived.Test.YtojjfkabepkhdaaWayVal
set_option linter.unusedVariables false
set_option linter.unusedSimpArgs false
namespace Go.Proofs.Ytojjfkabepkhdaa
open Go.RowKit

/-- One number more is looked at. -/
def stepB (b v : Int) : Int := if v ≠ -1 ∧ (b = -1 ∨ v + 1 < b) then v + 1 else b
def bestL (h : Nat → Int) (n : Nat) (l : List (Pc n)) : Int := l.foldl (fun b y => stepB b (h (n - y.1))) (-1)
theorem bestL_snoc (h : Nat → Int) (n : Nat) (l : List (Pc n)) (y : Pc n) : bestL h n (l ++ [y]) = stepB (bestL h n l) (h (n - y.1)) := by simp [bestL]
theorem bestL_pc (f : Nat → Bool) (h : Nat → Int) (n : Nat) : ∀ k hk, bestL h n (pcL f n k hk) = bestP f h n k
  | 0, _ => rfl
  | k + 1, hk => by
    rw [bestP]
    by_cases hf : f (k + 1) = true
    · rw [pcL_yes hk hf, bestL_snoc, bestL_pc f h n k]
      unfold stepB
      by_cases hc : h (n - (k + 1)) ≠ -1 ∧ (bestP f h n k = -1 ∨ h (n - (k + 1)) + 1 < bestP f h n k)
      · rw [if_pos hc, if_pos ⟨hf, hc⟩]
      · rw [if_neg hc, if_neg (fun x => hc x.2)]
    · rw [pcL_no hk (by simpa using hf), bestL_pc f h n k, if_neg (fun x => hf x.1)]
theorem bestL_in (h : Nat → Int) (n : Nat) (hh : ∀ i, i < n → -1 ≤ h i ∧ h i ≤ 1000) (l : List (Pc n)) : -1 ≤ bestL h n l ∧ bestL h n l ≤ 1001 := by
  unfold bestL
  have key : ∀ (l : List (Pc n)) (b : Int), -1 ≤ b ∧ b ≤ 1001 → -1 ≤ l.foldl (fun b y => stepB b (h (n - y.1))) b ∧ l.foldl (fun b y => stepB b (h (n - y.1))) b ≤ 1001 := by
    intro l
    induction l with
    | nil => intro b hb; exact hb
    | cons y l ih =>
      intro b hb
      refine ih _ ?_
      have h1 := y.2.1
      have h2 := y.2.2
      have := hh (n - y.1) (by omega)
      show -1 ≤ stepB b (h (n - y.1)) ∧ stepB b (h (n - y.1)) ≤ 1001
      unfold stepB
      split <;> omega
  exact key l (-1) (by decide)

set_option maxRecDepth 100000 in
set_option maxHeartbeats 4000000 in
theorem fewNext (f : Nat → Bool) (T R : ByteArray) (Bp n c : Nat) (a : Option Addr) (h : Nat → Int) (w : World) (hf : Tells f T R) (hn : n ≤ 1000) (hp : w.heap[Bp]? = some (.cells #[.string T, .string R] 41 (0, 0)))
    (hr : ReadsI w a n (intsOf h n)) (hh : ∀ i, i < n → -1 ≤ h i ∧ h i ≤ 1000) :
    Calls Try.prog 75 #[.slice a n c, .pointer (some ⟨Bp, 0, none⟩)] w fun e w' => e = .returned (.int .i64 (if n = 0 then 0 else bestP f h n n)) ∧ Below w.heap.size w w' := by
  have p0 : w.cell? ⟨Bp, 0, none⟩ = some (.string T) := by rw [cell_of_row w _ _ _ _ _ hp]; rfl
  have p1 : w.cell? ⟨Bp, 1, none⟩ = some (.string R) := by rw [cell_of_row w _ _ _ _ _ hp]; rfl
  by_cases h0 : n = 0
  · subst h0
    clear hp hr hf hh
    go_enter Try.func75, Try.ntmps75
    go_wp2
    go_ret
    exact ⟨rfl, (Below.refl _ _).alloc (Nat.le_refl _) _⟩
  · rw [if_neg h0]
    have hn0 : ¬ (n : Int) = 0 := by omega
    have hn0b : ((n : Int) == 0) = false := by simp; omega
    have hx : Below w.heap.size w ((w.alloc (.cells #[.slice a n c] 44)).alloc (.cells #[.int .i64 (-1)] 3)) := ((Below.refl _ w).alloc (Nat.le_refl _) _).alloc (by simp) _
    have bT := (Boxed.new w 44 (.slice a n c)).alloc (.cells #[.int .i64 (-1)] 3)
    have bS := Boxed.new (w.alloc (.cells #[.slice a n c] 44)) 3 (.int .i64 (-1))
    rw [World.size_alloc] at bS
    have HX := Lib.hid hx
    have HT := Lib.hid bT
    have HS := Lib.hid bS
    have P0 := Lib.hid p0
    have P1 := Lib.hid p1
    have p0 := (hx.cell (p := ⟨Bp, 0, none⟩) (lt_of_some P0.out)).trans P0.out
    have p1 := (hx.cell (p := ⟨Bp, 1, none⟩) (lt_of_some P0.out)).trans P1.out
    have cT := bT.cell
    clear hx bT bS hp
    refine (callsIn_wide (n := 20)).1 ?_
    refine callsIn_of_wp_marks Try.func75 rfl trivial ?_ rfl
    simp only [Try.ntmps75, List.size_toArray, List.length_cons, List.length_nil, Nat.reduceAdd, Nat.reduceSub, Array.replicate_succ, Array.replicate_zero, List.push_toArray, List.append_toArray, List.nil_append, List.cons_append]
    gi_wp2_with fail
    refine ⟨trivial, (callsIn_wide.2 (pieces_call T R n _)).mono ?_⟩
    rintro e W0 ⟨rfl, rfl⟩
    generalize (w.alloc (.cells #[.slice a n c] 44)).alloc (.cells #[.int .i64 (-1)] 3) = V at p0 p1 cT HX HT HS ⊢
    have HPB := Lib.hid (pBox_new T R n V)
    have hvl := HS.out.lt
    have HVL := Lib.hid hvl
    have HT2 := Lib.hid ((HT.out.alloc (.cells #[.string T, .string R] 41)).alloc (.cells #[.int .i64 n] 3))
    have HS2 := Lib.hid ((HS.out.alloc (.cells #[.string T, .string R] 41)).alloc (.cells #[.int .i64 n] 3))
    have HX2 := Lib.hid ((HX.out.alloc (by omega) (.cells #[.string T, .string R] 41)).alloc (by simp; omega) (.cells #[.int .i64 n] 3))
    clear p0 p1 cT hvl
    gi_wp2
    try simp only [World.size_alloc]
    refine wpIn_rangeFunc_ownG rfl (by decide) (gf := 79) (lb := #[.pointer (some ⟨V.heap.size + 1, 0, none⟩), .pointer (some ⟨V.heap.size, 0, none⟩)]) rfl trivial (enters_of Try.func79 (by kernel_rfl) rfl)
      (pieces_stops f T R n V.heap.size (V.heap.size + 1) _ hf hn _ HPB.out) keepsB_t (keepsB_b (by simp; omega) (by simp)) (Below.refl _ _) (fun _ => rfl)
      (fun pre W => (Boxed W w.heap.size 44 (.slice a n c) ∧ Boxed W (w.heap.size + 1) 3 (.int .i64 (bestL h n pre))) ∧ Below w.heap.size w W)
      (fun _ _ _ => False)
      (OwnFrom.and (OwnFrom.and (Own.from (boxed_own _ _ (fun _ => .slice a n c)) _) (Own.from (boxed_own _ _ (fun pre => .int .i64 (bestL h n pre))) _)) (ownFrom_below (Nat.le_refl _) (by have := HVL.out; simp; omega)))
      (fun _ _ _ _ _ hs _ _ => hs)
      ⟨⟨HT2.out, HS2.out⟩, HX2.out⟩
      (fun x => { tmps := #[.slice a n c, .pointer (some ⟨Bp, 0, none⟩), .pointer (some ⟨w.heap.size, 0, none⟩), .int .i64 0, .pointer (some ⟨w.heap.size + 1, 0, none⟩), undef, .int .i64 ((n - x.1 : Nat) : Int), undef, .slice a n c, .int .i64 n, .bool false, .agg #[.string T, .string R], .slice a n c, .int .i64 n, .func (.func 79) #[] #[.pointer (some ⟨V.heap.size + 1, 0, none⟩), .pointer (some ⟨V.heap.size, 0, none⟩)], .int .i64 (x.1 : Int), .int .i64 ((n - x.1 : Nat) : Int), undef, undef, undef, undef, undef, undef, undef, undef, undef, undef, undef, undef, undef, undef, undef, undef, undef, undef, undef], defers := [] }) ?assign ?body ?done ?stop
    case assign =>
      intro l x W K hK
      have hsem := @Oper.semAt_some
      gi_wp2
      exact hK
    case body =>
      rintro l pre x W ⟨⟨bT, bS⟩, hB⟩ hlen
      have hsem := @Oper.semAt_some
      have hx1 := x.2.1
      have hx2 := x.2.2
      obtain ⟨z, hz⟩ : ∃ z, z = n - x.1 := ⟨_, rfl⟩
      rw [← hz]
      have hzn : z < n := by omega
      have hzni : (z : Int) < (n : Int) := by omega
      obtain ⟨g, o, hao, hg, c0⟩ := (hr.below hB (Nat.le_refl _)).at hzn
      subst hao
      have hv1 := hh z hzn
      have hb1 := bestL_in h n hh pre
      have hstep : bestL h n (pre ++ [x]) = stepB (bestL h n pre) (h z) := by rw [bestL_snoc, ← hz]
      have HSTEP := Lib.hid hstep
      obtain ⟨v, hv⟩ : ∃ v, v = h z := ⟨_, rfl⟩
      obtain ⟨b, hb⟩ : ∃ b, b = bestL h n pre := ⟨_, rfl⟩
      rw [← hv] at c0 hv1 HSTEP
      rw [← hb] at bS hb1 HSTEP
      have cT := bT.cell
      have cS := bS.cell
      have fS2 := bS.frozen
      have HBT := Lib.hid bT
      have HBS := Lib.hid bS
      have HBB := Lib.hid hB
      clear hv hb hstep bT bS hB hr hx1 hx2 hz hh
      have fin : ∀ u : Int, bestL h n (pre ++ [x]) = u → (Boxed (W.setCell ⟨w.heap.size + 1, 0, none⟩ (.int .i64 u)) (w.heap.size + 1) 3 (.int .i64 (bestL h n (pre ++ [x])))) := fun u hu => by rw [hu]; exact HBS.out.set _
      have HFIN := Lib.hid fin
      clear fin
      by_cases hvm : v = -1
      · have HE : Hid (bestL h n (pre ++ [x]) = b) := Lib.hid (by rw [HSTEP.out]; unfold stepB; exact if_neg (fun e => e.1 hvm))
        subst hvm
        gi_wp2
        exact ⟨KeepsFrom.refl _ _, KeepsB.refl _ _ _, ⟨HBT.out, by rw [HE.out]; exact HBS.out⟩, HBB.out⟩
      · have hvb : (v != -1) = true := by simpa using hvm
        by_cases hbm : b = -1
        · have HE : Hid (bestL h n (pre ++ [x]) = v + 1) := Lib.hid (by rw [HSTEP.out]; unfold stepB; exact if_pos ⟨hvm, .inl hbm⟩)
          subst hbm
          gi_wp2
          exact ⟨(KeepsOthers.setCell _ _ _).from _, KeepsB.set (p := V.heap.size) (q := V.heap.size + 1) (b := w.heap.size + 1) W _ (by have := HVL.out; omega) (by have := HVL.out; omega), ⟨HBT.out.other (B' := w.heap.size + 1) (by omega) _, HFIN.out _ HE.out⟩, HBB.out.setCell (p := ⟨w.heap.size + 1, 0, none⟩) (Nat.le_succ _) _⟩
        · have hbb : (b == -1) = false := by simpa using hbm
          by_cases hlt : v + 1 < b
          · have HE : Hid (bestL h n (pre ++ [x]) = v + 1) := Lib.hid (by rw [HSTEP.out]; unfold stepB; exact if_pos ⟨hvm, .inr hlt⟩)
            gi_wp2
            exact ⟨(KeepsOthers.setCell _ _ _).from _, KeepsB.set (p := V.heap.size) (q := V.heap.size + 1) (b := w.heap.size + 1) W _ (by have := HVL.out; omega) (by have := HVL.out; omega), ⟨HBT.out.other (B' := w.heap.size + 1) (by omega) _, HFIN.out _ HE.out⟩, HBB.out.setCell (p := ⟨w.heap.size + 1, 0, none⟩) (Nat.le_succ _) _⟩
          · have HE : Hid (bestL h n (pre ++ [x]) = b) := Lib.hid (by rw [HSTEP.out]; unfold stepB; exact if_neg (fun e => e.2.elim hbm hlt))
            gi_wp2
            exact ⟨KeepsFrom.refl _ _, KeepsB.refl _ _ _, ⟨HBT.out, by rw [HE.out]; exact HBS.out⟩, HBB.out⟩
    case done =>
      rintro D xs W hD rfl ⟨⟨bT, bS⟩, hB⟩ hK
      rw [bestL_pc] at bS
      have cS := bS.cell
      have HBB := Lib.hid hB
      have hDs : w.heap.size ≤ D := by have := HVL.out; simp at hD; omega
      clear bT bS hB hD
      gi_wp2
      refine ⟨by simp, .inl ⟨_, _, rfl, run_takeDeferred hK, ?_⟩⟩
      exact ⟨_, results_tmp rfl _ _ _, rfl, HBB.out.trans (belowK_b (w := w) (Nat.le_refl _) W D _ _ hDs hK rfl rfl)⟩
    case stop =>
      rintro D c pre W _ _ h _
      exact h.elim

set_option maxRecDepth 100000 in
set_option maxHeartbeats 1000000 in
theorem fewest_any (f : Nat → Bool) (T R : ByteArray) (n : Nat) (w : World) (hf : Tells f T R) (hn : n ≤ 200) :
    Calls Try.prog 55 #[.agg #[.string T, .string R], .int .i64 n] w fun e w' => ∃ a c, e = .returned (.slice a (n + 1 : Nat) c) ∧ ReadsI w' a (n + 1) (intsOf (fewF f) (n + 1)) ∧ Below w.heap.size w w' := by
  obtain ⟨N, hN⟩ : ∃ N, N = n + 1 := ⟨_, rfl⟩
  have hNi : (n : Int) + 1 = (N : Int) := by omega
  rw [← hN]
  have hp := heap_alloc_new w (.cells #[.string T, .string R] 41)
  have HG : Hid (NextI 75 #[.pointer (some ⟨w.heap.size, 0, none⟩)] (fewF f) N (w.alloc (.cells #[.string T, .string R] 41))) :=
    Lib.hid ⟨fun _ _ => rfl, fun W a k c hb hk hr => by
      have h1 := fewNext f T R w.heap.size k c a (fewF f) W hf (by omega) ((hb.block w.heap.size (by simp)).trans hp) hr (fun i hi => by have := few_ge f i; omega)
      by_cases h0 : k = 0
      · subst h0; exact h1
      · rw [if_neg h0, ← fewF_step f (by omega)] at h1; exact h1⟩
  have hNle : N ≤ 201 := by omega
  clear hp hN
  go_enter Try.func55, Try.ntmps55
  go_wp2_with fail
  refine (tableOfI_any _ _ (fewF f) N _ HG.out (by omega)).mono ?_
  rintro e w1 ⟨a, c, rfl, hr, hb, _⟩
  have HR := Lib.hid hr
  have HB := Lib.hid (((Below.refl w.heap.size w).alloc (Nat.le_refl _) (.cells #[.string T, .string R] 41)).trans (hb.mono (by simp)))
  clear hr hb
  go_wp2
  go_ret
  exact ⟨a, c, rfl, HR.out, HB.out⟩

end Go.Proofs.Ytojjfkabepkhdaa
