/-
  The walk of impl.numbers.sumWith.
-/
import Derived.Test.YtiphooodijbhiaaNumTextI
set_option linter.unusedVariables false
set_option linter.unusedSimpArgs false
namespace Go.Proofs.Ytiphooodijbhiaa
open Go.RowKit

/-- The sums by numbers less than k. -/
def accF (f g : Nat → Bool) (k i : Nat) : Bool := someF (fun x => f x && (decide (x ≤ i) && g (i - x))) 0 k
theorem accF_next (f g : Nat → Bool) (k i : Nat) : accF f g (k + 1) i = (accF f g k i || (f k && (decide (k ≤ i) && g (i - k)))) := by
  unfold accF
  rw [show someF (fun x => f x && (decide (x ≤ i) && g (i - x))) 0 (k + 1) = (someF (fun x => f x && (decide (x ≤ i) && g (i - x))) 0 k || (f (0 + k) && (decide (0 + k ≤ i) && g (i - (0 + k))))) from rfl, Nat.zero_add]
theorem accF_done (f g : Nat → Bool) (N i : Nat) (h : i < N) : accF f g N i = sumG false f g i := by
  apply bool_iff
  unfold accF
  rw [someF_iff, sumG_iff]
  constructor
  · rintro ⟨x, hx, h1⟩
    rw [Nat.zero_add, Bool.and_eq_true, Bool.and_eq_true, decide_eq_true_iff] at h1
    exact ⟨x, i - x, by omega, h1.1, h1.2.2, by simp⟩
  · rintro ⟨x, y, rfl, h1, h2, _⟩
    refine ⟨x, by omega, ?_⟩
    rw [Nat.zero_add, Bool.and_eq_true, Bool.and_eq_true, decide_eq_true_iff, show x + y - x = y from by omega]
    exact ⟨h1, by omega, h2⟩
theorem behind_up {g : Nat → Bool} {N k j : Nat} (hk : k ≤ N) : behind N g (N - k + j) = (decide (k ≤ j) && g (j - k)) := by
  unfold behind
  by_cases h : k ≤ j
  · rw [decide_eq_true h, decide_eq_true (by omega), show N - k + j - N = j - k from by omega]
  · rw [decide_eq_false h, decide_eq_false (by omega)]; rfl

/-- A value is the first N numbers of f, as a slice. -/
def NumAt (w : World) (g o N M : Nat) (f : Nat → Bool) : Prop := ∃ F, BRow w g M F ∧ o + N ≤ M ∧ ∀ n, n < N → F (o + n) = f n
theorem NumAt.lt {w : World} {g o N M : Nat} {f : Nat → Bool} (h : NumAt w g o N M f) : g < w.heap.size := by obtain ⟨F, h, _⟩ := h; exact h.lt
theorem NumAt.below {w w' : World} {g o N M B : Nat} {f : Nat → Bool} (h : NumAt w g o N M f) (hb : Below B w w') (hg : g < B) : NumAt w' g o N M f := by
  obtain ⟨F, h, h2⟩ := h; exact ⟨F, h.below hb hg, h2⟩
theorem NumAt.step {w w' : World} {g o N M : Nat} {f : Nat → Bool} (h : NumAt w g o N M f) (hb : Below w.heap.size w w') : NumAt w' g o N M f := h.below hb h.lt
theorem NumAt.cell {w : World} {g o N M : Nat} {f : Nat → Bool} (h : NumAt w g o N M f) {i : Nat} (hi : i < N) : w.cell? ⟨g, o + i, none⟩ = some (.bool (f i)) := by
  obtain ⟨F, h, h2, h3⟩ := h; rw [← h3 i hi]; exact h.cell (by omega)
theorem NumAt.else {w w' : World} {g o N M k : Nat} {f : Nat → Bool} (h : NumAt w g o N M f) (he : Else k w w') (hn : g ≠ k) : NumAt w' g o N M f := by
  obtain ⟨F, h, h2⟩ := h; exact ⟨F, h.else he hn, h2⟩
theorem NumAt.congr {w : World} {g o N M : Nat} {f f2 : Nat → Bool} (h : NumAt w g o N M f) (hf : ∀ n, n < N → f n = f2 n) : NumAt w g o N M f2 := by
  obtain ⟨F, h, h2, h3⟩ := h; exact ⟨F, h, h2, fun n hn => (h3 n hn).trans (hf n hn)⟩
theorem BRow.num {w : World} {g N : Nat} {f : Nat → Bool} (h : BRow w g N f) : NumAt w g 0 N N f := ⟨f, h, by omega, fun n _ => by rw [Nat.zero_add]⟩

/-- The world of sumWith's loop. -/
structure SumLoop (f g : Nat → Bool) (GS G1 o1 M1 G2 N k : Nat) (w wr : World) : Prop where
  row : BRow wr GS N (accF f g k)
  first : NumAt wr G1 o1 N M1 f
  second : BRow wr G2 (2 * N) (behind N g)
  n1 : G1 ≠ GS
  n2 : G2 ≠ GS
  le : w.heap.size ≤ GS
  below : Below w.heap.size w wr
theorem SumLoop.skip {f g : Nat → Bool} {GS G1 o1 M1 G2 N k : Nat} {w wr : World} (h : SumLoop f g GS G1 o1 M1 G2 N k w wr) (hf : f k = false) : SumLoop f g GS G1 o1 M1 G2 N (k + 1) w wr :=
  ⟨h.row.congr fun j _ => by rw [accF_next, hf]; simp, h.first, h.second, h.n1, h.n2, h.le, h.below⟩
theorem SumLoop.added {f g : Nat → Bool} {GS G1 o1 M1 G2 N k : Nat} {w wr w' : World} (h : SumLoop f g GS G1 o1 M1 G2 N k w wr) (hr : BRow w' GS N (mix (accF f g k) (accF f g (k + 1)) 0 N)) (he : Else GS wr w') :
    SumLoop f g GS G1 o1 M1 G2 N (k + 1) w w' :=
  ⟨hr.congr fun j hj => by unfold mix; rw [if_pos (by omega)], h.first.else he h.n1, h.second.else he h.n2, h.n1, h.n2, h.le, he.below h.below h.le h.row.lt⟩
/-- What add wants where a set is added, k greater. -/
theorem SumLoop.add {f g : Nat → Bool} {GS G1 o1 M1 G2 N k : Nat} {w wr : World} (h : SumLoop f g GS G1 o1 M1 G2 N k w wr) (hk : k < N) (hN : N ≤ 100000) (hf : f k = true) :
    Calls Try.prog 182 #[.slice (some ⟨GS, 0, none⟩) N N, .slice (some ⟨G2, N - k, none⟩) N N] wr fun e w' =>
      e = .returned (.tuple #[]) ∧ SumLoop f g GS G1 o1 M1 G2 N (k + 1) w w' := by
  refine (add_any GS 0 G2 (N - k) N N N N (accF f g k) (accF f g (k + 1)) (fun j => decide (k ≤ j) && g (j - k)) wr h.row (by omega) hN (fun j hj => absurd hj (Nat.not_lt_zero _)) (fun i hi => by rw [Nat.zero_add, accF_next, hf, Bool.true_and]) ?_).mono ?_
  · intro j w' hj _ he
    rw [(h.second.else he h.n2).cell (i := N - k + j) (by omega), behind_up (by omega)]
  · rintro e w' ⟨rfl, hr, he⟩
    exact ⟨rfl, h.added hr he⟩

set_option maxRecDepth 100000 in
set_option maxHeartbeats 1000000 in
theorem sumWith_any (G1 o1 M1 c1 G2 o2 M2 c2 N : Nat) (f g : Nat → Bool) (w : World) (h1 : NumAt w G1 o1 N M1 f) (h2 : NumAt w G2 o2 N M2 g) (h0 : 0 < N) (hN : N ≤ 100000) :
    Calls Try.prog 190 #[.slice (some ⟨G1, o1, none⟩) N c1, .slice (some ⟨G2, o2, none⟩) N c2] w fun e w' =>
      ∃ G, e = .returned (.slice (some ⟨G, 0, none⟩) N N) ∧ w.heap.size ≤ G ∧ BRow w' G N (sumG false f g) ∧ Below w.heap.size w w' := by
  obtain ⟨i0, hi, hz0, hz1, hz2⟩ := info_parts Try.infoBool
  have H1 := Lib.hid h1
  have H2 := Lib.hid h2
  have hl1 := h1.lt
  have hl2 := h2.lt
  clear h1 h2
  go_enter Try.func190, Try.ntmps190
  go_wp2_with (at_make; refine wpList_make_row _ rfl _ _ 104 rfl 4 i0 (.bool false) Try.underlying104 hi hz0 hz1 rfl .i64 .i64 N rfl rfl ?b1 ?b2 ?_)
  case b1 => rw [hz2]; omega
  case b2 => omega
  have HB := Lib.hid (bRow_new w N)
  have HX := Lib.hid ((Below.refl w.heap.size w).alloc (Nat.le_refl _) (.cells (madeCells #[.bool false] N) 4))
  have hsz : (w.alloc (.cells (madeCells #[.bool false] N) 4)).heap.size = w.heap.size + 1 := World.size_alloc _ _
  generalize w.alloc (.cells (madeCells #[.bool false] N) 4) = w1 at HB HX hsz
  have HY := Lib.hid (H2.out.below HX.out hl2)
  go_wp2_with fail
  obtain ⟨F2, q1, q2, q3⟩ := HY.out
  refine (shiftsOf_at G2 o2 N M2 c2 F2 g w1 q1 q2 q3 h0 hN).mono ?_
  clear q1 q2 q3
  rintro e w2 ⟨G3, rfl, hG3, hr3, hb2⟩
  have HL0 : Hid (SumLoop f g w.heap.size G1 o1 M1 G3 N 0 w w2) := Lib.hid ⟨(HB.out.step hb2).congr fun j _ => rfl, (H1.out.below HX.out hl1).step hb2, hr3, by omega, by omega, Nat.le_refl _, HX.out.trans (hb2.mono (by omega))⟩
  clear hr3 hb2 HB HX HY hsz hG3
  go_wp2
  go_loopw [16] (fun i wr => ∃ k : Nat, k ≤ N ∧ i = .int .i64 k ∧ SumLoop f g w.heap.size G1 o1 M1 G3 N k w wr) (fun i _ => N - (intOf i).toNat)
  case atStart => exact ⟨0, Nat.zero_le _, rfl, HL0.out⟩
  case round =>
    obtain ⟨k, hk, rfl, hl⟩ := hrel
    by_cases hlt : k < N
    · have c1 := hl.first.cell hlt
      cases hf : f k
      · rw [hf] at c1
        have HK := Lib.hid (hl.skip hf)
        clear hl hf
        go_wp2
        go_roundw
        case rel => exact ⟨k + 1, by omega, by go_num, HK.out⟩
        case measure => simp [intOf]; omega
      · rw [hf] at c1
        have HK := Lib.hid (hl.add hlt hN hf)
        clear hl hf
        go_wp2_with fail
        refine (up_any G3 N k (2 * N) _ (by omega) (by omega) (by omega) (by omega)).mono ?_
        rintro e w8 ⟨rfl, rfl⟩
        go_wp2_with fail
        refine HK.out.mono ?_
        rintro e w9 ⟨rfl, hl9⟩
        have HL9 := Lib.hid hl9
        clear hl9 HK c1
        go_wp2
        go_roundw
        case rel => exact ⟨k + 1, by omega, by go_num, HL9.out⟩
        case measure => simp [intOf]; omega
    · obtain rfl : k = N := by omega
      have HK := Lib.hid hl
      clear hl
      go_wp2
      go_ret
      exact ⟨_, rfl, HK.out.le, HK.out.row.congr fun i hi => accF_done _ _ _ _ hi, HK.out.below⟩

end Go.Proofs.Ytiphooodijbhiaa
