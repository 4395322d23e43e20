/-
  The walk of spec.l5Quot: what the model's RestSome and RestAll answer.
-/
import Derived.Test.YtifodjlfjnmnkaaRestMath
import Derived.Test.YtifodjlfjnmnkaaReadLess
import Derived.Test.YtifodjlfjnmnkaaHasS
import Derived.Test.YtifodjlfjnmnkaaShapeS
import Derived.Test.YtifodjlfjnmnkaaMarks
set_option linter.unusedVariables false
set_option linter.unusedSimpArgs false
namespace Go.Proofs.Ytifodjlfjnmnkaa
open Go.RowKit

/-- The quotient by some number, or by all. -/
noncomputable def quotF (all : Bool) (f g : Nat → Bool) : Nat → Bool := if all then allQ f g else someQ f g
/-- Has it turned up, up to k? -/
def hitF (all : Bool) (f g : Nat → Bool) (n k : Nat) : Bool := someF (fun j => g j && (f (n + j) != all)) 0 k
theorem hitF_zero (all : Bool) (f g : Nat → Bool) (n : Nat) : hitF all f g n 0 = false := rfl
theorem hitF_next (all : Bool) (f g : Nat → Bool) (n k : Nat) : hitF all f g n (k + 1) = (hitF all f g n k || (g k && (f (n + k) != all))) := by
  unfold hitF
  rw [show someF (fun j => g j && (f (n + j) != all)) 0 (k + 1) = (someF (fun j => g j && (f (n + j) != all)) 0 k || (g (0 + k) && (f (n + (0 + k)) != all))) from rfl, Nat.zero_add]
theorem hitF_done {all : Bool} {f g : Nat → Bool} {M P : Nat} (hP : 0 < P) (hf : ∀ k, M ≤ k → f (k + P) = f k) (hg : ∀ k, M ≤ k → g (k + P) = g k) (n : Nat) : (all != hitF all f g n (M + P)) = quotF all f g n := by
  have key : ∀ b : Bool, (b = true ↔ ∃ k, k < M + P ∧ g k = true ∧ (f (n + k) != all) = true) → hitF all f g n (M + P) = b := fun b hb => by
    have e : hitF all f g n (M + P) = true ↔ b = true := by
      rw [hb]
      unfold hitF
      rw [someF_iff]
      simp only [Nat.zero_add, Bool.and_eq_true]
    cases b <;> cases h : hitF all f g n (M + P) <;> rw [h] at e <;> simp at e <;> rfl
  unfold quotF
  cases all
  · rw [if_neg (by simp), key (someQ f g n) (by rw [someQ_early hP hf hg n]; simp)]
    simp
  · rw [if_pos rfl, key (someQ (fun n => !f n) g n) (by rw [someQ_early hP (fun k hk => by show (!f (k + P)) = !f k; rw [hf k hk]) hg n]; simp)]
    unfold allQ
    simp
theorem quotF_round {all : Bool} {f g : Nat → Bool} {m p : Nat} (hf : ∀ n, m ≤ n → f (n + p) = f n) (n : Nat) (hn : m ≤ n) : quotF all f g (n + p) = quotF all f g n := by
  unfold quotF
  cases all
  · exact someQ_round hf n hn
  · show allQ f g (n + p) = allQ f g n
    unfold allQ
    rw [someQ_round (fun k hk => by show (!f (k + p)) = !f k; rw [hf k hk]) n hn]

/-- A box of two slices. -/
def BoxAt (W : World) (B : Nat) (x y : Value) : Prop := W.heap[B]? = some (.cells #[x, y] 66 (0, 0))
section
variable {W W' : World} {B : Nat} {x y : Value}
theorem BoxAt.c0 (h : BoxAt W B x y) : W.cell? ⟨B, 0, none⟩ = some x := by rw [cell_of_row W _ _ _ _ _ h]; rfl
theorem BoxAt.c1 (h : BoxAt W B x y) : W.cell? ⟨B, 1, none⟩ = some y := by rw [cell_of_row W _ _ _ _ _ h]; rfl
theorem BoxAt.free (h : BoxAt W B x y) (i : Nat) : W.frozen? ⟨B, i, none⟩ = false := frozen_of_row W _ _ _ _ h
theorem BoxAt.lt (h : BoxAt W B x y) : B < W.heap.size := lt_of_some h.c0
theorem BoxAt.step (h : BoxAt W B x y) (hb : Below W.heap.size W W') : BoxAt W' B x y := (hb.block B h.lt).trans h
theorem boxAt_new (W : World) (x y : Value) : BoxAt (W.alloc (.cells #[x, y] 66)) W.heap.size x y := heap_alloc_new W _
theorem BoxAt.set (h : BoxAt W B x y) (u v : Value) : BoxAt ((W.setCell ⟨B, 0, none⟩ u).setCell ⟨B, 1, none⟩ v) B u v := by
  have h1 : (W.setCell ⟨B, 0, none⟩ u).heap[B]? = some (.cells #[u, y] 66 (0, 0)) := by
    rw [heap_setCell_same W _ _ _ _ _ h]; rfl
  show ((W.setCell ⟨B, 0, none⟩ u).setCell ⟨B, 1, none⟩ v).heap[B]? = some (.cells #[u, v] 66 (0, 0))
  rw [heap_setCell_same (W.setCell ⟨B, 0, none⟩ u) _ _ _ _ _ h1]; rfl
theorem BoxAt.other (h : BoxAt W B x y) {C : Nat} (hn : B ≠ C) (u v : Value) : BoxAt ((W.setCell ⟨C, 0, none⟩ u).setCell ⟨C, 1, none⟩ v) B x y :=
  (heap_setCell_other _ ⟨C, 1, none⟩ B v hn).trans ((heap_setCell_other W ⟨C, 0, none⟩ B u hn).trans h)
end
theorem LessIn.set {W : World} {t r : List Bool} {a1 : Option Addr} {n1 c1 : Nat} {a2 : Option Addr} {n2 c2 B : Nat} {p p' : Option Addr} {m m' c c' : Nat} {x y : Value} (h : LessIn W t r a1 n1 c1 a2 n2 c2)
    (h0 : W.cell? ⟨B, 0, none⟩ = some (.slice p m c)) (h1 : W.cell? ⟨B, 1, none⟩ = some (.slice p' m' c')) : LessIn ((W.setCell ⟨B, 0, none⟩ x).setCell ⟨B, 1, none⟩ y) t r a1 n1 c1 a2 n2 c2 :=
  ⟨h.tail.set h0 h1, h.ring.set h0 h1, h.cap1, h.cap2, h.max1, h.max2, h.le1, h.le2, h.pos⟩

/-- Both sets, in their boxes. -/
structure QuotIn (f : Nat → Bool) (m q : Nat) (g : Nat → Bool) (m2 q2 B1 B2 : Nat) (b1 : Option Addr) (e1 : Nat) (b2 : Option Addr) (e2 : Nat) (d1 : Option Addr) (k1 : Nat) (d2 : Option Addr) (k2 : Nat) (w W : World) : Prop where
  box1 : BoxAt W B1 (.slice b1 m e1) (.slice b2 q e2)
  box2 : BoxAt W B2 (.slice d1 m2 k1) (.slice d2 q2 k2)
  la : LessIn W (part f 0 m) (part f m q) b1 m e1 b2 q e2
  lb : LessIn W (part g 0 m2) (part g m2 q2) d1 m2 k1 d2 q2 k2
  below : Below w.heap.size w W
section
variable {f : Nat → Bool} {m q : Nat} {g : Nat → Bool} {m2 q2 B1 B2 : Nat} {b1 : Option Addr} {e1 : Nat} {b2 : Option Addr} {e2 : Nat} {d1 : Option Addr} {k1 : Nat} {d2 : Option Addr} {k2 : Nat} {w W W' : World}
theorem QuotIn.step (h : QuotIn f m q g m2 q2 B1 B2 b1 e1 b2 e2 d1 k1 d2 k2 w W) (hb : Below W.heap.size W W') : QuotIn f m q g m2 q2 B1 B2 b1 e1 b2 e2 d1 k1 d2 k2 w W' :=
  ⟨h.box1.step hb, h.box2.step hb, h.la.below hb (Nat.le_refl _), h.lb.below hb (Nat.le_refl _), h.below.trans (hb.mono h.below.size)⟩
theorem QuotIn.first (h : QuotIn f m q g m2 q2 B1 B2 b1 e1 b2 e2 d1 k1 d2 k2 w W) (hf : Tidy f m q) (hm : m ≤ 60) (hq : q ≤ 60) (k : Nat) (hk : k ≤ 1000000) :
    Calls Try.prog 80 #[.agg #[.slice b1 m e1, .slice b2 q e2], .int .i64 k] W fun e w' => e = .returned (.bool (f k)) ∧ Below W.heap.size W w' := by
  have := l1Has_any b1 b2 m e1 q e2 _ _ k W h.la.tail h.la.ring (by omega) (by omega) hf.pos (by omega)
  rw [fS_part hf] at this
  exact this
theorem QuotIn.second (h : QuotIn f m q g m2 q2 B1 B2 b1 e1 b2 e2 d1 k1 d2 k2 w W) (hg : Tidy g m2 q2) (hm : m2 ≤ 60) (hq : q2 ≤ 60) (k : Nat) (hk : k ≤ 1000000) :
    Calls Try.prog 80 #[.agg #[.slice d1 m2 k1, .slice d2 q2 k2], .int .i64 k] W fun e w' => e = .returned (.bool (g k)) ∧ Below W.heap.size W w' := by
  have := l1Has_any d1 d2 m2 k1 q2 k2 _ _ k W h.lb.tail h.lb.ring (by omega) (by omega) hg.pos (by omega)
  rw [fS_part hg] at this
  exact this
end

set_option maxHeartbeats 1000000 in
theorem quot_off (s t : ByteArray) (all : Bool) (w : World) (hs : s.size ≤ 1048576) (ht : t.size ≤ 1048576) (h : (okS s && okS t) = false) :
    Calls Try.prog 50 #[.string s, .string t, .bool all] w fun e w' => e = .returned (.tuple #[.string ⟨#[]⟩, .bool false]) ∧ Below w.heap.size w w' := by
  have hread : ∀ (x : ByteArray) (W : World), x.size ≤ 1048576 → Calls Try.prog 53 #[.string x] W fun e w' => (∃ a1 n1 c1 a2 n2 c2, e = .returned (.tuple #[.agg #[.slice a1 n1 c1, .slice a2 n2 c2], .bool (okS x)])) ∧ Below W.heap.size W w' := fun x W hx => by
    cases ho : okS x
    · exact (read_off x W hx ho).mono fun e w' ⟨a1, n1, c1, a2, n2, c2, he, hb⟩ => ⟨⟨a1, n1, c1, a2, n2, c2, he⟩, hb⟩
    · exact (read_on x W hx ho).mono fun e w' ⟨a1, n1, c1, a2, n2, c2, he, hb, _⟩ => ⟨⟨a1, n1, c1, a2, n2, c2, he⟩, hb⟩
  have HR := Lib.hid hread
  have HO := Lib.hid h
  clear hread h
  go_enter Try.func50, Try.ntmps50
  go_wp2_with fail
  refine (HR.out s _ hs).mono ?_
  rintro e w1 ⟨⟨a1, n1, c1, a2, n2, c2, rfl⟩, hb⟩
  have HB := Lib.hid (hb.alloc hb.size (.cells #[.slice a1 n1 c1, .slice a2 n2 c2] 66))
  clear hb
  go_wp2_with fail
  refine (HR.out t _ ht).mono ?_
  rintro e w2 ⟨⟨x1, y1, z1, x2, y2, z2, rfl⟩, hb2⟩
  have HB2 := Lib.hid (below_step HB.out hb2)
  have HB3 := Lib.hid (HB2.out.alloc HB2.out.size (.cells #[.slice x1 y1 z1, .slice x2 y2 z2] 66))
  clear hb2
  cases h1 : okS s
  · go_wp2
    go_ret2
    exact ⟨rfl, HB3.out⟩
  · have h2 : okS t = false := by have := HO.out; rw [h1] at this; exact this
    rw [h2]
    go_wp2
    go_ret2
    exact ⟨rfl, HB3.out⟩

set_option maxRecDepth 100000 in
set_option maxHeartbeats 4000000 in
theorem quot_on (s t : ByteArray) (all : Bool) (w : World) (hs : s.size ≤ 1048576) (ht : t.size ≤ 1048576) (h1 : okS s = true) (h2 : okS t = true) :
    Calls Try.prog 50 #[.string s, .string t, .bool all] w fun e w' => MadeEnd (quotF all (fS s) (fS t)) e ∧ Below w.heap.size w w' := by
  obtain ⟨i0, hi, hz0, hz1, hz2⟩ := info_parts Try.infoBool
  obtain ⟨m, q, hf, hm, hq⟩ := tidy_there h1
  obtain ⟨m2, q2, hg, hm2, hq2⟩ := tidy_there h2
  have HF := Lib.hid hf
  have HG := Lib.hid hg
  clear hf hg
  go_enter Try.func50, Try.ntmps50
  go_wp2_with fail
  refine (read_less s _ hs h1).mono ?_
  rintro e w1 ⟨a1, n1, c1, a2, n2, c2, rfl, hb, hla⟩
  have al1 := (Below.refl w1.heap.size w1).alloc (Nat.le_refl _) (.cells #[.slice a1 n1 c1, .slice a2 n2 c2] 66)
  have HB := Lib.hid (below_step hb al1)
  have HLA := Lib.hid (hla.below al1 (Nat.le_refl _))
  have HBW1 := Lib.hid hb.size
  have HX1 := Lib.hid (boxAt_new w1 (.slice a1 n1 c1) (.slice a2 n2 c2))
  clear hb hla al1
  go_wp2_with fail
  refine (read_less t _ ht h2).mono ?_
  rintro e w2 ⟨x1, y1, z1', x2, y2, z2, rfl, hb2, hlb⟩
  have al2 := (Below.refl w2.heap.size w2).alloc (Nat.le_refl _) (.cells #[.slice x1 y1 z1', .slice x2 y2 z2] 66)
  have hne : w1.heap.size ≠ w2.heap.size := by have := hb2.size; rw [World.size_alloc] at this; omega
  have HB2 := Lib.hid (below_step HB.out (below_step hb2 al2))
  have HLA2 := Lib.hid (HLA.out.below (below_step hb2 al2) (Nat.le_refl _))
  have HLB2 := Lib.hid (hlb.below al2 (Nat.le_refl _))
  have HX12 := Lib.hid (HX1.out.step (below_step hb2 al2))
  have HBW2 := Lib.hid (Nat.le_trans HB.out.size hb2.size)
  have HX2 := Lib.hid (boxAt_new w2 (.slice x1 y1 z1') (.slice x2 y2 z2))
  clear hb2 hlb al2 HX1 HLA HB
  have hB1w : w.heap.size ≤ w1.heap.size := HBW1.out
  have hB2w : w.heap.size ≤ w2.heap.size := HBW2.out
  have p0 := HX12.out.c0
  have p1 := HX12.out.c1
  go_wp2_with fail
  generalize w2.alloc (.cells #[.slice x1 y1 z1', .slice x2 y2 z2] 66) = w3 at HB2 HLA2 HLB2 HX12 HX2 ⊢
  refine (less_on s a1 n1 c1 a2 n2 c2 _ HLA2.out).mono ?_
  rintro e w4 ⟨b1, m', e1, b2, q', e2, rfl, hb4, hout⟩
  obtain ⟨h3, h4⟩ := tidy_unique hout.tidy HF.out
  subst h4
  subst h3
  have X1 := HX12.out.step hb4
  have X2 := HX2.out.step hb4
  have z0 := X1.free 0
  have z1 := X1.free 1
  have p0 := X1.c0
  have p1 := X1.c1
  have HY1 := Lib.hid (X1.set (.slice b1 m' e1) (.slice b2 q' e2))
  have HY2 := Lib.hid (X2.other (Ne.symm hne) (.slice b1 m' e1) (.slice b2 q' e2))
  have HA5 := Lib.hid (hout.lies.set (x := .slice b1 m' e1) (y := .slice b2 q' e2) p0 p1)
  have HL5 := Lib.hid ((HLB2.out.below hb4 (Nat.le_refl _)).set (x := .slice b1 m' e1) (y := .slice b2 q' e2) p0 p1)
  have HB5 : Hid (Below w.heap.size w ((w4.setCell ⟨w1.heap.size, 0, none⟩ (.slice b1 m' e1)).setCell ⟨w1.heap.size, 1, none⟩ (.slice b2 q' e2))) := Lib.hid (((HB2.out.trans (hb4.mono HB2.out.size)).setCell hB1w _).setCell hB1w _)
  have d0 := HY2.out.c0
  have d1 := HY2.out.c1
  clear hb4 hout X1 X2 HX12 HX2 HLA2 HLB2 HB2
  go_wp2_with fail
  generalize (w4.setCell ⟨w1.heap.size, 0, none⟩ (.slice b1 m' e1)).setCell ⟨w1.heap.size, 1, none⟩ (.slice b2 q' e2) = w5 at HY1 HY2 HA5 HL5 HB5 ⊢
  refine (less_on t x1 y1 z1' x2 y2 z2 _ HL5.out).mono ?_
  rintro e w6 ⟨f1, u1, g1, f2, u2, g2, rfl, hb6, hout⟩
  obtain ⟨h3, h4⟩ := tidy_unique hout.tidy HG.out
  subst h4
  subst h3
  have X1 := HY1.out.step hb6
  have X2 := HY2.out.step hb6
  have z0 := X2.free 0
  have z1 := X2.free 1
  have p0 := X2.c0
  have p1 := X2.c1
  have HQ : Hid (QuotIn (fS s) m' q' (fS t) u1 u2 w1.heap.size w2.heap.size b1 e1 b2 e2 f1 g1 f2 g2 w ((w6.setCell ⟨w2.heap.size, 0, none⟩ (.slice f1 u1 g1)).setCell ⟨w2.heap.size, 1, none⟩ (.slice f2 u2 g2))) :=
    Lib.hid ⟨X1.other hne _ _, X2.set _ _, (HA5.out.below hb6 (Nat.le_refl _)).set p0 p1, hout.lies.set p0 p1, ((HB5.out.trans (hb6.mono HB5.out.size)).setCell hB2w _).setCell hB2w _⟩
  have s0 := HQ.out.box1.c0
  have s1 := HQ.out.box1.c1
  have d0 := HQ.out.box2.c0
  have d1 := HQ.out.box2.c1
  clear hb6 hout X1 X2 HY1 HY2 HA5 HL5 HB5
  go_wp2_with fail
  generalize (w6.setCell ⟨w2.heap.size, 0, none⟩ (.slice f1 u1 g1)).setCell ⟨w2.heap.size, 1, none⟩ (.slice f2 u2 g2) = w7 at HQ ⊢
  refine (shape_any b1 b2 f1 f2 m' e1 q' e2 u1 g1 u2 g2 w7 hq HF.out.pos hq2 HG.out.pos).mono ?_
  rintro e w8 ⟨rfl, hb8⟩
  have HQ8 := Lib.hid (HQ.out.step hb8)
  obtain ⟨c1', c2', c3', c4'⟩ := shape_common HF.out.pos HG.out.pos
  obtain ⟨M, hM⟩ : ∃ M, M = max m' u1 := ⟨_, rfl⟩
  obtain ⟨P, hP⟩ : ∃ P, P = q' / Nat.gcd q' u2 * u2 := ⟨_, rfl⟩
  have hM2 : M ≤ 60 := by omega
  have hP2 : P ≤ 60 * 60 := by rw [hP]; exact Nat.le_trans c4' (Nat.mul_le_mul hq hq2)
  have HDONE : Hid (∀ n, (all != hitF all (fS s) (fS t) n (M + P)) = quotF all (fS s) (fS t) n) := Lib.hid (hitF_done (by rw [hP]; exact c1') (fun k hk => by
      obtain ⟨z, hz⟩ := c2'
      rw [hP, hz]; exact per_rounds HF.out.per z k (by omega)) (fun k hk => by
      obtain ⟨z, hz⟩ := c3'
      rw [hP, hz]; exact per_rounds HG.out.per z k (by omega)))
  rw [← hM, ← hP]
  clear hb8 hM hP c1' c2' c3' c4' HQ s0 s1 d0 d1
  have s0 := HQ8.out.box1.c0
  have s1 := HQ8.out.box1.c1
  have HMk := Lib.hid (marks_start (quotF all (fS s) (fS t)) w8 w8 w8.heap.size w8.heap.size (Nat.le_refl _) (Nat.le_refl _) (Below.refl _ _))
  go_wp2
  go_loopw [14, 15] (fun v i wr => ∃ n : Nat, i = .int .i64 n ∧ n ≤ m' + q' ∧ Marks (quotF all (fS s) (fS t)) w8.heap.size w8.heap.size w8 wr v n) (fun _ i _ => m' + q' - (intOf i).toNat)
  case atStart => exact ⟨0, rfl, Nat.zero_le _, HMk.out⟩
  case round =>
    obtain ⟨n, rfl, hn, hMk⟩ := hrel
    have hQ := HQ8.out.step hMk.below
    have s0 := hQ.box1.c0
    have s1 := hQ.box1.c1
    obtain ⟨av, cv, rfl⟩ := own_form hMk.own
    by_cases hlt : n < m' + q'
    · have hltI : (n : Int) < (m' : Int) + (q' : Int) := by omega
      have hdI : decide ((n : Int) < (m' : Int) + (q' : Int)) = true := decide_eq_true hltI
      have HMk1 := Lib.hid hMk
      clear hMk hQ
      go_wp2
      go_loopw [16, 17] (fun x i wr2 => ∃ k : Nat, i = .int .i64 k ∧ k ≤ M + P ∧ x = .bool (all != hitF all (fS s) (fS t) n k) ∧ Marks (quotF all (fS s) (fS t)) w8.heap.size w8.heap.size w8 wr2 (.slice av n cv) n) (fun _ i _ => M + P - (intOf i).toNat)
      case atStart => exact ⟨0, rfl, Nat.zero_le _, by rw [hitF_zero]; cases all <;> rfl, HMk1.out⟩
      case round =>
        obtain ⟨k, rfl, hk, rfl, hMk2⟩ := hrel
        have hQ := HQ8.out.step hMk2.below
        have s0 := hQ.box1.c0
        have s1 := hQ.box1.c1
        have d0 := hQ.box2.c0
        have d1 := hQ.box2.c1
        have HM2 := Lib.hid hMk2
        have HQ := Lib.hid hQ
        clear hMk2 hQ
        by_cases hlk : k < M + P
        · have hlkI : (k : Int) < (M : Int) + (P : Int) := by omega
          obtain ⟨h, hh⟩ : ∃ h, h = hitF all (fS s) (fS t) n k := ⟨_, rfl⟩
          have HH := Lib.hid hh
          rw [← hh]
          clear hh
          have hcall := HQ.out.second HG.out hm2 hq2 k (by omega)
          cases hg : fS t k
          · rw [hg] at hcall
            have HN : Hid (hitF all (fS s) (fS t) n (k + 1) = h) := Lib.hid (by rw [hitF_next, hg, ← HH.out]; simp)
            clear hg
            go_wp2_with fail
            refine hcall.mono ?_
            rintro e w9 ⟨rfl, hb9⟩
            have HM9 := Lib.hid (HM2.out.step HM2.out.below.size hb9)
            clear hb9 hcall s0 s1 d0 d1
            go_wp2
            go_roundw
            case rel => exact ⟨k + 1, by go_num, by omega, by rw [HN.out], HM9.out⟩
            case measure => simp [intOf]; omega
          · rw [hg] at hcall
            have hN := hitF_next all (fS s) (fS t) n k
            rw [hg, ← HH.out, Bool.true_and] at hN
            have HN := Lib.hid hN
            clear hg hN
            go_wp2_with fail
            refine hcall.mono ?_
            rintro e w9 ⟨rfl, hb9⟩
            have HM9 := Lib.hid (HM2.out.step HM2.out.below.size hb9)
            have HQ9 := HQ.out.step hb9
            have t0 := HQ9.box1.c0
            have t1 := HQ9.box1.c1
            have hcall2 := HQ9.first HF.out hm hq (n + k) (by omega)
            obtain ⟨b, hb⟩ : ∃ b, b = fS s (n + k) := ⟨_, rfl⟩
            rw [← hb] at hcall2 HN
            clear hb9 hcall s0 s1 d0 d1 HQ9 hb
            go_wp2_with fail
            refine hcall2.mono ?_
            rintro e w10 ⟨rfl, hb10⟩
            have HM10 := Lib.hid (HM9.out.step HM9.out.below.size hb10)
            clear hb10 hcall2 t0 t1
            by_cases hba : b = all
            · subst hba
              have HN2 : Hid (hitF b (fS s) (fS t) n (k + 1) = h) := Lib.hid (by rw [HN.out]; cases b <;> simp)
              go_wp2
              go_roundw
              case rel => exact ⟨k + 1, by go_num, by omega, by rw [HN2.out], HM10.out⟩
              case measure => simp [intOf]; omega
            · have hba2 : b = !all := by cases b <;> cases all <;> simp at hba <;> rfl
              subst hba2
              have HN2 : Hid (hitF all (fS s) (fS t) n (k + 1) = true) := Lib.hid (by rw [HN.out]; cases all <;> simp)
              go_wp2
              go_roundw
              case rel => exact ⟨k + 1, by go_num, by omega, by rw [HN2.out]; cases all <;> rfl, HM10.out⟩
              case measure => simp [intOf]; omega
        · obtain rfl : k = M + P := by omega
          obtain ⟨x, hx⟩ : ∃ x, x = quotF all (fS s) (fS t) n := ⟨_, rfl⟩
          rw [HDONE.out n, ← hx]
          have HXX := Lib.hid hx.symm
          have hsz := HM2.out.below.size
          clear hx s0 s1 d0 d1
          have hlt' : ¬ (M : Int) + (P : Int) < (M : Int) + (P : Int) := by omega
          go_wp2_with
            (at_builtin; refine wpList_append_own _ rfl _ _ 64 rfl w8.heap.size 4 i0 (.bool false) 1 1 Try.underlying64 hi hz0 hz1 hz2 rfl (by decide) _ _ _ rfl (HM2.out.own.alloc _) ⟨wr.heap.size, 0, none⟩ 1 1 [.bool x] rfl rfl ?c1 ?c2 ?c3 ?c4 ?c5 ?_)
          case c2 => first | rfl | (intro u hu; simp at hu; subst hu; rfl)
          case c3 => unfold maxLen; omega
          case c4 => omega
          case c5 => first | omega | (simp; omega)
          intro v' w11 hown hgrow _
          have HM11 := Lib.hid (HM2.out.grow HXX.out (Nat.le_refl _) hsz hown hgrow)
          clear hown hgrow
          go_wp2
          go_roundw
          case rel => exact ⟨n + 1, by go_num, by omega, HM11.out⟩
          case measure => simp [intOf]; omega
    · obtain rfl : n = m' + q' := by omega
      have hcall := fill_any (quotF all (fS s) (fS t)) m' q' cv _ av _ hMk.own HF.out.pos (by omega) (by omega) (fun k hk => quotF_round HF.out.per k hk)
      have HB9 := Lib.hid (HQ8.out.below.trans (hMk.below.mono HQ8.out.below.size))
      clear hMk hQ
      go_wp2_with fail
      refine hcall.mono ?_
      rintro e w12 ⟨⟨T, b, rfl, hm12⟩, hb12⟩
      have HM12 := Lib.hid hm12
      have HB12 := Lib.hid (below_step HB9.out hb12)
      clear hm12 hb12 hcall
      go_wp2
      go_ret2
      exact ⟨⟨T, b, rfl, HM12.out⟩, HB12.out⟩

theorem quot_any (s t : ByteArray) (all : Bool) (w : World) (hs : s.size ≤ 1048576) (ht : t.size ≤ 1048576) :
    Calls Try.prog 50 #[.string s, .string t, .bool all] w fun e w' => MakeEnd (okS s && okS t) (quotF all (fS s) (fS t)) e ∧ Below w.heap.size w w' := by
  cases h : (okS s && okS t)
  · exact (quot_off s t all w hs ht h).mono fun e w' ⟨he, hb⟩ => ⟨by rw [he]; exact makeEnd_off rfl, hb⟩
  · rw [Bool.and_eq_true] at h
    exact (quot_on s t all w hs ht h.1 h.2).mono fun e w' ⟨⟨T, b, he, hm⟩, hb⟩ => ⟨by rw [he]; exact makeEnd_on hm, hb⟩

set_option maxHeartbeats 400000 in
theorem specSome (s t : ByteArray) (w : World) (hs : s.size ≤ 1048576) (ht : t.size ≤ 1048576) :
    Calls Try.prog 17 #[.string s, .string t] w fun e w' => MakeEnd (okS s && okS t) (someQ (fS s) (fS t)) e ∧ Below w.heap.size w w' := by
  go_enter Try.func17, Try.ntmps17
  go_wp2_with fail
  refine (quot_any s t false w hs ht).mono ?_
  rintro e w1 ⟨⟨T, b, rfl, hm⟩, hb⟩
  have HM := Lib.hid hm
  have HB := Lib.hid hb
  clear hm hb
  go_wp2
  go_ret2
  exact ⟨⟨T, b, rfl, HM.out⟩, HB.out⟩
set_option maxHeartbeats 400000 in
theorem specAll (s t : ByteArray) (w : World) (hs : s.size ≤ 1048576) (ht : t.size ≤ 1048576) :
    Calls Try.prog 21 #[.string s, .string t] w fun e w' => MakeEnd (okS s && okS t) (allQ (fS s) (fS t)) e ∧ Below w.heap.size w w' := by
  go_enter Try.func21, Try.ntmps21
  go_wp2_with fail
  refine (quot_any s t true w hs ht).mono ?_
  rintro e w1 ⟨⟨T, b, rfl, hm⟩, hb⟩
  have HM := Lib.hid hm
  have HB := Lib.hid hb
  clear hm hb
  go_wp2
  go_ret2
  exact ⟨⟨T, b, rfl, HM.out⟩, HB.out⟩
end Go.Proofs.Ytifodjlfjnmnkaa
