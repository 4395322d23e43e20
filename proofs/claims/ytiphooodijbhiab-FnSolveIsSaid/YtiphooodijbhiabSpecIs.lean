/-
  The walk of SolveIs, of the model.
-/
import Derived.Test.YtiphooodijbhiabEquMath
import Derived.Test.YtiphooodijbhiabSmallS
import Derived.Test.YtiphooodijbhiabShapeS
set_option linter.unusedVariables false
set_option linter.unusedSimpArgs false
namespace Go.Proofs.Ytiphooodijbhiab
open Go.RowKit

/-- The three boxes, later. -/
structure IsLoop (u1 u2 v1 v2 z1 z2 : Value) (A B C : Nat) (w wr : World) : Prop where
  a0 : wr.cell? ⟨A, 0, none⟩ = some u1
  a1 : wr.cell? ⟨A, 1, none⟩ = some u2
  b0 : wr.cell? ⟨B, 0, none⟩ = some v1
  b1 : wr.cell? ⟨B, 1, none⟩ = some v2
  c0 : wr.cell? ⟨C, 0, none⟩ = some z1
  c1 : wr.cell? ⟨C, 1, none⟩ = some z2
  below : Below w.heap.size w wr
theorem IsLoop.step {u1 u2 v1 v2 z1 z2 : Value} {A B C : Nat} {w wr w' : World} (l : IsLoop u1 u2 v1 v2 z1 z2 A B C w wr) (hb : Below wr.heap.size wr w') : IsLoop u1 u2 v1 v2 z1 z2 A B C w w' :=
  ⟨(hb.cell (p := ⟨A, 0, none⟩) (lt_of_some l.a0)).trans l.a0, (hb.cell (p := ⟨A, 1, none⟩) (lt_of_some l.a1)).trans l.a1, (hb.cell (p := ⟨B, 0, none⟩) (lt_of_some l.b0)).trans l.b0, (hb.cell (p := ⟨B, 1, none⟩) (lt_of_some l.b1)).trans l.b1,
    (hb.cell (p := ⟨C, 0, none⟩) (lt_of_some l.c0)).trans l.c0, (hb.cell (p := ⟨C, 1, none⟩) (lt_of_some l.c1)).trans l.c1, l.below.trans (hb.mono l.below.size)⟩
def dueTo (f g x : Nat → Bool) (n y : Nat) : Bool := g n || someF (sumT false f x n) 0 y
theorem dueTo_zero (f g x : Nat → Bool) (n : Nat) : dueTo f g x n 0 = g n := by unfold dueTo someF; rw [Bool.or_false]
theorem dueTo_next {f g x : Nat → Bool} {n y : Nat} {b c : Bool} (h : dueTo f g x n y = b) (h2 : (f y && x (n - y)) = c) : dueTo f g x n (y + 1) = (b || c) := by
  unfold dueTo at h ⊢
  rw [show someF (sumT false f x n) 0 (y + 1) = (someF (sumT false f x n) 0 y || sumT false f x n (0 + y)) from rfl, ← Bool.or_assoc, h]
  congr 1
  unfold sumT
  rw [Nat.zero_add, ← h2]
  simp
theorem dueTo_done (f g x : Nat → Bool) (n : Nat) : dueTo f g x n (n + 1) = dueF f g x n := rfl

set_option maxRecDepth 100000 in
set_option maxHeartbeats 4000000 in
theorem specIs_on (f g x : Nat → Bool) (s t u : ByteArray) (w : World) (hs : s.size ≤ 1048576) (ht : t.size ≤ 1048576) (hu : u.size ≤ 1048576) (k1 : smallS s = true) (k2 : smallS t = true) (k3 : smallS u = true) (e1 : f = fS s) (e2 : g = fS t) (e3 : x = fS u) :
    Calls Try.prog 29 #[.string s, .string t, .string u] w fun e w' => e = .returned (.bool (isV f g x)) ∧ Below w.heap.size w w' := by
  have HS := Lib.hid (fun W => l4Small_any s W hs)
  have HT := Lib.hid (fun W => l4Small_any t W ht)
  have HU := Lib.hid (fun W => l4Small_any u W hu)
  rw [k1, ← e1] at HS
  rw [k2, ← e2] at HT
  rw [k3, ← e3] at HU
  clear e1 e2 e3 k1 k2 k3
  go_enter Try.func29, Try.ntmps29
  go_wp2_with fail
  refine (HS.out _).mono ?_
  rintro e w1 ⟨a1, n1, c1, a2, n2, c2, rfl, hb1, hA⟩
  have hA2 := (hA trivial).alloc (.cells #[.slice a1 n1 c1, .slice a2 n2 c2] 77)
  go_wp2_with fail
  refine (HT.out _).mono ?_
  rintro e w2 ⟨b1, m1, d1, b2, m2, d2, rfl, hb2, hB⟩
  have hB2 := (hB trivial).alloc (.cells #[.slice b1 m1 d1, .slice b2 m2 d2] 77)
  have hA3 := (hA2.below hb2 (Nat.le_refl _)).alloc (.cells #[.slice b1 m1 d1, .slice b2 m2 d2] 77)
  obtain ⟨x0, x1⟩ := box_later (hb2.alloc hb2.size (.cells #[.slice b1 m1 d1, .slice b2 m2 d2] 77))
  obtain ⟨y0, y1⟩ := box_later (w1 := w2) (u := .slice b1 m1 d1) (v := .slice b2 m2 d2) (T := 77) (Below.refl _ _)
  have hb12 := below_step (hb1.alloc hb1.size (.cells #[.slice a1 n1 c1, .slice a2 n2 c2] 77)) hb2
  have hb13 := hb12.alloc hb12.size (.cells #[.slice b1 m1 d1, .slice b2 m2 d2] 77)
  clear hA hB hA2 hb1 hb2 hb12
  go_wp2_with fail
  refine (HU.out _).mono ?_
  rintro e w3 ⟨j1, l1, r1, j2, l2, r2, rfl, hb3, hC⟩
  have hb3' := hb3.alloc hb3.size (.cells #[.slice j1 l1 r1, .slice j2 l2 r2] 77)
  have HC := Lib.hid ((hC trivial).alloc (.cells #[.slice j1 l1 r1, .slice j2 l2 r2] 77))
  have HA := Lib.hid (hA3.below hb3' (Nat.le_refl _))
  have HB := Lib.hid (hB2.below hb3' (Nat.le_refl _))
  obtain ⟨v0, v1⟩ := box_later (w1 := w3) (u := .slice j1 l1 r1) (v := .slice j2 l2 r2) (T := 77) (Below.refl _ _)
  have HL0 : Hid (IsLoop (.slice a1 n1 c1) (.slice a2 n2 c2) (.slice b1 m1 d1) (.slice b2 m2 d2) (.slice j1 l1 r1) (.slice j2 l2 r2) w1.heap.size w2.heap.size w3.heap.size w (w3.alloc (.cells #[.slice j1 l1 r1, .slice j2 l2 r2] 77))) :=
    Lib.hid ⟨(hb3'.cell (p := ⟨w1.heap.size, 0, none⟩) (lt_of_some x0)).trans x0, (hb3'.cell (p := ⟨w1.heap.size, 1, none⟩) (lt_of_some x1)).trans x1, (hb3'.cell (p := ⟨w2.heap.size, 0, none⟩) (lt_of_some y0)).trans y0, (hb3'.cell (p := ⟨w2.heap.size, 1, none⟩) (lt_of_some y1)).trans y1, v0, v1, hb13.trans (hb3'.mono hb13.size)⟩
  clear hb3 hb3' hC hA3 hB2 hb13 x0 x1 y0 y1 v0 v1 HS HT HU
  have p1 := HA.out.tidy.pos
  have p2 := HC.out.tidy.pos
  have p3 := HB.out.tidy.pos
  have g1 := HA.out.le1
  have g2 := HA.out.le2
  have g3 := HC.out.le1
  have g4 := HC.out.le2
  have g5 := HB.out.le1
  have g6 := HB.out.le2
  obtain ⟨k1, ⟨y1, k2⟩, ⟨y2, k3⟩, k4⟩ := shape_common p1 p2
  obtain ⟨p, hp⟩ : ∃ p, p = n2 / Nat.gcd n2 l2 * l2 := ⟨_, rfl⟩
  obtain ⟨tl, htl⟩ : ∃ tl, tl = max n1 l1 := ⟨_, rfl⟩
  rw [← hp] at k1 k2 k3 k4
  have k5 : n2 * l2 ≤ 8 * 8 := Nat.mul_le_mul g2 g4
  have t1 : tl ≤ 8 := by omega
  have hp64 : p ≤ 64 := by omega
  obtain ⟨P, hP⟩ : ∃ P, P = p * m2 := ⟨_, rfl⟩
  have hPi : (p : Int) * (m2 : Int) = (P : Int) := by rw [hP, Int.natCast_mul]
  have hP5 : P ≤ 512 := by rw [hP]; exact Nat.mul_le_mul hp64 g6
  obtain ⟨M, hM⟩ : ∃ M, M = 2 * tl + 2 * p + m1 + P := ⟨_, rfl⟩
  have HFar : Hid (isV f g x = true ↔ ∀ n, n < M → dueF f g x n = x n) := Lib.hid (by
    rw [hM, hP]
    exact is_far k1 p3 (fun n hn => by rw [k2]; exact per_rounds HA.out.tidy.per _ _ (by omega)) (fun n hn => by rw [k3]; exact per_rounds HC.out.tidy.per _ _ (by omega)) HB.out.tidy.per)
  have hcall := fun W => shape_any a1 a2 j1 j2 n1 c1 n2 c2 l1 r1 l2 r2 W (by omega) p1 (by omega) p2
  rw [← hp, ← htl] at hcall
  have HSh := Lib.hid hcall
  have hM2 : M ≤ 800 := by omega
  obtain ⟨TT, hTT⟩ : ∃ TT, TT = 2 * tl + 2 * p + m1 := ⟨_, rfl⟩
  have HTT := Lib.hid hTT
  have hMT : M = TT + P := by omega
  have hTT2 : TT ≤ 200 := by omega
  clear hTT hM
  obtain ⟨i1, i2, i3, i4, i5, i6, _⟩ := HL0.out
  clear k2 k3 k4 k5 hcall htl hp hP p1 p2 p3 k1
  go_wp2_with fail
  refine (HSh.out _).mono ?_
  rintro e w4 ⟨rfl, hb4⟩
  have HL4 := Lib.hid (HL0.out.step hb4)
  have HA4 := Lib.hid (HA.out.below hb4 (Nat.le_refl _))
  have HB4 := Lib.hid (HB.out.below hb4 (Nat.le_refl _))
  have HC4 := Lib.hid (HC.out.below hb4 (Nat.le_refl _))
  clear hb4 HSh HL0 HA HB HC i1 i2 i3 i4 i5 i6
  obtain ⟨i1, i2, i3, i4, i5, i6, _⟩ := HL4.out
  go_wp2
  clear i1 i2 i3 i4 i5 i6
  go_loopw [15] (fun ni wr => ∃ n : Nat, n ≤ TT + P ∧ ni = .int .i64 n ∧ (∀ k, k < n → dueF f g x k = x k) ∧ Below w4.heap.size w4 wr ∧ IsLoop (.slice a1 n1 c1) (.slice a2 n2 c2) (.slice b1 m1 d1) (.slice b2 m2 d2) (.slice j1 l1 r1) (.slice j2 l2 r2) w1.heap.size w2.heap.size w3.heap.size w wr) (fun i _ => TT + P - (intOf i).toNat)
  case atStart => exact ⟨0, Nat.zero_le _, rfl, fun k hk => absurd hk (Nat.not_lt_zero _), Below.refl _ _, HL4.out⟩
  case round =>
    obtain ⟨n, hn, rfl, hall, hbr, hl⟩ := hrel
    have HAll := Lib.hid hall
    clear hall
    by_cases hlt : n < TT + P
    · have hcall := small_has (c1 := d1) (c2 := d2) n (HB4.out.below hbr (Nat.le_refl _)) (by omega)
      have HL := Lib.hid hl
      obtain ⟨i1, i2, i3, i4, i5, i6, _⟩ := hl
      have HBr := Lib.hid hbr
      have hlt' : (n : Int) < 2 * (tl : Int) + 2 * (p : Int) + (m1 : Int) + (P : Int) := by have := HTT.out; omega
      clear hbr
      go_wp2_with fail
      refine hcall.mono ?_
      rintro e w5 ⟨rfl, hb5⟩
      have HL5 := Lib.hid (HL.out.step hb5)
      have HB5 := Lib.hid (below_step HBr.out hb5)
      clear hb5 hcall i1 i2 i3 i4 i5 i6 HL HBr
      go_wp2
      go_loopw [16, 17] (fun bv yi wr => ∃ y : Nat, y ≤ n + 1 ∧ yi = .int .i64 y ∧ bv = .bool (dueTo f g x n y) ∧ Below w4.heap.size w4 wr ∧ IsLoop (.slice a1 n1 c1) (.slice a2 n2 c2) (.slice b1 m1 d1) (.slice b2 m2 d2) (.slice j1 l1 r1) (.slice j2 l2 r2) w1.heap.size w2.heap.size w3.heap.size w wr) (fun _ i _ => n + 1 - (intOf i).toNat)
      case atStart => exact ⟨0, Nat.zero_le _, rfl, by rw [dueTo_zero], HB5.out, HL5.out⟩
      case round =>
        obtain ⟨y, hy, rfl, rfl, hbr, hl⟩ := hrel
        have HL := Lib.hid hl
        have HBr := Lib.hid hbr
        obtain ⟨i1, i2, i3, i4, i5, i6, _⟩ := hl
        clear hbr
        by_cases hyn : y ≤ n
        · have hyi : (y : Int) ≤ (n : Int) := by omega
          cases hd : dueTo f g x n y
          · have hcall := small_has (c1 := c1) (c2 := c2) y (HA4.out.below HBr.out (Nat.le_refl _)) (by omega)
            cases hf : f y
            · have HD : Hid (dueTo f g x n (y + 1) = false) := Lib.hid (by rw [dueTo_next hd (c := false) (by rw [hf]; rfl)]; rfl)
              rw [hf] at hcall
              clear hd hf
              go_wp2_with fail
              refine hcall.mono ?_
              rintro e w6 ⟨rfl, hb6⟩
              have HL6 := Lib.hid (HL.out.step hb6)
              have HB6 := Lib.hid (below_step HBr.out hb6)
              clear hb6 hcall
              go_wp2
              go_roundw
              case rel => exact ⟨y + 1, by omega, by go_num, by rw [HD.out], HB6.out, HL6.out⟩
              case measure => simp [intOf]; omega
            · obtain ⟨v, hv⟩ : ∃ v, v = n - y := ⟨_, rfl⟩
              have HD : Hid (dueTo f g x n (y + 1) = x v) := Lib.hid (by rw [dueTo_next hd (c := x v) (by rw [hf, hv]; rfl)]; rfl)
              have hvi : (n : Int) - (y : Int) = (v : Int) := by omega
              have hv5 : v ≤ 1000 := by omega
              rw [hf] at hcall
              clear hd hf hv
              go_wp2_with fail
              refine hcall.mono ?_
              rintro e w6 ⟨rfl, hb6⟩
              have HL6 := Lib.hid (HL.out.step hb6)
              have HB6 := Lib.hid (below_step HBr.out hb6)
              have hcall2 := small_has (c1 := r1) (c2 := r2) v (HC4.out.below HB6.out (Nat.le_refl _)) (by omega)
              clear hb6 hcall i1 i2 i3 i4 i5 i6
              obtain ⟨i1, i2, i3, i4, i5, i6, _⟩ := HL6.out
              go_wp2_with fail
              refine hcall2.mono ?_
              rintro e w7 ⟨rfl, hb7⟩
              have HL7 := Lib.hid (HL6.out.step hb7)
              have HB7 := Lib.hid (below_step HB6.out hb7)
              clear hb7 hcall2
              go_wp2
              go_roundw
              case rel => exact ⟨y + 1, by omega, by go_num, by rw [HD.out], HB7.out, HL7.out⟩
              case measure => simp [intOf]; omega
          · have HD : Hid (dueTo f g x n (y + 1) = true) := Lib.hid (by rw [dueTo_next hd (c := (f y && x (n - y))) rfl]; rfl)
            clear hd
            go_wp2
            go_roundw
            case rel => exact ⟨y + 1, by omega, by go_num, by rw [HD.out], HBr.out, HL.out⟩
            case measure => simp [intOf]; omega
        · obtain rfl : y = n + 1 := by omega
          rw [dueTo_done]
          have hcall := small_has (c1 := r1) (c2 := r2) n (HC4.out.below HBr.out (Nat.le_refl _)) (by omega)
          have hyi : ¬ (n : Int) + 1 ≤ (n : Int) := by omega
          by_cases he : dueF f g x n = x n
          · have HN : Hid (∀ k, k < n + 1 → dueF f g x k = x k) := Lib.hid (fun k hk => by
              rcases Nat.lt_or_ge k n with e | e
              · exact HAll.out k e
              · obtain rfl : k = n := by omega
                exact he)
            rw [he]
            clear he
            cases hv : x n
            all_goals
              rw [hv] at hcall
              clear hv
              go_wp2_with fail
              refine hcall.mono ?_
              rintro e w6 ⟨rfl, hb6⟩
              have HL6 := Lib.hid (HL.out.step hb6)
              have HB6 := Lib.hid (below_step HBr.out hb6)
              clear hb6 hcall
              go_wp2
              go_roundw
              case rel => exact ⟨n + 1, by omega, by go_num, HN.out, HB6.out, HL6.out⟩
              case measure => simp [intOf]; omega
          · have HV : Hid (isV f g x = false) := Lib.hid (by
              cases k : isV f g x
              · rfl
              · exact absurd (HFar.out.1 k n (by omega)) he)
            cases hd : dueF f g x n
            all_goals
              cases hv : x n
              all_goals
                first
                  | exact absurd (hd.trans hv.symm) he
                  | (rw [hv] at hcall
                     clear hv hd he
                     go_wp2_with fail
                     refine hcall.mono ?_
                     rintro e w6 ⟨rfl, hb6⟩
                     have HB6 := Lib.hid (HL.out.step hb6).below
                     clear hb6 hcall
                     go_wp2
                     go_ret
                     exact ⟨ret_bool HV.out.symm, HB6.out⟩)
    · obtain rfl : n = TT + P := by omega
      have HV : Hid (isV f g x = true) := Lib.hid (HFar.out.2 (by rw [hMT]; exact HAll.out))
      have HL := Lib.hid hl.below
      have hlt' : ¬ ((TT + P : Nat) : Int) < 2 * (tl : Int) + 2 * (p : Int) + (m1 : Int) + (P : Int) := by have := HTT.out; omega
      clear hl hbr
      go_wp2
      go_ret
      exact ⟨ret_bool HV.out.symm, HL.out⟩

set_option maxRecDepth 100000 in
set_option maxHeartbeats 2000000 in
theorem specIs_off (s t u : ByteArray) (w : World) (hs : s.size ≤ 1048576) (ht : t.size ≤ 1048576) (hu : u.size ≤ 1048576) (h : (smallS s && smallS t && smallS u) = false) :
    Calls Try.prog 29 #[.string s, .string t, .string u] w fun e w' => e = .returned (.bool false) ∧ Below w.heap.size w w' := by
  go_enter Try.func29, Try.ntmps29
  go_wp2_with fail
  refine (l4Small_any s _ hs).mono ?_
  rintro e w1 ⟨a1, n1, c1, a2, n2, c2, rfl, hb1, _⟩
  have hb1 := hb1.alloc hb1.size (.cells #[.slice a1 n1 c1, .slice a2 n2 c2] 77)
  go_wp2_with fail
  refine (l4Small_any t _ ht).mono ?_
  rintro e w2 ⟨b1, m1, d1, b2, m2, d2, rfl, hb2, _⟩
  have hb2 := below_step hb1 hb2
  have hb2 := hb2.alloc hb2.size (.cells #[.slice b1 m1 d1, .slice b2 m2 d2] 77)
  go_wp2_with fail
  refine (l4Small_any u _ hu).mono ?_
  rintro e w3 ⟨j1, l1, r1, j2, l2, r2, rfl, hb3, _⟩
  have hb3 := below_step hb2 hb3
  have HB := Lib.hid (hb3.alloc hb3.size (.cells #[.slice j1 l1 r1, .slice j2 l2 r2] 77))
  clear hb1 hb2 hb3
  revert h
  cases smallS s <;> cases smallS t <;> cases smallS u <;> intro h
  all_goals
    first
      | (cases h; done)
      | (clear h
         go_wp2
         go_ret
         exact ⟨rfl, HB.out⟩)

theorem specSolveIs (s t x : ByteArray) (w : World) (hs : s.size ≤ 1048576) (ht : t.size ≤ 1048576) (hx : x.size ≤ 1048576) :
    Calls Try.prog 29 #[.string s, .string t, .string x] w fun e w' => e = .returned (.bool (isW s t x)) ∧ Below w.heap.size w w' := by
  unfold isW
  cases h : (smallS s && smallS t && smallS x)
  · exact specIs_off s t x w hs ht hx h
  · rw [Bool.and_eq_true, Bool.and_eq_true] at h
    exact specIs_on _ _ _ s t x w hs ht hx h.1.1 h.1.2 h.2 rfl rfl rfl

end Go.Proofs.Ytiphooodijbhiab
