/-
  The walk of spec.l4Sum.
-/
import Derived.Test.YtiphooodijbhiaaSmallS
import Derived.Test.YtiphooodijbhiaaMarks
import Derived.Test.YtiphooodijbhiaaShapeS
import Derived.Lib.MinMax
set_option linter.unusedVariables false
set_option linter.unusedSimpArgs false
namespace Go.Proofs.Ytiphooodijbhiaa
open Go.RowKit

/-- The boxes of two sets, later. -/
theorem sum_boxes {w wr : World} {u v x y : Value} {T : TypeId} (hB : Below ((w.alloc (.cells #[u, v] T)).alloc (.cells #[x, y] T)).heap.size ((w.alloc (.cells #[u, v] T)).alloc (.cells #[x, y] T)) wr) :
    (wr.cell? ⟨w.heap.size, 0, none⟩ = some u ∧ wr.cell? ⟨w.heap.size, 1, none⟩ = some v) ∧ (wr.cell? ⟨w.heap.size + 1, 0, none⟩ = some x ∧ wr.cell? ⟨w.heap.size + 1, 1, none⟩ = some y) := by
  have h1 : Below (w.alloc (.cells #[u, v] T)).heap.size (w.alloc (.cells #[u, v] T)) wr := ((Below.refl _ _).alloc (Nat.le_refl _) _).trans (hB.mono (by simp))
  have h2 := box_later hB
  rw [World.size_alloc] at h2
  exact ⟨box_later h1, h2⟩
theorem sumF_next {d : Bool} {f g : Nat → Bool} {n x : Nat} {b c : Bool} (h : someF (sumT d f g n) 0 x = b) (h2 : sumT d f g n x = c) : someF (sumT d f g n) 0 (x + 1) = (b || c) := by
  unfold someF; rw [h, Nat.zero_add, h2]

theorem sum_less (n x : Nat) (h : x ≤ n) : n + 1 - (intOf (.int .i64 ((x : Int) + 1))).toNat < n + 1 - (intOf (.int .i64 x)).toNat := by
  show n + 1 - ((x : Int) + 1).toNat < n + 1 - ((x : Int)).toNat
  omega

set_option maxRecDepth 100000 in
set_option maxHeartbeats 4000000 in
theorem l4Sum_any (d : Bool) (f g : Nat → Bool) (a1 : Option Addr) (n1 c1 : Nat) (a2 : Option Addr) (n2 c2 : Nat) (b1 : Option Addr) (m1 d1 : Nat) (b2 : Option Addr) (m2 d2 : Nat) (w : World)
    (hA : SmallIn w f a1 n1 a2 n2) (hB : SmallIn w g b1 m1 b2 m2) (hd : d = true → f = g) :
    Calls Try.prog 137 #[.agg #[.slice a1 n1 c1, .slice a2 n2 c2], .agg #[.slice b1 m1 d1, .slice b2 m2 d2], .bool d] w fun e w' => MadeEnd (sumG d f g) e ∧ Below w.heap.size w w' := by
  obtain ⟨i0, hi, hz0, hz1, hz2⟩ := info_parts Try.infoBool
  have p1 := hA.tidy.pos
  have p2 := hB.tidy.pos
  have e1 := hA.le1
  have e2 := hA.le2
  have e3 := hB.le1
  have e4 := hB.le2
  obtain ⟨k1, ⟨y1, k2⟩, ⟨y2, k3⟩, k4⟩ := shape_common p1 p2
  obtain ⟨p, hp⟩ : ∃ p, p = n2 / Nat.gcd n2 m2 * m2 := ⟨_, rfl⟩
  obtain ⟨tl, htl⟩ : ∃ tl, tl = max n1 m1 := ⟨_, rfl⟩
  rw [← hp] at k1 k2 k3 k4
  have k5 : n2 * m2 ≤ 8 * 8 := Nat.mul_le_mul e2 e4
  have t1 : tl ≤ 8 := by omega
  obtain ⟨T, hT⟩ : ∃ T, T = 2 * tl + 3 * p + 2 := ⟨_, rfl⟩
  have hTi : (2 : Int) * (tl : Int) + 3 * (p : Int) + 2 = (T : Int) := by omega
  have HPer : Hid (∀ n, T ≤ n → sumG d f g (n + p) = sumG d f g n) := Lib.hid (fun n hn => by
    have q1 : ∀ n, tl ≤ n → f (n + p) = f n := fun n hn => by rw [k2]; exact per_rounds hA.tidy.per _ _ (by omega)
    have q2 : ∀ n, tl ≤ n → g (n + p) = g n := fun n hn => by rw [k3]; exact per_rounds hB.tidy.per _ _ (by omega)
    cases d
    · exact sum_round k1 q1 q2 n (by omega)
    · rw [← hd rfl]; exact sumD_round k1 q1 n (by omega))
  have hT2 : T ≤ 300 := by omega
  have hp2 : p ≤ 64 := by omega
  have hcall := fun W => shape_any a1 a2 b1 b2 n1 c1 n2 c2 m1 d1 m2 d2 W (by omega) p1 (by omega) p2
  rw [← hp, ← htl] at hcall
  have HA := Lib.hid ((hA.alloc (.cells #[.slice a1 n1 c1, .slice a2 n2 c2] 75)).alloc (.cells #[.slice b1 m1 d1, .slice b2 m2 d2] 75))
  have HB := Lib.hid ((hB.alloc (.cells #[.slice a1 n1 c1, .slice a2 n2 c2] 75)).alloc (.cells #[.slice b1 m1 d1, .slice b2 m2 d2] 75))
  have HC := Lib.hid hcall
  clear hA hB hd hcall hp htl hT k2 k3 k4 k5 e1 e2 e3 e4 p1 p2
  go_enter Try.func137, Try.ntmps137
  go_wp2_with fail
  refine (HC.out _).mono ?_
  rintro e w1 ⟨rfl, hb1⟩
  have hs1 := hb1.size
  simp at hs1
  have HB1 := Lib.hid hb1
  have HM0 := Lib.hid (marks_start (sumG d f g) w1 w1 w1.heap.size w1.heap.size (Nat.le_refl _) (Nat.le_refl _) (Below.refl _ _))
  clear hb1
  go_wp2
  go_loopw [10, 11] (fun v i wr => ∃ n : Nat, n ≤ T + p ∧ i = .int .i64 n ∧ Marks (sumG d f g) w1.heap.size w1.heap.size w1 wr v n)
    (fun _ i _ => T + p - (intOf i).toNat)
  case atStart => exact ⟨0, Nat.zero_le _, rfl, HM0.out⟩
  case round =>
    obtain ⟨n, hn, rfl, hM⟩ := hrel
    have hsz := hM.below.size
    by_cases hlt : n < T + p
    · have HM := Lib.hid hM
      clear hM
      have hlt' : (n : Int) < (T : Int) + (p : Int) := by omega
      go_wp2
      go_loopw [12, 13] (fun sv i wr => ∃ x : Nat, x ≤ n + 1 ∧ i = .int .i64 x ∧ sv = .bool (someF (sumT d f g n) 0 x) ∧ Marks (sumG d f g) w1.heap.size w1.heap.size w1 wr u10 n)
        (fun _ i _ => n + 1 - (intOf i).toNat)
      case atStart => exact ⟨0, Nat.zero_le _, rfl, rfl, HM.out⟩
      case round =>
        obtain ⟨x, hx, rfl, rfl, hMi⟩ := hrel
        clear hsz
        have hsz := hMi.below.size
        have hbx := HB1.out.trans (hMi.below.mono HB1.out.size)
        obtain ⟨⟨q0, q1⟩, q2, q3⟩ := sum_boxes hbx
        have HAr := Lib.hid (HA.out.below hbx (Nat.le_refl _))
        have HBr := Lib.hid (HB.out.below hbx (Nat.le_refl _))
        clear hbx
        by_cases hxk : x ≤ n
        · obtain ⟨y, hy⟩ : ∃ y, y = n - x := ⟨_, rfl⟩
          have hyi : (n : Int) - (x : Int) = (y : Int) := by omega
          have hy2 : y ≤ n := by omega
          have HY := Lib.hid hy
          clear hy
          cases hso : someF (sumT d f g n) 0 x
          · cases hf : f x
            · have HS := Lib.hid (sumF_next hso (show sumT d f g n x = false by unfold sumT; rw [hf]; rfl))
              have HMi := Lib.hid hMi
              have hcall := small_has (c1 := c1) (c2 := c2) x HAr.out (by omega)
              rw [hf] at hcall
              clear hMi hso hf
              go_wp2_with fail
              refine hcall.mono ?_
              rintro e w3 ⟨rfl, hb3⟩
              have HM3 := Lib.hid (HMi.out.step (by omega) hb3)
              clear hb3 HMi hcall
              go_wp2
              go_roundw
              case rel => exact ⟨x + 1, by omega, by go_num, by rw [HS.out]; rfl, HM3.out⟩
              case measure => exact sum_less n x hxk
            · have hcall := small_has (c1 := c1) (c2 := c2) x HAr.out (by omega)
              rw [hf] at hcall
              cases hg : g y
              · have HS := Lib.hid (sumF_next hso (show sumT d f g n x = false by unfold sumT; rw [← HY.out, hf, hg]; rfl))
                have HMi := Lib.hid hMi
                have HG := Lib.hid hg
                clear hMi hso hf hg
                go_wp2_with fail
                refine hcall.mono ?_
                rintro e w3 ⟨rfl, hb3⟩
                have HM3 := Lib.hid (HMi.out.step (by omega) hb3)
                have hcall2 := small_has (c1 := d1) (c2 := d2) y (HBr.out.below hb3 (Nat.le_refl _)) (by omega)
                rw [HG.out] at hcall2
                have z2 := (hb3.cell (p := ⟨w.heap.size + 1, 0, none⟩) (by show w.heap.size + 1 < _; omega)).trans q2
                have z3 := (hb3.cell (p := ⟨w.heap.size + 1, 1, none⟩) (by show w.heap.size + 1 < _; omega)).trans q3
                have hs3 := hb3.size
                clear hb3 HMi hcall
                go_wp2_with fail
                refine hcall2.mono ?_
                rintro e w4 ⟨rfl, hb4⟩
                have HM4 := Lib.hid (HM3.out.step (by omega) hb4)
                clear hb4 HM3 hcall2
                go_wp2
                go_roundw
                case rel => exact ⟨x + 1, by omega, by go_num, by rw [HS.out]; rfl, HM4.out⟩
                case measure => exact sum_less n x hxk
              · obtain ⟨b, hb⟩ : ∃ b, (!d || decide (x ≠ y)) = b := ⟨_, rfl⟩
                have HS := Lib.hid (sumF_next hso (show sumT d f g n x = b by unfold sumT; rw [← HY.out, hf, hg, hb]; rfl))
                have HMi := Lib.hid hMi
                have HG := Lib.hid hg
                clear hMi hso hf hg
                go_wp2_with fail
                refine hcall.mono ?_
                rintro e w3 ⟨rfl, hb3⟩
                have HM3 := Lib.hid (HMi.out.step (by omega) hb3)
                have hcall2 := small_has (c1 := d1) (c2 := d2) y (HBr.out.below hb3 (Nat.le_refl _)) (by omega)
                rw [HG.out] at hcall2
                have z2 := (hb3.cell (p := ⟨w.heap.size + 1, 0, none⟩) (by show w.heap.size + 1 < _; omega)).trans q2
                have z3 := (hb3.cell (p := ⟨w.heap.size + 1, 1, none⟩) (by show w.heap.size + 1 < _; omega)).trans q3
                have hs3 := hb3.size
                clear hb3 HMi hcall
                cases d
                · have HE := Lib.hid hb
                  clear hb
                  go_wp2_with fail
                  refine hcall2.mono ?_
                  rintro e w4 ⟨rfl, hb4⟩
                  have HM4 := Lib.hid (HM3.out.step (by omega) hb4)
                  clear hb4 HM3 hcall2
                  go_wp2
                  go_roundw
                  case rel => exact ⟨x + 1, by omega, by go_num, by rw [HS.out, ← HE.out]; rfl, HM4.out⟩
                  case measure => exact sum_less n x hxk
                · by_cases hxy : x = y
                  · have HE : Hid (b = false) := Lib.hid (by rw [← hb, decide_eq_false (by omega)]; rfl)
                    clear hb
                    subst hxy
                    go_wp2_with fail
                    refine hcall2.mono ?_
                    rintro e w4 ⟨rfl, hb4⟩
                    have HM4 := Lib.hid (HM3.out.step (by omega) hb4)
                    clear hb4 HM3 hcall2
                    go_wp2
                    go_roundw
                    case rel => exact ⟨x + 1, by omega, by go_num, by rw [HS.out, HE.out]; rfl, HM4.out⟩
                    case measure => exact sum_less n x hxk
                  · have HE : Hid (b = true) := Lib.hid (by rw [← hb, decide_eq_true (by omega)]; rfl)
                    have hne : ((x : Int) != (y : Int)) = true := by simp; omega
                    clear hb
                    go_wp2_with fail
                    refine hcall2.mono ?_
                    rintro e w4 ⟨rfl, hb4⟩
                    have HM4 := Lib.hid (HM3.out.step (by omega) hb4)
                    clear hb4 HM3 hcall2
                    go_wp2
                    go_roundw
                    case rel => exact ⟨x + 1, by omega, by go_num, by rw [HS.out, HE.out]; rfl, HM4.out⟩
                    case measure => exact sum_less n x hxk
          · have HS : Hid (someF (sumT d f g n) 0 (x + 1) = true) := Lib.hid (by unfold someF; rw [hso, Bool.true_or])
            have HMi := Lib.hid hMi
            clear hMi hso
            go_wp2
            go_roundw
            case rel => exact ⟨x + 1, by omega, by go_num, by rw [HS.out], HMi.out⟩
            case measure => exact sum_less n x hxk
        · obtain rfl : x = n + 1 := by omega
          obtain ⟨b, hbv⟩ : ∃ b, someF (sumT d f g n) 0 (n + 1) = b := ⟨_, rfl⟩
          have HV : Hid (sumG d f g n = b) := Lib.hid hbv
          rw [hbv]
          clear hbv
          go_wp2_with
            (at_builtin; refine wpList_append_own _ rfl _ _ 73 rfl w1.heap.size 4 i0 (.bool false) 1 1 Try.underlying73 hi hz0 hz1 hz2 rfl (by decide) _ _ _ rfl (hMi.own.alloc _) ⟨wr.heap.size, 0, none⟩ 1 1 [.bool b] rfl rfl ?c1 ?c2 ?c3 ?c4 ?c5 ?_)
          case c1 =>
            intro j u hj
            match j, hj with
            | 0, hj => simp at hj; subst hj; simp [Addr.add]
          case c2 => intro u hu; simp at hu; subst hu; rfl
          case c3 => unfold maxLen; omega
          case c4 => omega
          case c5 => simp; omega
          intro v' w4 hown4 hgrow _
          have HM4 := Lib.hid (hMi.grow HV.out (Nat.le_refl _) (by omega) hown4 hgrow)
          clear hown4 hgrow hMi
          go_wp2
          go_roundw
          case rel => exact ⟨n + 1, by omega, by go_num, HM4.out⟩
          case measure => simp [intOf]; omega
    · obtain rfl : n = T + p := by omega
      obtain ⟨a, c, rfl⟩ := own_form hM.own
      have hcall := fill_any (sumG d f g) T p c _ a wr hM.own k1 (by omega) (by omega) HPer.out
      have HM := Lib.hid hM
      clear hM
      have hlt' : ¬ (T : Int) + (p : Int) < (T : Int) + (p : Int) := by omega
      go_wp2_with fail
      refine hcall.mono ?_
      rintro e w4 ⟨⟨U, b, rfl, hmade⟩, hb4⟩
      have HMd := Lib.hid hmade
      have HB4 := Lib.hid ((((Below.refl w.heap.size w).alloc (Nat.le_refl _) (.cells #[.slice a1 n1 c1, .slice a2 n2 c2] 75)).alloc (by simp) (.cells #[.slice b1 m1 d1, .slice b2 m2 d2] 75)).trans ((HB1.out.mono (by simp; omega)).trans ((HM.out.below.mono (by omega)).trans (hb4.mono (by omega)))))
      clear hmade hb4
      go_wp2
      go_ret2
      exact ⟨⟨U, b, rfl, HMd.out⟩, HB4.out⟩

end Go.Proofs.Ytiphooodijbhiaa
