/-
  The walks of spec.l7Tidy, whatever the term, and of spec.TermTidy.
-/
import Derived.Test.YtcacdgojibojgabTermTidyPS
import Derived.Test.YtcacdgojibojgabTermPair
set_option linter.unusedVariables false
set_option linter.unusedSimpArgs false
namespace Go.Proofs.Ytcacdgojibojgab
open Go.RowKit

/-- The walk of spec.l7Tidy, whatever the term. -/
theorem tidyS_any : ∀ (t : Tm) (B : Nat) (v : Value) (w : World), tmOk t = true → (tmText t).length ≤ 1000 → IsT B w t v → Calls Try.prog 39 #[v] w fun e w' => e = .returned (.string (tmS (tidy t))) ∧ Below w.heap.size w w' := by
  intro t
  induction t with
  | sign c =>
    rintro B v w _ _ ⟨a, k, rfl⟩
    exact tidyS_sign c a k w
  | star t ih =>
    rintro B v w ho hn ⟨g, m, x, rfl, _, hx, hT⟩
    simp [tmText] at hn
    have ho' : tmOk t = true := ho
    have hu := tidy_ok ho'
    obtain ⟨c, a, n, k, rfl, hp⟩ := part_of hx hT
    have ih' := fun W (hb : Below w.heap.size w W) => ih B _ W ho' (by omega) (hT.step hb)
    have hX := tmS_toList (tidy t)
    have hs := tmS_size (tidy t)
    have hr := tidyStar_text hu.1
    have h01 := tidyStar_one (u := tidy t)
    have hcat := text_cat ⟨#[42]⟩ (tidy t) rfl
    show Calls _ _ _ _ fun e w' => e = .returned (.string (tmS (tidyStar (tidy t)))) ∧ _
    by_cases h0 : tmText (tidy t) = [48]
    · rw [h01 (.inl h0)]
      exact tidyS_star0 (tmS (tidy t)) g m c a n k w hp (by rw [hX]; exact h0) ih'
    · by_cases h1 : tmText (tidy t) = [49]
      · rw [h01 (.inr h1)]
        exact tidyS_star1 (tmS (tidy t)) g m c a n k w hp (by rw [hX]; exact h1) ih'
      · rcases hr h0 h1 with ⟨y, hy⟩ | ⟨hy, d, l, hl, hd⟩
        · have e : tidyStar (tidy t) = tidy t := by rw [hy]; rfl
          have hl : (tmS (tidy t)).toList = 42 :: tmText y := by rw [hX, hy]; rfl
          rw [e]
          exact tidyS_starS (tmS (tidy t)) g m c a n k w hp (by rw [hX]; exact h0) (by rw [hX]; exact h1) (size_one hl) (by rw [first_one hl]; rfl) ih'
        · have hl2 : (tmS (tidy t)).toList = d :: l := by rw [hX, hl]
          have e : tmS (tidyStar (tidy t)) = ⟨#[42]⟩ ++ tmS (tidy t) := by rw [hy, hcat]; rfl
          rw [e]
          exact tidyS_starN (tmS (tidy t)) g m c a n k w hp (by rw [hX]; exact h0) (by rw [hX]; exact h1) (by omega) (size_one hl2) (by rw [first_one hl2]; exact fun x => hd ((byte_is (k := 42) (by decide)).1 x)) ih'
  | times d t ih =>
    rintro B v w ho hn ⟨g, m, x, rfl, _, hx, hT⟩
    simp [tmText] at hn
    rw [tmOk, Bool.and_eq_true] at ho
    have hu := tidy_ok ho.2
    obtain ⟨c, a, n, k, rfl, hp⟩ := part_of hx hT
    have ih' := fun W (hb : Below w.heap.size w W) => ih B _ W ho.2 (by omega) (hT.step hb)
    have hX := tmS_toList (tidy t)
    have hs := tmS_size (tidy t)
    have hcat := text_cat ⟨#[d]⟩ (tidy t) rfl
    have hd : ¬ (d.toNat : Int) = 42 := by rcases dig_cases ho.1 with rfl | rfl | rfl | rfl <;> decide
    show Calls _ _ _ _ fun e w' => e = .returned (.string (tmS (tidyTimes d (tidy t)))) ∧ _
    by_cases h0 : tmText (tidy t) = [48]
    · rw [show tidyTimes d (tidy t) = tidy t by unfold tidyTimes; rw [if_pos (.inl h0)]]
      exact tidyS_times0 d (tmS (tidy t)) g m c a n k w hp hd (by rw [hX]; exact h0) ih'
    · by_cases h1 : tmText (tidy t) = [49]
      · rw [show tidyTimes d (tidy t) = tidy t by unfold tidyTimes; rw [if_pos (.inr h1)]]
        exact tidyS_times1 d (tmS (tidy t)) g m c a n k w hp hd (by rw [hX]; exact h1) ih'
      · rw [show tidyTimes d (tidy t) = .times d (tidy t) by unfold tidyTimes; rw [if_neg (by rintro (x | x); exact h0 x; exact h1 x)]]
        have e : tmS (.times d (tidy t)) = ⟨#[d]⟩ ++ tmS (tidy t) := by rw [hcat]; rfl
        rw [e]
        exact tidyS_timesN d (tmS (tidy t)) g m c a n k w hp hd (by rw [hX]; exact h0) (by rw [hX]; exact h1) (by omega) ih'
  | pair l s r ihl ihr =>
    rintro B v w ho hn ⟨g, m, x, y, rfl, _, hx, hT, hy, hU⟩
    simp [tmText] at hn
    rw [tmOk, Bool.and_eq_true, Bool.and_eq_true] at ho
    have hou := tidy_ok ho.1
    have hov := tidy_ok ho.2.2
    obtain ⟨c, a, n, k, rfl, hp⟩ := part_of hx hT
    obtain ⟨c2, a2, n2, k2, rfl, hq⟩ := part_of hy hU
    have ih1 := fun W (hb : Below w.heap.size w W) => ihl B _ W ho.1 (by omega) (hT.step hb)
    have ih2 := fun W (hb : Below w.heap.size w W) => ihr B _ W ho.2.2 (by omega) (hU.step hb)
    have hX := tmS_toList (tidy l)
    have hY := tmS_toList (tidy r)
    have hs1 := tmS_size (tidy l)
    have hs2 := tmS_size (tidy r)
    have heq := text_pair_eq (tidy l) (tidy r)
    show Calls _ _ _ _ fun e w' => e = .returned (.string (tmS (tidyPair (tidy l) s (tidy r)))) ∧ _
    have z1 : (tmS (tidy l)).size ≤ 1000 := by omega
    have z2 : (tmS (tidy r)).size ≤ 1000 := by omega
    generalize tidy l = u at *
    generalize tidy r = v at *
    rcases mid_cases ho.2.1 with rfl | rfl | rfl
    · by_cases hx : tmText u = [48]
      · rw [tidyPair_43a u v hx]
        exact tidyS_43a (tmS u) (tmS v) g m c a n k c2 a2 n2 k2 w hp hq z1 z2 (by rw [hX]; exact hx) ih1 ih2
      · by_cases hy : tmText v = [48]
        · rw [tidyPair_43b u v hx hy]
          exact tidyS_43b (tmS u) (tmS v) g m c a n k c2 a2 n2 k2 w hp hq z1 z2 (by rw [hX]; exact hx) (by rw [hY]; exact hy) ih1 ih2
        · by_cases hz : tmText u = tmText v
          · rw [tidyPair_43c u v hx hy hz]
            exact tidyS_43c (tmS u) (tmS v) g m c a n k c2 a2 n2 k2 w hp hq z1 z2 (by rw [hX]; exact hx) (by rw [hY]; exact hy) (by rw [hX, hY]; exact hz) ih1 ih2
          · rw [tidyPair_43d u v hx hy hz]
            rw [← heq 43]
            exact tidyS_43d (tmS u) (tmS v) g m c a n k c2 a2 n2 k2 w hp hq z1 z2 (by rw [hX]; exact hx) (by rw [hY]; exact hy) (by rw [hX, hY]; exact hz) ih1 ih2
    · by_cases hx : tmText u = [48]
      · rw [tidyPair_46a u v hx]
        exact tidyS_46a (tmS u) (tmS v) g m c a n k c2 a2 n2 k2 w hp hq z1 z2 (by rw [hX]; exact hx) ih1 ih2
      · by_cases hy : tmText v = [48]
        · rw [tidyPair_46b u v hx hy]
          exact tidyS_46b (tmS u) (tmS v) g m c a n k c2 a2 n2 k2 w hp hq z1 z2 (by rw [hX]; exact hx) (by rw [hY]; exact hy) ih1 ih2
        · by_cases hu : tmText u = [49]
          · rw [tidyPair_46c u v hx hy hu]
            exact tidyS_46c (tmS u) (tmS v) g m c a n k c2 a2 n2 k2 w hp hq z1 z2 (by rw [hX]; exact hx) (by rw [hY]; exact hy) (by rw [hX]; exact hu) ih1 ih2
          · by_cases hv : tmText v = [49]
            · rw [tidyPair_46d u v hx hy hu hv]
              exact tidyS_46d (tmS u) (tmS v) g m c a n k c2 a2 n2 k2 w hp hq z1 z2 (by rw [hX]; exact hx) (by rw [hY]; exact hy) (by rw [hX]; exact hu) (by rw [hY]; exact hv) ih1 ih2
            · rw [tidyPair_46e u v hx hy hu hv]
              rw [← heq 46]
              exact tidyS_46e (tmS u) (tmS v) g m c a n k c2 a2 n2 k2 w hp hq z1 z2 (by rw [hX]; exact hx) (by rw [hY]; exact hy) (by rw [hX]; exact hu) (by rw [hY]; exact hv) ih1 ih2
    · by_cases hx : tmText u = [48]
      · rw [tidyPair_38a u v hx]
        exact tidyS_38a (tmS u) (tmS v) g m c a n k c2 a2 n2 k2 w hp hq z1 z2 (by rw [hX]; exact hx) ih1 ih2
      · by_cases hy : tmText v = [48]
        · rw [tidyPair_38b u v hx hy]
          exact tidyS_38b (tmS u) (tmS v) g m c a n k c2 a2 n2 k2 w hp hq z1 z2 (by rw [hX]; exact hx) (by rw [hY]; exact hy) ih1 ih2
        · by_cases hz : tmText u = tmText v
          · rw [tidyPair_38c u v hx hy hz]
            exact tidyS_38c (tmS u) (tmS v) g m c a n k c2 a2 n2 k2 w hp hq z1 z2 (by rw [hX]; exact hx) (by rw [hY]; exact hy) (by rw [hX, hY]; exact hz) ih1 ih2
          · rw [tidyPair_38d u v hx hy hz]
            rw [← heq 38]
            exact tidyS_38d (tmS u) (tmS v) g m c a n k c2 a2 n2 k2 w hp hq z1 z2 (by rw [hX]; exact hx) (by rw [hY]; exact hy) (by rw [hX, hY]; exact hz) ih1 ih2

theorem tidyV_none {s : ByteArray} {V : ByteArray} (h : termOf s.data.toList = none) (hV : V = match termOf s.data.toList with | some t => tmS (tidy t) | none => ⟨#[]⟩) : V = ⟨#[]⟩ := by rw [h] at hV; exact hV
theorem tidyV_some {s : ByteArray} {t : Tm} {V : ByteArray} (h : termOf s.data.toList = some t) (hV : V = match termOf s.data.toList with | some t => tmS (tidy t) | none => ⟨#[]⟩) : V = tmS (tidy t) := by rw [h] at hV; exact hV
set_option maxRecDepth 100000 in
set_option maxHeartbeats 1000000 in
theorem specTermTidy (s V : ByteArray) (w : World) (hV : V = match termOf s.data.toList with | some t => tmS (tidy t) | none => ⟨#[]⟩) : Calls Try.prog 23 #[.string s] w fun e w' => e = .returned (.tuple #[.string V, .bool (termOf s.data.toList).isSome]) ∧ Below w.heap.size w w' := by
  have HI := Lib.hid (fun w => l7Of_any s w)
  cases h : termOf s.data.toList with
  | none =>
    obtain rfl := tidyV_none h hV
    rw [h] at HI
    clear h hV
    go_enter Try.func23, Try.ntmps23
    go_wp2_with fail
    refine (HI.out _).mono ?_
    rintro e w1 ⟨he, hb⟩
    obtain ⟨c, a, n, k, rfl, _⟩ := he.form
    have HB := Lib.hid (hb.alloc hb.size (.cells #[.int .u8 c.toNat, .slice a n k] 37))
    clear he hb
    go_wp2_with fail
    go_ret2
    exact ⟨rfl, HB.out⟩
  | some t =>
    obtain rfl := tidyV_some h hV
    rw [h] at HI
    obtain ⟨_, ho, hl⟩ := termOf_some h
    have HT := Lib.hid (fun B v w hI => tidyS_any t B v w ho (by omega) hI)
    clear h hV ho hl
    generalize tmS (tidy t) = X at HT
    go_enter Try.func23, Try.ntmps23
    go_wp2_with fail
    refine (HI.out _).mono ?_
    rintro e w1 ⟨he, hb⟩
    obtain ⟨c, a, n, k, rfl, hI⟩ := he.form
    have HB := Lib.hid (hb.alloc hb.size (.cells #[.int .u8 c.toNat, .slice a n k] 37))
    have HX := Lib.hid (HT.out _ _ (w1.alloc (.cells #[.int .u8 c.toNat, .slice a n k] 37)) ((hI t rfl).step ((Below.refl _ _).alloc (Nat.le_refl _) _)))
    clear he hb hI
    go_wp2_with fail
    refine HX.out.mono ?_
    rintro e w2 ⟨rfl, hb2⟩
    go_wp2_with fail
    go_ret2
    exact ⟨rfl, HB.out.trans (hb2.mono HB.out.size)⟩

end Go.Proofs.Ytcacdgojibojgab
