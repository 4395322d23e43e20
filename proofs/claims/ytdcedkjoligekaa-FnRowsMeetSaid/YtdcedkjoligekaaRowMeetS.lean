/-
  The walk of the model's RowsMeet.
-/
import Derived.Test.YtdcedkjoligekaaRowS
import Derived.Test.YtdcedkjoligekaaRowMeetA
namespace Go.Proofs.Ytdcedkjoligekaa
open Go.RowKit
set_option linter.unusedVariables false

theorem read_row {w : World} {a : Option Addr} {n : Nat} {zs : List Int} (h : ReadsI w a n zs) (hg : goodRow zs = true) : n = 2 ∧ IsRw w a (theRow zs) ∧ (theRow zs).Fits := by
  obtain ⟨h1, h2⟩ := goodRow_parts hg
  have hl := h.len
  have e : n = 2 := by rw [← hl, h1]; rfl
  subst e
  exact ⟨rfl, by unfold IsRw; rw [← h1]; exact h, h2⟩
theorem meet_bad {z t : List Int} (h : goodRow z = false ∨ goodRow t = false) : MeetAns z t [] false := by
  refine .inr ⟨rfl, rfl, fun m hm => ?_⟩
  rcases h with h | h
  · rw [hm.1] at h; cases h
  · rw [hm.2.1] at h; cases h

theorem lcmS_div (a b : Nat) : a / Nat.gcd a b * b = Nat.lcm a b := by
  unfold Nat.lcm
  rw [Nat.div_mul_right_comm (Nat.gcd_dvd_left a b)]

/-- The model's loop over the numbers to 59. -/
def Ahead (r q : Rw) (n : Nat) : Prop := ∀ k, k < n → ¬ (r.has k = true ∧ q.has k = true)

theorem ahead_no {r q : Rw} {n : Nat} (h : Ahead r q n) (hn : r.has n = false ∨ q.has n = false) : Ahead r q (n + 1) := by
  intro k hk hc
  rcases Nat.lt_or_ge k n with a | a
  · exact h k a hc
  · obtain rfl : k = n := by omega
    rcases hn with e | e
    · rw [e] at hc; exact absurd hc.1 (by decide)
    · rw [e] at hc; exact absurd hc.2 (by decide)
theorem IsRw.below {w w' : World} {a : Option Addr} {r : Rw} {B : Nat} (h : IsRw w a r) (hb : Below B w w') (hB : w.heap.size ≤ B) : IsRw w' a r := ReadsI.below h hb hB

set_option maxRecDepth 100000 in
set_option maxHeartbeats 4000000 in
theorem specMeet_a (a1 a2 : Option Addr) (c1 c2 : Nat) (z t : List Int) (w : World) (hz : goodRow z = true) (ht : goodRow t = true) (h1 : ReadsI w a1 2 z) (h2 : ReadsI w a2 2 t) (hs0 : (theRow z).s = 0) :
    Calls Try.prog 33 #[.slice a1 2 c1, .slice a2 2 c2] w fun e w' => ∃ l b, MeetAns z t l b ∧ IntsOut l b w e w' := by
  obtain ⟨_, i1, f1⟩ := read_row h1 hz
  obtain ⟨_, i2, f2⟩ := read_row h2 ht
  obtain ⟨⟨b, s⟩, hr⟩ : ∃ r, r = theRow z := ⟨_, rfl⟩
  obtain ⟨⟨p, q⟩, hq⟩ : ∃ r, r = theRow t := ⟨_, rfl⟩
  rw [← hr] at i1 f1
  rw [← hq] at i2 f2
  obtain ⟨fb, fs⟩ := f1
  obtain ⟨fp, fq⟩ := f2
  have fb : b ≤ 59 := fb
  have fs : s ≤ 60 := fs
  have fp : p ≤ 59 := fp
  have fq : q ≤ 60 := fq
  obtain ⟨g1, o1, rfl, hg1, k0, k1⟩ := i1.cells
  obtain ⟨g2, o2, rfl, hg2, k2, k3⟩ := i2.cells
  have H1 := Lib.hid i1
  have H2 := Lib.hid i2
  have HR := Lib.hid hr
  have HQ := Lib.hid hq
  have HZ := Lib.hid hz
  have HT := Lib.hid ht
  have R1 := Lib.hid h1
  have R2 := Lib.hid h2
  clear i1 i2 hr hq hz ht h1 h2
  have hs0 : s = 0 := by have := HR.out; rw [← this] at hs0; exact hs0
  subst hs0
  have HST : Hid (stepOf ⟨b, 0⟩ ⟨p, q⟩ = 0) := Lib.hid (by unfold stepOf; rw [if_pos (.inl rfl)])
  go_enter Try.func33, Try.ntmps33
  go_wp2_with fail
  refine (l3Row_is (some ⟨g1, o1, none⟩) 2 c1 z _ R1.out (by decide)).mono ?_
  rintro e w1 ⟨rfl, rfl⟩
  rw [HZ.out]
  go_wp2_with fail
  refine (l3Row_is (some ⟨g2, o2, none⟩) 2 c2 t _ R2.out (by decide)).mono ?_
  rintro e w1 ⟨rfl, rfl⟩
  rw [HT.out]
  go_wp2
  clear k0 k1 k2 k3
  go_loopw [7] (fun i wr => ∃ n : Nat, i = .int .i64 n ∧ n ≤ 60 ∧ (0 ≤ 60 → Ahead ⟨b, 0⟩ ⟨p, q⟩ n) ∧ Below w.heap.size w wr) (fun i _ => 60 - (intOf i).toNat)
  case atStart => exact ⟨0, rfl, by omega, fun _ k hk => absurd hk (Nat.not_lt_zero _), Below.refl _ _⟩
  case round =>
    obtain ⟨n, rfl, hn, hah, hB⟩ := hrel
    have HA := Lib.hid hah
    have HB := Lib.hid hB
    have I1 := Lib.hid (IsRw.below H1.out hB (Nat.le_refl _))
    clear hah hB
    by_cases h59 : n ≤ 59
    · cases e1 : (Rw.mk b 0).has n
      · have HE1 := Lib.hid e1
        clear e1
        go_wp2_with fail
        refine (l3Has_is (some ⟨g1, o1, none⟩) c1 ⟨b, 0⟩ n _ I1.out (by show b ≤ 1000000; omega) (by show 0 ≤ 1000000; omega) (by omega)).mono ?_
        rintro e w3 ⟨rfl, hb3⟩
        rw [HE1.out]
        have HB3 := Lib.hid (HB.out.trans (hb3.mono HB.out.size))
        clear hb3
        go_wp2
        go_roundw
        case rel => exact ⟨n + 1, by go_num, by omega, fun hst => ahead_no (HA.out hst) (.inl HE1.out), HB3.out⟩
        case measure => simp [intOf]; omega
      · have HE1 := Lib.hid e1
        clear e1
        cases e2 : (Rw.mk p q).has n
        · have HE2 := Lib.hid e2
          clear e2
          go_wp2_with fail
          refine (l3Has_is (some ⟨g1, o1, none⟩) c1 ⟨b, 0⟩ n _ I1.out (by show b ≤ 1000000; omega) (by show 0 ≤ 1000000; omega) (by omega)).mono ?_
          rintro e w3 ⟨rfl, hb3⟩
          rw [HE1.out]
          have HB3 := Lib.hid (HB.out.trans (hb3.mono HB.out.size))
          have I2 := Lib.hid (IsRw.below H2.out HB3.out (Nat.le_refl _))
          clear hb3
          go_wp2_with fail
          refine (l3Has_is (some ⟨g2, o2, none⟩) c2 ⟨p, q⟩ n _ I2.out (by show p ≤ 1000000; omega) (by show q ≤ 1000000; omega) (by omega)).mono ?_
          rintro e w4 ⟨rfl, hb4⟩
          rw [HE2.out]
          have HB4 := Lib.hid (HB3.out.trans (hb4.mono HB3.out.size))
          clear hb4
          go_wp2
          go_roundw
          case rel => exact ⟨n + 1, by go_num, by omega, fun hst => ahead_no (HA.out hst) (.inr HE2.out), HB4.out⟩
          case measure => simp [intOf]; omega
        · have HE2 := Lib.hid e2
          clear e2
          by_cases hst : 0 ≤ 60
          · have hstZ : ((0 : Nat) : Int) ≤ 60 := by omega
            go_wp2_with fail
            refine (l3Has_is (some ⟨g1, o1, none⟩) c1 ⟨b, 0⟩ n _ I1.out (by show b ≤ 1000000; omega) (by show 0 ≤ 1000000; omega) (by omega)).mono ?_
            rintro e w3 ⟨rfl, hb3⟩
            rw [HE1.out]
            have HB3 := Lib.hid (HB.out.trans (hb3.mono HB.out.size))
            have I2 := Lib.hid (IsRw.below H2.out HB3.out (Nat.le_refl _))
            clear hb3
            go_wp2_with fail
            refine (l3Has_is (some ⟨g2, o2, none⟩) c2 ⟨p, q⟩ n _ I2.out (by show p ≤ 1000000; omega) (by show q ≤ 1000000; omega) (by omega)).mono ?_
            rintro e w4 ⟨rfl, hb4⟩
            rw [HE2.out]
            have HB4 := Lib.hid (HB3.out.trans (hb4.mono HB3.out.size))
            clear hb4
            go_wp2
            go_ret2
            refine ⟨[(n : Int), ((0 : Nat) : Int)], true, .inl ⟨rfl, n, ⟨HZ.out, HT.out, ?_, h59, ?_⟩, ?_⟩, intsOut_pair HB4.out _ _⟩
            · rw [← HR.out, ← HQ.out]; exact And.intro HE1.out (And.intro HE2.out (HA.out (by first | exact hst | decide)))
            · rw [← HR.out, ← HQ.out, HST.out]; exact hst
            · rw [← HR.out, ← HQ.out, HST.out]
          · omega
    · obtain rfl : n = 60 := by omega
      go_wp2
      go_ret2
      refine ⟨[], false, .inr ⟨rfl, rfl, fun m hm => ?_⟩, intsOut_none HB.out⟩
      obtain ⟨_, _, hl, hm59, hst⟩ := hm
      rw [← HR.out, ← HQ.out] at hl hst
      rw [HST.out] at hst
      exact HA.out hst m (by omega) ⟨hl.1, hl.2.1⟩
set_option maxRecDepth 100000 in
set_option maxHeartbeats 4000000 in
theorem specMeet_b (a1 a2 : Option Addr) (c1 c2 : Nat) (z t : List Int) (w : World) (hz : goodRow z = true) (ht : goodRow t = true) (h1 : ReadsI w a1 2 z) (h2 : ReadsI w a2 2 t) (hs1 : 0 < (theRow z).s) (hq0 : (theRow t).s = 0) :
    Calls Try.prog 33 #[.slice a1 2 c1, .slice a2 2 c2] w fun e w' => ∃ l b, MeetAns z t l b ∧ IntsOut l b w e w' := by
  obtain ⟨_, i1, f1⟩ := read_row h1 hz
  obtain ⟨_, i2, f2⟩ := read_row h2 ht
  obtain ⟨⟨b, s⟩, hr⟩ : ∃ r, r = theRow z := ⟨_, rfl⟩
  obtain ⟨⟨p, q⟩, hq⟩ : ∃ r, r = theRow t := ⟨_, rfl⟩
  rw [← hr] at i1 f1
  rw [← hq] at i2 f2
  obtain ⟨fb, fs⟩ := f1
  obtain ⟨fp, fq⟩ := f2
  have fb : b ≤ 59 := fb
  have fs : s ≤ 60 := fs
  have fp : p ≤ 59 := fp
  have fq : q ≤ 60 := fq
  obtain ⟨g1, o1, rfl, hg1, k0, k1⟩ := i1.cells
  obtain ⟨g2, o2, rfl, hg2, k2, k3⟩ := i2.cells
  have H1 := Lib.hid i1
  have H2 := Lib.hid i2
  have HR := Lib.hid hr
  have HQ := Lib.hid hq
  have HZ := Lib.hid hz
  have HT := Lib.hid ht
  have R1 := Lib.hid h1
  have R2 := Lib.hid h2
  clear i1 i2 hr hq hz ht h1 h2
  have hs1 : 0 < s := by have := HR.out; rw [← this] at hs1; exact hs1
  have hq0 : q = 0 := by have := HQ.out; rw [← this] at hq0; exact hq0
  subst hq0
  have HST : Hid (stepOf ⟨b, s⟩ ⟨p, 0⟩ = 0) := Lib.hid (by unfold stepOf; rw [if_pos (.inr rfl)])
  go_enter Try.func33, Try.ntmps33
  go_wp2_with fail
  refine (l3Row_is (some ⟨g1, o1, none⟩) 2 c1 z _ R1.out (by decide)).mono ?_
  rintro e w1 ⟨rfl, rfl⟩
  rw [HZ.out]
  go_wp2_with fail
  refine (l3Row_is (some ⟨g2, o2, none⟩) 2 c2 t _ R2.out (by decide)).mono ?_
  rintro e w1 ⟨rfl, rfl⟩
  rw [HT.out]
  go_wp2
  clear k0 k1 k2 k3
  go_loopw [7] (fun i wr => ∃ n : Nat, i = .int .i64 n ∧ n ≤ 60 ∧ (0 ≤ 60 → Ahead ⟨b, s⟩ ⟨p, 0⟩ n) ∧ Below w.heap.size w wr) (fun i _ => 60 - (intOf i).toNat)
  case atStart => exact ⟨0, rfl, by omega, fun _ k hk => absurd hk (Nat.not_lt_zero _), Below.refl _ _⟩
  case round =>
    obtain ⟨n, rfl, hn, hah, hB⟩ := hrel
    have HA := Lib.hid hah
    have HB := Lib.hid hB
    have I1 := Lib.hid (IsRw.below H1.out hB (Nat.le_refl _))
    clear hah hB
    by_cases h59 : n ≤ 59
    · cases e1 : (Rw.mk b s).has n
      · have HE1 := Lib.hid e1
        clear e1
        go_wp2_with fail
        refine (l3Has_is (some ⟨g1, o1, none⟩) c1 ⟨b, s⟩ n _ I1.out (by show b ≤ 1000000; omega) (by show s ≤ 1000000; omega) (by omega)).mono ?_
        rintro e w3 ⟨rfl, hb3⟩
        rw [HE1.out]
        have HB3 := Lib.hid (HB.out.trans (hb3.mono HB.out.size))
        clear hb3
        go_wp2
        go_roundw
        case rel => exact ⟨n + 1, by go_num, by omega, fun hst => ahead_no (HA.out hst) (.inl HE1.out), HB3.out⟩
        case measure => simp [intOf]; omega
      · have HE1 := Lib.hid e1
        clear e1
        cases e2 : (Rw.mk p 0).has n
        · have HE2 := Lib.hid e2
          clear e2
          go_wp2_with fail
          refine (l3Has_is (some ⟨g1, o1, none⟩) c1 ⟨b, s⟩ n _ I1.out (by show b ≤ 1000000; omega) (by show s ≤ 1000000; omega) (by omega)).mono ?_
          rintro e w3 ⟨rfl, hb3⟩
          rw [HE1.out]
          have HB3 := Lib.hid (HB.out.trans (hb3.mono HB.out.size))
          have I2 := Lib.hid (IsRw.below H2.out HB3.out (Nat.le_refl _))
          clear hb3
          go_wp2_with fail
          refine (l3Has_is (some ⟨g2, o2, none⟩) c2 ⟨p, 0⟩ n _ I2.out (by show p ≤ 1000000; omega) (by show 0 ≤ 1000000; omega) (by omega)).mono ?_
          rintro e w4 ⟨rfl, hb4⟩
          rw [HE2.out]
          have HB4 := Lib.hid (HB3.out.trans (hb4.mono HB3.out.size))
          clear hb4
          go_wp2
          go_roundw
          case rel => exact ⟨n + 1, by go_num, by omega, fun hst => ahead_no (HA.out hst) (.inr HE2.out), HB4.out⟩
          case measure => simp [intOf]; omega
        · have HE2 := Lib.hid e2
          clear e2
          by_cases hst : 0 ≤ 60
          · have hstZ : ((0 : Nat) : Int) ≤ 60 := by omega
            go_wp2_with fail
            refine (l3Has_is (some ⟨g1, o1, none⟩) c1 ⟨b, s⟩ n _ I1.out (by show b ≤ 1000000; omega) (by show s ≤ 1000000; omega) (by omega)).mono ?_
            rintro e w3 ⟨rfl, hb3⟩
            rw [HE1.out]
            have HB3 := Lib.hid (HB.out.trans (hb3.mono HB.out.size))
            have I2 := Lib.hid (IsRw.below H2.out HB3.out (Nat.le_refl _))
            clear hb3
            go_wp2_with fail
            refine (l3Has_is (some ⟨g2, o2, none⟩) c2 ⟨p, 0⟩ n _ I2.out (by show p ≤ 1000000; omega) (by show 0 ≤ 1000000; omega) (by omega)).mono ?_
            rintro e w4 ⟨rfl, hb4⟩
            rw [HE2.out]
            have HB4 := Lib.hid (HB3.out.trans (hb4.mono HB3.out.size))
            clear hb4
            go_wp2
            go_ret2
            refine ⟨[(n : Int), ((0 : Nat) : Int)], true, .inl ⟨rfl, n, ⟨HZ.out, HT.out, ?_, h59, ?_⟩, ?_⟩, intsOut_pair HB4.out _ _⟩
            · rw [← HR.out, ← HQ.out]; exact And.intro HE1.out (And.intro HE2.out (HA.out (by first | exact hst | decide)))
            · rw [← HR.out, ← HQ.out, HST.out]; exact hst
            · rw [← HR.out, ← HQ.out, HST.out]
          · omega
    · obtain rfl : n = 60 := by omega
      go_wp2
      go_ret2
      refine ⟨[], false, .inr ⟨rfl, rfl, fun m hm => ?_⟩, intsOut_none HB.out⟩
      obtain ⟨_, _, hl, hm59, hst⟩ := hm
      rw [← HR.out, ← HQ.out] at hl hst
      rw [HST.out] at hst
      exact HA.out hst m (by omega) ⟨hl.1, hl.2.1⟩
set_option maxRecDepth 100000 in
set_option maxHeartbeats 4000000 in
theorem specMeet_c (a1 a2 : Option Addr) (c1 c2 : Nat) (z t : List Int) (w : World) (hz : goodRow z = true) (ht : goodRow t = true) (h1 : ReadsI w a1 2 z) (h2 : ReadsI w a2 2 t) (hs1 : 0 < (theRow z).s) (hq1 : 0 < (theRow t).s) :
    Calls Try.prog 33 #[.slice a1 2 c1, .slice a2 2 c2] w fun e w' => ∃ l b, MeetAns z t l b ∧ IntsOut l b w e w' := by
  obtain ⟨_, i1, f1⟩ := read_row h1 hz
  obtain ⟨_, i2, f2⟩ := read_row h2 ht
  obtain ⟨⟨b, s⟩, hr⟩ : ∃ r, r = theRow z := ⟨_, rfl⟩
  obtain ⟨⟨p, q⟩, hq⟩ : ∃ r, r = theRow t := ⟨_, rfl⟩
  rw [← hr] at i1 f1
  rw [← hq] at i2 f2
  obtain ⟨fb, fs⟩ := f1
  obtain ⟨fp, fq⟩ := f2
  have fb : b ≤ 59 := fb
  have fs : s ≤ 60 := fs
  have fp : p ≤ 59 := fp
  have fq : q ≤ 60 := fq
  obtain ⟨g1, o1, rfl, hg1, k0, k1⟩ := i1.cells
  obtain ⟨g2, o2, rfl, hg2, k2, k3⟩ := i2.cells
  have H1 := Lib.hid i1
  have H2 := Lib.hid i2
  have HR := Lib.hid hr
  have HQ := Lib.hid hq
  have HZ := Lib.hid hz
  have HT := Lib.hid ht
  have R1 := Lib.hid h1
  have R2 := Lib.hid h2
  clear i1 i2 hr hq hz ht h1 h2
  have hs1 : 0 < s := by have := HR.out; rw [← this] at hs1; exact hs1
  have hq1 : 0 < q := by have := HQ.out; rw [← this] at hq1; exact hq1
  obtain ⟨l, hl⟩ : ∃ l, l = Nat.lcm s q := ⟨_, rfl⟩
  have HST : Hid (stepOf ⟨b, s⟩ ⟨p, q⟩ = l) := Lib.hid (by unfold stepOf; rw [if_neg (by show ¬ (s = 0 ∨ q = 0); omega), hl])
  have hl2 : l ≤ 3600 := by rw [hl]; exact lcm_small fs fq
  obtain ⟨g, hg⟩ : ∃ g, g = Nat.gcd s q := ⟨_, rfl⟩
  have hg0 : 0 < g := by rw [hg]; exact Nat.gcd_pos_of_pos_left _ hs1
  have HD : ∀ w, Calls Try.prog 80 #[.int .i64 s, .int .i64 q] w fun e w' => e = .returned (.int .i64 g) ∧ w' = w := fun w => by rw [hg]; exact (divS_is s q w (by omega) (by omega)).mono fun e w' h => ⟨h.1, h.2.symm⟩
  have HD := Lib.hid HD
  have HL : Hid ((s : Int) / (g : Int) * (q : Int) = (l : Int)) := Lib.hid (by rw [hl, ← lcmS_div, ← hg]; simp)
  have d0 : (g : Int) ≠ 0 := by omega
  have hE : ¬ g = 0 := by omega
  have d1 : 0 ≤ (s : Int) / (g : Int) := Int.ediv_nonneg (by omega) (by omega)
  have d2 : (s : Int) / (g : Int) ≤ 60 := by have := Int.ediv_le_self (b := (g : Int)) (show (0 : Int) ≤ (s : Int) from by omega); omega
  have d3 : 0 ≤ (s : Int) / (g : Int) * (q : Int) := Int.mul_nonneg d1 (by omega)
  have d4 : (s : Int) / (g : Int) * (q : Int) ≤ 3600 := by rw [HL.out]; omega
  clear hl hg
  go_enter Try.func33, Try.ntmps33
  go_wp2_with fail
  refine (l3Row_is (some ⟨g1, o1, none⟩) 2 c1 z _ R1.out (by decide)).mono ?_
  rintro e w1 ⟨rfl, rfl⟩
  rw [HZ.out]
  go_wp2_with fail
  refine (l3Row_is (some ⟨g2, o2, none⟩) 2 c2 t _ R2.out (by decide)).mono ?_
  rintro e w1 ⟨rfl, rfl⟩
  rw [HT.out]
  go_wp2
  go_quiet ((go_at_call 80; exact Calls.quiet_of_same (HD.out _)))
  go_wp2
  rw [HL.out]
  clear d1 d2 d3 d4
  clear k0 k1 k2 k3
  go_loopw [7] (fun i wr => ∃ n : Nat, i = .int .i64 n ∧ n ≤ 60 ∧ (l ≤ 60 → Ahead ⟨b, s⟩ ⟨p, q⟩ n) ∧ Below w.heap.size w wr) (fun i _ => 60 - (intOf i).toNat)
  case atStart => exact ⟨0, rfl, by omega, fun _ k hk => absurd hk (Nat.not_lt_zero _), below_drewN (Below.refl _ _) _⟩
  case round =>
    obtain ⟨n, rfl, hn, hah, hB⟩ := hrel
    have HA := Lib.hid hah
    have HB := Lib.hid hB
    have I1 := Lib.hid (IsRw.below H1.out hB (Nat.le_refl _))
    clear hah hB
    by_cases h59 : n ≤ 59
    · cases e1 : (Rw.mk b s).has n
      · have HE1 := Lib.hid e1
        clear e1
        go_wp2_with fail
        refine (l3Has_is (some ⟨g1, o1, none⟩) c1 ⟨b, s⟩ n _ I1.out (by show b ≤ 1000000; omega) (by show s ≤ 1000000; omega) (by omega)).mono ?_
        rintro e w3 ⟨rfl, hb3⟩
        rw [HE1.out]
        have HB3 := Lib.hid (HB.out.trans (hb3.mono HB.out.size))
        clear hb3
        go_wp2
        go_roundw
        case rel => exact ⟨n + 1, by go_num, by omega, fun hst => ahead_no (HA.out hst) (.inl HE1.out), HB3.out⟩
        case measure => simp [intOf]; omega
      · have HE1 := Lib.hid e1
        clear e1
        cases e2 : (Rw.mk p q).has n
        · have HE2 := Lib.hid e2
          clear e2
          go_wp2_with fail
          refine (l3Has_is (some ⟨g1, o1, none⟩) c1 ⟨b, s⟩ n _ I1.out (by show b ≤ 1000000; omega) (by show s ≤ 1000000; omega) (by omega)).mono ?_
          rintro e w3 ⟨rfl, hb3⟩
          rw [HE1.out]
          have HB3 := Lib.hid (HB.out.trans (hb3.mono HB.out.size))
          have I2 := Lib.hid (IsRw.below H2.out HB3.out (Nat.le_refl _))
          clear hb3
          go_wp2_with fail
          refine (l3Has_is (some ⟨g2, o2, none⟩) c2 ⟨p, q⟩ n _ I2.out (by show p ≤ 1000000; omega) (by show q ≤ 1000000; omega) (by omega)).mono ?_
          rintro e w4 ⟨rfl, hb4⟩
          rw [HE2.out]
          have HB4 := Lib.hid (HB3.out.trans (hb4.mono HB3.out.size))
          clear hb4
          go_wp2
          go_roundw
          case rel => exact ⟨n + 1, by go_num, by omega, fun hst => ahead_no (HA.out hst) (.inr HE2.out), HB4.out⟩
          case measure => simp [intOf]; omega
        · have HE2 := Lib.hid e2
          clear e2
          by_cases hst : l ≤ 60
          · have hstZ : (l : Int) ≤ 60 := by omega
            go_wp2_with fail
            refine (l3Has_is (some ⟨g1, o1, none⟩) c1 ⟨b, s⟩ n _ I1.out (by show b ≤ 1000000; omega) (by show s ≤ 1000000; omega) (by omega)).mono ?_
            rintro e w3 ⟨rfl, hb3⟩
            rw [HE1.out]
            have HB3 := Lib.hid (HB.out.trans (hb3.mono HB.out.size))
            have I2 := Lib.hid (IsRw.below H2.out HB3.out (Nat.le_refl _))
            clear hb3
            go_wp2_with fail
            refine (l3Has_is (some ⟨g2, o2, none⟩) c2 ⟨p, q⟩ n _ I2.out (by show p ≤ 1000000; omega) (by show q ≤ 1000000; omega) (by omega)).mono ?_
            rintro e w4 ⟨rfl, hb4⟩
            rw [HE2.out]
            have HB4 := Lib.hid (HB3.out.trans (hb4.mono HB3.out.size))
            clear hb4
            go_wp2
            go_ret2
            refine ⟨[(n : Int), ((l : Nat) : Int)], true, .inl ⟨rfl, n, ⟨HZ.out, HT.out, ?_, h59, ?_⟩, ?_⟩, intsOut_pair HB4.out _ _⟩
            · rw [← HR.out, ← HQ.out]; exact And.intro HE1.out (And.intro HE2.out (HA.out (by first | exact hst | decide)))
            · rw [← HR.out, ← HQ.out, HST.out]; exact hst
            · rw [← HR.out, ← HQ.out, HST.out]
          · have hstZ : (60 : Int) < (l : Int) := by omega
            have hstD : decide ((l : Int) ≤ 60) = false := decide_eq_false (by omega)
            go_wp2_with fail
            refine (l3Has_is (some ⟨g1, o1, none⟩) c1 ⟨b, s⟩ n _ I1.out (by show b ≤ 1000000; omega) (by show s ≤ 1000000; omega) (by omega)).mono ?_
            rintro e w3 ⟨rfl, hb3⟩
            rw [HE1.out]
            have HB3 := Lib.hid (HB.out.trans (hb3.mono HB.out.size))
            have I2 := Lib.hid (IsRw.below H2.out HB3.out (Nat.le_refl _))
            clear hb3
            go_wp2_with fail
            refine (l3Has_is (some ⟨g2, o2, none⟩) c2 ⟨p, q⟩ n _ I2.out (by show p ≤ 1000000; omega) (by show q ≤ 1000000; omega) (by omega)).mono ?_
            rintro e w4 ⟨rfl, hb4⟩
            rw [HE2.out]
            have HB4 := Lib.hid (HB3.out.trans (hb4.mono HB3.out.size))
            clear hb4
            go_wp2
            go_roundw
            case rel => exact ⟨n + 1, by go_num, by omega, fun hst2 => absurd hst2 hst, HB4.out⟩
            case measure => simp [intOf]; omega
    · obtain rfl : n = 60 := by omega
      go_wp2
      go_ret2
      refine ⟨[], false, .inr ⟨rfl, rfl, fun m hm => ?_⟩, intsOut_none HB.out⟩
      obtain ⟨_, _, hl, hm59, hst⟩ := hm
      rw [← HR.out, ← HQ.out] at hl hst
      rw [HST.out] at hst
      exact HA.out hst m (by omega) ⟨hl.1, hl.2.1⟩

set_option maxHeartbeats 1000000 in
theorem specMeet (a1 a2 : Option Addr) (n1 c1 n2 c2 : Nat) (z t : List Int) (w : World) (h1 : ReadsI w a1 n1 z) (h2 : ReadsI w a2 n2 t) (hn1 : n1 ≤ 1048576) (hn2 : n2 ≤ 1048576) :
    Calls Try.prog 33 #[.slice a1 n1 c1, .slice a2 n2 c2] w fun e w' => ∃ l b, MeetAns z t l b ∧ IntsOut l b w e w' := by
  cases hz : goodRow z
  · have HA := Lib.hid (meet_bad (z := z) (t := t) (.inl hz))
    have HZ := Lib.hid hz
    have H1 := Lib.hid h1
    clear h1 h2 hz
    go_enter Try.func33, Try.ntmps33
    go_wp2_with fail
    refine (l3Row_is a1 n1 c1 z _ H1.out hn1).mono ?_
    rintro e w1 ⟨rfl, rfl⟩
    rw [HZ.out]
    go_wp2
    go_ret2
    exact ⟨[], false, HA.out, intsOut_none (Below.refl _ _)⟩
  · cases ht : goodRow t
    · have HA := Lib.hid (meet_bad (z := z) (t := t) (.inr ht))
      have HZ := Lib.hid hz
      have HT := Lib.hid ht
      have H1 := Lib.hid h1
      have H2 := Lib.hid h2
      clear h1 h2 hz ht
      go_enter Try.func33, Try.ntmps33
      go_wp2_with fail
      refine (l3Row_is a1 n1 c1 z _ H1.out hn1).mono ?_
      rintro e w1 ⟨rfl, rfl⟩
      rw [HZ.out]
      go_wp2_with fail
      refine (l3Row_is a2 n2 c2 t _ H2.out hn2).mono ?_
      rintro e w1 ⟨rfl, rfl⟩
      rw [HT.out]
      go_wp2
      go_ret2
      exact ⟨[], false, HA.out, intsOut_none (Below.refl _ _)⟩
    · obtain ⟨rfl, _, _⟩ := read_row h1 hz
      obtain ⟨rfl, _, _⟩ := read_row h2 ht
      rcases Nat.eq_zero_or_pos (theRow z).s with k | k
      · exact specMeet_a a1 a2 c1 c2 z t w hz ht h1 h2 k
      · rcases Nat.eq_zero_or_pos (theRow t).s with k2 | k2
        · exact specMeet_b a1 a2 c1 c2 z t w hz ht h1 h2 k k2
        · exact specMeet_c a1 a2 c1 c2 z t w hz ht h1 h2 k k2

end Go.Proofs.Ytdcedkjoligekaa
