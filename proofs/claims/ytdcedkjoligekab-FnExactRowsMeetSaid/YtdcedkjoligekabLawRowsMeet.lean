/-
  The walk of the law on RowsMeet: the lists agree, and what is written into one of them is met by no other.
-/
import Derived.Test.YtdcedkjoligekabRowMeetS
import Derived.Test.YtdcedkjoligekabRowMeet
import Derived.Test.YtdcedkjoligekabMarkOnly
namespace Go.Proofs.Ytdcedkjoligekab
open Go.RowKit
set_option linter.unusedVariables false

set_option maxRecDepth 100000 in
set_option maxHeartbeats 2000000 in
theorem lawRowsMeet (a : Option Addr) (n c : Nat) (zz : List Int) (w : World) (hrow : IsRow .i64 w a n c zz) (a' : Option Addr) (n' c' : Nat) (tt : List Int) (hrow' : IsRow .i64 w a' n' c' tt) :
    Calls Try.prog 3 #[.slice a n c, .slice a' n' c'] w fun e w' => e = .returned (.bool true) ∧ Below w.heap.size w w' := by
  by_cases hn : n ≤ 1048576
  · by_cases hn' : n' ≤ 1048576
    · obtain ⟨z, hz⟩ : ∃ l, l = zz.take n := ⟨_, rfl⟩
      obtain ⟨t, ht⟩ : ∃ l, l = tt.take n' := ⟨_, rfl⟩
      have hr := hrow.reads
      have hr' := hrow'.reads
      rw [← hz] at hr
      rw [← ht] at hr'
      clear hz hrow ht hrow'
      have H := Lib.hid hr
      have H' := Lib.hid hr'
      clear hr hr'
      go_enter Try.func3, Try.ntmps3
      go_wp2_with fail
      refine (toIntS_any a n c z _ H.out hn).mono ?_
      rintro e w1 ⟨rfl, hb1, hown1⟩
      have B1 := Lib.hid hb1
      have R1 := Lib.hid (readsI_own hown1)
      clear hb1 hown1
      go_wp2_with fail
      refine (toIntS_any a' n' c' t _ (H'.out.below B1.out (Nat.le_refl _)) hn').mono ?_
      rintro e w2 ⟨rfl, hb2, hown2⟩
      have B2 := Lib.hid (B1.out.trans (hb2.mono B1.out.size))
      have R2 := Lib.hid (R1.out.below hb2 (Nat.le_refl _))
      have S2 := Lib.hid (readsI_own hown2)
      clear hb2 hown2
      go_wp2_with fail
      refine (specMeet _ _ n n n' n' z t _ R2.out S2.out hn hn').mono ?_
      rintro e w3 ⟨l, b, hl, a3, c3, rfl, hb3, hown3⟩
      have B3 := Lib.hid (B2.out.trans (hb3.mono B2.out.size))
      have L0 := Lib.hid (readsI_own hown3)
      have A3 : ∀ y : Addr, a3 = some y → y.block < w3.heap.size := fun y hy => by subst hy; exact (hown3.lt _ rfl).2
      have W3 : w.heap.size ≤ w3.heap.size := B3.out.size
      have HL := Lib.hid hl
      have hle := meetAns_le hl
      clear hb3 hown3 hl R2 S2 R1 B1 B2
      go_wp2_with fail
      refine (toIntS_any a n c z _ (H.out.below B3.out (Nat.le_refl _)) hn).mono ?_
      rintro e w4 ⟨rfl, hb4, hown4⟩
      have B4 := Lib.hid (B3.out.trans (hb4.mono B3.out.size))
      have L4 := Lib.hid (L0.out.below hb4 (Nat.le_refl _))
      have X4 := Lib.hid hown4
      have lt4 : w3.heap.size < w4.heap.size := (hown4.lt _ rfl).2
      have W4 : w.heap.size ≤ w4.heap.size := by omega
      clear hb4 hown4 L0 B3
      go_wp2_with fail
      refine (toIntS_any a' n' c' t _ (H'.out.below B4.out (Nat.le_refl _)) hn').mono ?_
      rintro e w5 ⟨rfl, hb5, hown5⟩
      have B5 := Lib.hid (B4.out.trans (hb5.mono B4.out.size))
      have L5 := Lib.hid (L4.out.below hb5 (Nat.le_refl _))
      have X5 := Lib.hid (own_below X4.out hb5 (Nat.le_refl _))
      have Y5 := Lib.hid hown5
      have lt5 : w4.heap.size < w5.heap.size := (hown5.lt _ rfl).2
      have W5 : w.heap.size ≤ w5.heap.size := by omega
      clear hb5 hown5 L4 X4 B4
      go_wp2_with fail
      refine (implMeet _ _ n n n' n' z t _ (readsI_own X5.out) (readsI_own Y5.out) hn hn').mono ?_
      rintro e w6 ⟨l6, b6, hl6, a6, c6, rfl, hb6, hown6⟩
      obtain ⟨rfl, rfl⟩ := meetAns_unique HL.out hl6
      have B6 := Lib.hid (B5.out.trans (hb6.mono B5.out.size))
      have L6 := Lib.hid (L5.out.below hb6 (Nat.le_refl _))
      have X6 := Lib.hid (own_below X5.out hb6 (Nat.le_refl _))
      have Y6 := Lib.hid (own_below Y5.out hb6 (Nat.le_refl _))
      have G6 := Lib.hid hown6
      have A6 : ∀ y : Addr, a6 = some y → w5.heap.size ≤ y.block := fun y hy => by subst hy; exact (hown6.lt _ rfl).1
      have AX : ∀ y : Addr, a3 = some y → w3.heap.size ≠ y.block := fun y hy => by have := A3 y hy; omega
      have AY : ∀ y : Addr, a3 = some y → w4.heap.size ≠ y.block := fun y hy => by have := A3 y hy; omega
      have AG : ∀ x y : Addr, a6 = some x → a3 = some y → x.block ≠ y.block := fun x y hx hy => by have := A3 y hy; have := A6 x hx; omega
      have XY : (Value.slice (some ⟨w4.heap.size, 0, none⟩) n' n').ownBlock ≠ some w3.heap.size := fun h => by injection h with h; have h : w4.heap.size = w3.heap.size := h; omega
      have XG : (Value.slice a6 l.length c6).ownBlock ≠ some w3.heap.size := fun h => by
        cases a6 with
        | none => cases h
        | some y => injection h with h; have := A6 y rfl; omega
      have YG : (Value.slice a6 l.length c6).ownBlock ≠ some w4.heap.size := fun h => by
        cases a6 with
        | none => cases h
        | some y => injection h with h; have := A6 y rfl; omega
      clear hb6 hown6 hl6 L5 X5 Y5 B5
      go_wp2_with fail
      refine (eqIntS_same _ _ l.length _ _ l _ (readsI_own G6.out) L6.out (by omega)).mono ?_
      rintro e w7 ⟨rfl, nd, rfl⟩
      have B7 := Lib.hid (below_drewN B6.out nd)
      have L7 := Lib.hid (readsI_drewN L6.out nd)
      have X7 := Lib.hid (own_drewN X6.out nd)
      have Y7 := Lib.hid (own_drewN Y6.out nd)
      have G7 := Lib.hid (own_drewN G6.out nd)
      clear B6 L6 X6 Y6 G6
      go_wp2_with fail
      refine (toIntS_any a n c z _ (H.out.below B7.out (Nat.le_refl _)) hn).mono ?_
      rintro e w8 ⟨rfl, hb, hown⟩
      have R8 := Lib.hid (readsI_own hown)
      clear hown
      have B8 := Lib.hid (B7.out.trans (hb.mono B7.out.size))
      have L8 := Lib.hid (L7.out.below hb (Nat.le_refl _))
      have X8 := Lib.hid (own_below X7.out hb (Nat.le_refl _))
      have Y8 := Lib.hid (own_below Y7.out hb (Nat.le_refl _))
      have G8 := Lib.hid (own_below G7.out hb (Nat.le_refl _))
      clear B7 L7 X7 Y7 G7 hb
      go_wp2_with fail
      refine (eqIntS_same _ _ n _ _ z _ (readsI_own X8.out) R8.out hn).mono ?_
      rintro e w9 ⟨rfl, nd, rfl⟩
      have B9 := Lib.hid (below_drewN B8.out nd)
      have L9 := Lib.hid (readsI_drewN L8.out nd)
      have X9 := Lib.hid (own_drewN X8.out nd)
      have Y9 := Lib.hid (own_drewN Y8.out nd)
      have G9 := Lib.hid (own_drewN G8.out nd)
      clear B8 L8 X8 Y8 G8
      go_wp2_with fail
      refine (toIntS_any a' n' c' t _ (H'.out.below B9.out (Nat.le_refl _)) hn').mono ?_
      rintro e w10 ⟨rfl, hb, hown⟩
      have R10 := Lib.hid (readsI_own hown)
      clear hown
      have B10 := Lib.hid (B9.out.trans (hb.mono B9.out.size))
      have L10 := Lib.hid (L9.out.below hb (Nat.le_refl _))
      have X10 := Lib.hid (own_below X9.out hb (Nat.le_refl _))
      have Y10 := Lib.hid (own_below Y9.out hb (Nat.le_refl _))
      have G10 := Lib.hid (own_below G9.out hb (Nat.le_refl _))
      clear B9 L9 X9 Y9 G9 hb
      go_wp2_with fail
      refine (eqIntS_same _ _ n' _ _ t _ (readsI_own Y10.out) R10.out hn').mono ?_
      rintro e w11 ⟨rfl, nd, rfl⟩
      have B11 := Lib.hid (below_drewN B10.out nd)
      have L11 := Lib.hid (readsI_drewN L10.out nd)
      have X11 := Lib.hid (own_drewN X10.out nd)
      have Y11 := Lib.hid (own_drewN Y10.out nd)
      have G11 := Lib.hid (own_drewN G10.out nd)
      clear B10 L10 X10 Y10 G10
      go_wp2_with fail
      refine (markIntS_only w3.heap.size _ n n 1 z _ X11.out hn (by omega)).mono ?_
      rintro e w12 ⟨rfl, hb, hown, honly⟩
      have B12 := Lib.hid (B11.out.trans (hb.mono W3))
      have L12 := Lib.hid (readsI_only L11.out honly (fun x y hx hy => by cases hx; exact AX y hy))
      have Y12 := Lib.hid (own_only Y11.out honly (fun x hx => by cases hx; exact XY))
      have G12 := Lib.hid (own_only G11.out honly (fun x hx => by cases hx; exact XG))
      clear B11 L11 X11 Y11 G11 hb hown honly
      go_wp2_with fail
      refine (markIntS_only w4.heap.size _ n' n' (1 + n) t _ Y12.out hn' (by omega)).mono ?_
      rintro e w13 ⟨rfl, hb, hown, honly⟩
      have B13 := Lib.hid (B12.out.trans (hb.mono W4))
      have L13 := Lib.hid (readsI_only L12.out honly (fun x y hx hy => by cases hx; exact AY y hy))
      have G13 := Lib.hid (own_only G12.out honly (fun x hx => by cases hx; exact YG))
      clear B12 L12 Y12 G12 hb hown honly
      go_wp2_with fail
      refine (eqIntS_same _ _ l.length _ _ l _ (readsI_own G13.out) L13.out (by omega)).mono ?_
      rintro e w14 ⟨rfl, nd, rfl⟩
      have B14 := Lib.hid (below_drewN B13.out nd)
      have L14 := Lib.hid (readsI_drewN L13.out nd)
      have G14 := Lib.hid (own_drewN G13.out nd)
      clear B13 L13 G13
      go_wp2_with fail
      refine (markIntS_only w5.heap.size _ l.length _ 1 l _ G14.out (by omega) (by omega)).mono ?_
      rintro e w15 ⟨rfl, hb, hown, honly⟩
      have B15 := Lib.hid (B14.out.trans (hb.mono W5))
      have L15 := Lib.hid (readsI_only L14.out honly (fun x y hx hy => AG x y hx hy))
      have G15 := Lib.hid hown
      clear B14 L14 G14 hb hown honly
      go_wp2_with fail
      refine (heldIntS_any _ l.length _ 1 _ (readsI_own G15.out) (by omega) (by omega)).mono ?_
      rintro e w16 ⟨rfl, rfl⟩
      go_wp2_with fail
      refine (toIntS_any a n c z _ (H.out.below B15.out (Nat.le_refl _)) hn).mono ?_
      rintro e w17 ⟨rfl, hb, hown⟩
      have R17 := Lib.hid (readsI_own hown)
      clear hown
      have B17 := Lib.hid (B15.out.trans (hb.mono B15.out.size))
      have L17 := Lib.hid (L15.out.below hb (Nat.le_refl _))
      have G17 := Lib.hid (own_below G15.out hb (Nat.le_refl _))
      clear B15 L15 G15 hb
      have P17 := Lib.hid R17.out
      clear R17
      go_wp2_with fail
      refine (toIntS_any a' n' c' t _ (H'.out.below B17.out (Nat.le_refl _)) hn').mono ?_
      rintro e w18 ⟨rfl, hb, hown⟩
      have R18 := Lib.hid (readsI_own hown)
      clear hown
      have B18 := Lib.hid (B17.out.trans (hb.mono B17.out.size))
      have L18 := Lib.hid (L17.out.below hb (Nat.le_refl _))
      have G18 := Lib.hid (own_below G17.out hb (Nat.le_refl _))
      have P18 := Lib.hid (P17.out.below hb (Nat.le_refl _))
      clear B17 L17 G17 P17 hb
      go_wp2_with fail
      refine (implMeet _ _ n n n' n' z t _ P18.out R18.out hn hn').mono ?_
      rintro e w19 ⟨l2, b2, hl2, a9, c9, rfl, hb, hown⟩
      obtain ⟨rfl, rfl⟩ := meetAns_unique HL.out hl2
      have R19 := Lib.hid (readsI_own hown)
      clear hown
      have B19 := Lib.hid (B18.out.trans (hb.mono B18.out.size))
      have L19 := Lib.hid (L18.out.below hb (Nat.le_refl _))
      have G19 := Lib.hid (own_below G18.out hb (Nat.le_refl _))
      clear B18 L18 G18 hb
      clear hl2 P18 R18
      go_wp2_with fail
      refine (eqIntS_same _ _ l.length _ _ l _ R19.out L19.out (by omega)).mono ?_
      rintro e w20 ⟨rfl, nd, rfl⟩
      have B20 := Lib.hid (below_drewN B19.out nd)
      have G20 := Lib.hid (own_drewN G19.out nd)
      clear B19 G19
      go_wp2_with fail
      refine (heldIntS_any _ l.length _ 1 _ (readsI_own G20.out) (by omega) (by omega)).mono ?_
      rintro e w21 ⟨rfl, rfl⟩
      go_wp2
      go_ret
      exact ⟨rfl, B20.out⟩
    · have hd : (1048576 : Int) < (n' : Int) := by omega
      clear hrow hrow'
      go_enter Try.func3, Try.ntmps3
      go_wp2
      go_ret
      exact ⟨rfl, Below.refl _ _⟩
  · have hd : (1048576 : Int) < (n : Int) := by omega
    clear hrow hrow'
    go_enter Try.func3, Try.ntmps3
    go_wp2
    go_ret
    exact ⟨rfl, Below.refl _ _⟩
end Go.Proofs.Ytdcedkjoligekab
