/-
  The walk of SumOf, of the program. The walk of SumOf, of the program, whatever the texts.
-/
import Derived.Test.YtiphooodijbhiaaSumWithI
import Derived.Deep.RegionHeld
set_option linter.unusedSimpArgs false
set_option linter.unusedVariables false
namespace Go.Proofs.Ytiphooodijbhiaa
open Go.RowKit

/-- The boxes of two sets. -/
structure SumBoxes (T R T2 R2 : ByteArray) (P Q : Nat) (w wr : World) : Prop where
  p0 : wr.cell? ⟨P, 0, none⟩ = some (.string T)
  p1 : wr.cell? ⟨P, 1, none⟩ = some (.string R)
  q0 : wr.cell? ⟨Q, 0, none⟩ = some (.string T2)
  q1 : wr.cell? ⟨Q, 1, none⟩ = some (.string R2)
  below : Below w.heap.size w wr
theorem SumBoxes.step {T R T2 R2 : ByteArray} {P Q : Nat} {w wr w' : World} (h : SumBoxes T R T2 R2 P Q w wr) (hb : Below wr.heap.size wr w') : SumBoxes T R T2 R2 P Q w w' :=
  ⟨(hb.cell (p := ⟨P, 0, none⟩) (lt_of_some h.p0)).trans h.p0, (hb.cell (p := ⟨P, 1, none⟩) (lt_of_some h.p0)).trans h.p1, (hb.cell (p := ⟨Q, 0, none⟩) (lt_of_some h.q0)).trans h.q0, (hb.cell (p := ⟨Q, 1, none⟩) (lt_of_some h.q0)).trans h.q1,
    h.below.trans (hb.mono h.below.size)⟩
theorem sumBoxes_start {w w1 w2 : World} (T R T2 R2 : ByteArray) (hb : Below w.heap.size w w1) (hb2 : Below (w1.alloc (.cells #[.string T, .string R] 84)).heap.size (w1.alloc (.cells #[.string T, .string R] 84)) w2) :
    SumBoxes T R T2 R2 w1.heap.size w2.heap.size w (w2.alloc (.cells #[.string T2, .string R2] 84)) := by
  have h1 := hb.size
  have h2 := hb2.size
  simp at h2
  obtain ⟨e1, e2⟩ := box_later hb2
  have e3 : (w2.alloc (.cells #[.string T2, .string R2] 84)).cell? ⟨w2.heap.size, 0, none⟩ = some (.string T2) := by rw [World.cell?_alloc_at _ _ _ _ rfl]; rfl
  have e4 : (w2.alloc (.cells #[.string T2, .string R2] 84)).cell? ⟨w2.heap.size, 1, none⟩ = some (.string R2) := by rw [World.cell?_alloc_at _ _ _ _ rfl]; rfl
  refine ⟨?_, ?_, e3, e4, ?_⟩
  · rw [World.cell?_alloc_past _ _ _ (by show w1.heap.size < _; omega)]; exact e1
  · rw [World.cell?_alloc_past _ _ _ (by show w1.heap.size < _; omega)]; exact e2
  · exact ((hb.alloc h1 _).trans (hb2.mono (by simp; omega))).alloc (by omega) _

theorem sum_per {f g : Nat → Bool} {T R T2 R2 : ByteArray} (h1 : SmallParts f T R) (h2 : SmallParts g T2 R2) (n : Nat) (hn : 144 ≤ n) : sumG false f g (n + R.size * R2.size) = sumG false f g n := by
  have a1 := h1.tailLe
  have a2 := h2.tailLe
  have a3 : R.size * R2.size ≤ 8 * 8 := Nat.mul_le_mul h1.ringLe h2.ringLe
  refine sum_round (m := 8) (Nat.mul_pos h1.ringPos h2.ringPos) (fun n hn => ?_) (fun n hn => ?_) n (by omega)
  · rw [Nat.mul_comm]; exact per_rounds h1.tidy.per _ _ (by omega)
  · exact per_rounds h2.tidy.per _ _ (by omega)

set_option maxRecDepth 100000 in
set_option maxHeartbeats 2000000 in
theorem implSum_on (s t : ByteArray) (m : Int) (w : World) (hs : s.size ≤ 1048576) (ht : t.size ≤ 1048576) (hL : LibAt m w) (h1 : smallS s = true) (h2 : smallS t = true) :
    Calls Try.prog 192 #[.string s, .string t] w fun e w' => MakeEnd true (sumG false (fS s) (fS t)) e ∧ Below w.heap.size w w' := by
  have HL := Lib.hid hL
  clear hL
  go_enter Try.func192, Try.ntmps192
  go_wp2_with fail
  refine (smallSet_any s m _ hs HL.out).mono ?_
  rintro e w1 ⟨⟨T, R, rfl, hsp⟩, hb⟩
  rw [h1]
  have HSP := Lib.hid (hsp h1)
  have HB1 := Lib.hid hb
  clear hsp hb
  go_wp2_with fail
  refine (smallSet_any t m _ ht ((HL.out.below HB1.out).alloc _)).mono ?_
  rintro e w2 ⟨⟨T2, R2, rfl, hsp2⟩, hb2⟩
  rw [h2]
  have HSP2 := Lib.hid (hsp2 h2)
  have HX := Lib.hid (sumBoxes_start T R T2 R2 HB1.out hb2)
  clear hsp2 hb2
  have HX := Lib.hid (HX.out.step ((Below.refl _ _).drew))
  have keepB : ∀ W1 w' : World, Below W1.heap.size W1 w' → (W1.cell? ⟨w1.heap.size, 0, none⟩ = some (.string T) ∧ W1.cell? ⟨w1.heap.size, 1, none⟩ = some (.string R) ∧ W1.cell? ⟨w2.heap.size, 0, none⟩ = some (.string T2) ∧ W1.cell? ⟨w2.heap.size, 1, none⟩ = some (.string R2) ∧ Below w.heap.size w W1) → (w'.cell? ⟨w1.heap.size, 0, none⟩ = some (.string T) ∧ w'.cell? ⟨w1.heap.size, 1, none⟩ = some (.string R) ∧ w'.cell? ⟨w2.heap.size, 0, none⟩ = some (.string T2) ∧ w'.cell? ⟨w2.heap.size, 1, none⟩ = some (.string R2) ∧ Below w.heap.size w w') :=
    fun W1 w' hb h => ⟨(hb.cell (p := ⟨w1.heap.size, 0, none⟩) (lt_of_some h.1)).trans h.1, (hb.cell (p := ⟨w1.heap.size, 1, none⟩) (lt_of_some h.1)).trans h.2.1, (hb.cell (p := ⟨w2.heap.size, 0, none⟩) (lt_of_some h.2.2.1)).trans h.2.2.1, (hb.cell (p := ⟨w2.heap.size, 1, none⟩) (lt_of_some h.2.2.1)).trans h.2.2.2.1, h.2.2.2.2.trans (hb.mono h.2.2.2.2.size)⟩
  have K1 : Hid (∀ W1 : World, (W1.cell? ⟨w1.heap.size, 0, none⟩ = some (.string T) ∧ W1.cell? ⟨w1.heap.size, 1, none⟩ = some (.string R) ∧ W1.cell? ⟨w2.heap.size, 0, none⟩ = some (.string T2) ∧ W1.cell? ⟨w2.heap.size, 1, none⟩ = some (.string R2) ∧ Below w.heap.size w W1) → Calls Try.prog 180 #[.agg #[.string T, .string R], .int .i64 268] W1 fun e w' => (∃ G, e = .returned (.slice (some ⟨G, 0, none⟩) (268 : Nat) (268 : Nat)) ∧ BRow w' G 268 (fS s)) ∧ (w'.cell? ⟨w1.heap.size, 0, none⟩ = some (.string T) ∧ w'.cell? ⟨w1.heap.size, 1, none⟩ = some (.string R) ∧ w'.cell? ⟨w2.heap.size, 0, none⟩ = some (.string T2) ∧ w'.cell? ⟨w2.heap.size, 1, none⟩ = some (.string R2) ∧ Below w.heap.size w w') ∧ Below W1.heap.size W1 w') :=
    Lib.hid (fun W1 h => (numbersOf_any (fS s) T R 268 W1 HSP.out.parts (by omega)).mono fun e w' ⟨G, he, _, hr, hb⟩ => ⟨⟨G, he, hr⟩, keepB _ _ hb h, hb⟩)
  have K2 : Hid (∀ W1 : World, (W1.cell? ⟨w1.heap.size, 0, none⟩ = some (.string T) ∧ W1.cell? ⟨w1.heap.size, 1, none⟩ = some (.string R) ∧ W1.cell? ⟨w2.heap.size, 0, none⟩ = some (.string T2) ∧ W1.cell? ⟨w2.heap.size, 1, none⟩ = some (.string R2) ∧ Below w.heap.size w W1) → Calls Try.prog 180 #[.agg #[.string T2, .string R2], .int .i64 268] W1 fun e w' => (∃ G, e = .returned (.slice (some ⟨G, 0, none⟩) (268 : Nat) (268 : Nat)) ∧ BRow w' G 268 (fS t)) ∧ (w'.cell? ⟨w1.heap.size, 0, none⟩ = some (.string T) ∧ w'.cell? ⟨w1.heap.size, 1, none⟩ = some (.string R) ∧ w'.cell? ⟨w2.heap.size, 0, none⟩ = some (.string T2) ∧ w'.cell? ⟨w2.heap.size, 1, none⟩ = some (.string R2) ∧ Below w.heap.size w w') ∧ Below W1.heap.size W1 w') :=
    Lib.hid (fun W1 h => (numbersOf_any (fS t) T2 R2 268 W1 HSP2.out.parts (by omega)).mono fun e w' ⟨G, he, _, hr, hb⟩ => ⟨⟨G, he, hr⟩, keepB _ _ hb h, hb⟩)
  have K3 : Hid (∀ (W1 : World) (G1 G2 : Nat), (W1.cell? ⟨w1.heap.size, 0, none⟩ = some (.string T) ∧ W1.cell? ⟨w1.heap.size, 1, none⟩ = some (.string R) ∧ W1.cell? ⟨w2.heap.size, 0, none⟩ = some (.string T2) ∧ W1.cell? ⟨w2.heap.size, 1, none⟩ = some (.string R2) ∧ Below w.heap.size w W1) → BRow W1 G1 268 (fS s) → BRow W1 G2 268 (fS t) → Calls Try.prog 190 #[.slice (some ⟨G1, 0, none⟩) (268 : Nat) (268 : Nat), .slice (some ⟨G2, 0, none⟩) (268 : Nat) (268 : Nat)] W1 fun e w' => (∃ G, e = .returned (.slice (some ⟨G, 0, none⟩) (268 : Nat) (268 : Nat)) ∧ BRow w' G 268 (sumG false (fS s) (fS t))) ∧ (w'.cell? ⟨w1.heap.size, 0, none⟩ = some (.string T) ∧ w'.cell? ⟨w1.heap.size, 1, none⟩ = some (.string R) ∧ w'.cell? ⟨w2.heap.size, 0, none⟩ = some (.string T2) ∧ w'.cell? ⟨w2.heap.size, 1, none⟩ = some (.string R2) ∧ Below w.heap.size w w')) :=
    Lib.hid (fun W1 G1 G2 h h1 h2 => (sumWith_any G1 0 268 268 G2 0 268 268 268 (fS s) (fS t) W1 h1.num h2.num (by omega) (by omega)).mono fun e w' ⟨G, he, _, hr, hb⟩ => ⟨⟨G, he, hr⟩, keepB _ _ hb h⟩)
  have HSD : (w2.alloc (.cells #[.string T2, .string R2] 84)).drew.cell? ⟨w1.heap.size, 0, none⟩ = some (.string T) ∧ (w2.alloc (.cells #[.string T2, .string R2] 84)).drew.cell? ⟨w1.heap.size, 1, none⟩ = some (.string R) ∧ (w2.alloc (.cells #[.string T2, .string R2] 84)).drew.cell? ⟨w2.heap.size, 0, none⟩ = some (.string T2) ∧ (w2.alloc (.cells #[.string T2, .string R2] 84)).drew.cell? ⟨w2.heap.size, 1, none⟩ = some (.string R2) ∧ Below w.heap.size w (w2.alloc (.cells #[.string T2, .string R2] 84)).drew := ⟨HX.out.p0, HX.out.p1, HX.out.q0, HX.out.q1, HX.out.below⟩
  clear keepB
  go_wp2_with fail
  go_region_held (fun w' => w'.cell? ⟨w1.heap.size, 0, none⟩ = some (.string T) ∧ w'.cell? ⟨w1.heap.size, 1, none⟩ = some (.string R) ∧ w'.cell? ⟨w2.heap.size, 0, none⟩ = some (.string T2) ∧ w'.cell? ⟨w2.heap.size, 1, none⟩ = some (.string R2) ∧ Below w.heap.size w w') (first | assumption | exact ⟨by assumption, by assumption, by assumption, by assumption, by assumption⟩)
    (first
      | (go_at_call 180; (with_reducible refine (K1.out _ ?_).mono ?_); assumption; rintro e w5 ⟨⟨G1, rfl, hr1⟩, hk1, hb5⟩)
      | (go_at_call 180; (with_reducible refine (K2.out _ ?_).mono ?_); assumption; rintro e w6 ⟨⟨G2, rfl, hr2⟩, hk2, hb6⟩)
      | (go_at_call 190; (with_reducible refine (K3.out _ _ _ ?_ (hr1.step hb6) hr2).mono ?_); assumption; rintro e w7 ⟨⟨GS, rfl, hr7⟩, hk7⟩))
  have HR7 := Lib.hid hr7
  have HK := Lib.hid hk7
  have p1 := hk7.2.1
  have q1 := hk7.2.2.2.1
  clear hr1 hr2 hr7 hk1 hk2 hk7 hb5 hb6 HSD K1 K2 K3
  have a1 := HSP.out.ringLe
  have a2 := HSP2.out.ringLe
  have a3 : R.size * R2.size ≤ 8 * 8 := Nat.mul_le_mul a1 a2
  obtain ⟨p, hp⟩ : ∃ p, p = R.size * R2.size := ⟨_, rfl⟩
  have hpi : (R.size : Int) * (R2.size : Int) = (p : Int) := by rw [hp, Int.natCast_mul]
  have hp0 : 0 < p := by rw [hp]; exact Nat.mul_pos HSP.out.ringPos HSP2.out.ringPos
  have HPER := Lib.hid (sum_per HSP.out HSP2.out)
  rw [← hp] at a3 HPER
  clear hp
  go_wp2_with fail
  refine (numText_any GS 268 (sumG false (fS s) (fS t)) 144 p m _ HR7.out (by omega) (by omega) hp0 (by omega) (by omega) HPER.out (HL.out.below HK.out.2.2.2.2)).mono ?_
  rintro e w9 ⟨⟨U, b, rfl, hm⟩, hb9⟩
  have HM := Lib.hid hm
  have HB9 := Lib.hid (HK.out.2.2.2.2.trans (hb9.mono HK.out.2.2.2.2.size))
  clear hm hb9
  go_wp2
  go_ret2
  exact ⟨⟨U, b, rfl, HM.out⟩, HB9.out⟩

set_option maxHeartbeats 400000 in
theorem implSum_off (s t : ByteArray) (m : Int) (w : World) (hs : s.size ≤ 1048576) (ht : t.size ≤ 1048576) (hL : LibAt m w) (h : (smallS s && smallS t) = false) :
    Calls Try.prog 192 #[.string s, .string t] w fun e w' => MakeEnd (smallS s && smallS t) (sumG false (fS s) (fS t)) e ∧ Below w.heap.size w w' := by
  have HL := Lib.hid hL
  have HE := Lib.hid h
  have hor : smallS s = false ∨ (smallS s = true ∧ smallS t = false) := by
    cases h1 : smallS s
    · exact .inl rfl
    · rw [h1, Bool.true_and] at h; exact .inr ⟨rfl, h⟩
  clear hL h
  go_enter Try.func192, Try.ntmps192
  go_wp2_with fail
  refine (smallSet_any s m _ hs HL.out).mono ?_
  rintro e w1 ⟨⟨T, R, rfl, hsp⟩, hb⟩
  have HB1 := Lib.hid hb
  clear hsp hb
  go_wp2_with fail
  refine (smallSet_any t m _ ht ((HL.out.below HB1.out).alloc _)).mono ?_
  rintro e w2 ⟨⟨T2, R2, rfl, hsp2⟩, hb2⟩
  have HB2 := Lib.hid (below_second HB1.out hb2 (.cells #[.string T2, .string R2] 84))
  clear hsp2 hb2
  rcases hor with h1 | ⟨h1, h2⟩
  · rw [h1]
    cases smallS t
    · go_wp2
      go_ret2
      exact ⟨makeEnd_off HE.out, HB2.out⟩
    · go_wp2
      go_ret2
      exact ⟨makeEnd_off HE.out, HB2.out⟩
  · rw [h1, h2]
    go_wp2
    go_ret2
    exact ⟨makeEnd_off HE.out, HB2.out⟩

theorem implSum (s t : ByteArray) (m : Int) (w : World) (hs : s.size ≤ 1048576) (ht : t.size ≤ 1048576) (hL : LibAt m w) :
    Calls Try.prog 192 #[.string s, .string t] w fun e w' => MakeEnd (smallS s && smallS t) (sumG false (fS s) (fS t)) e ∧ Below w.heap.size w w' := by
  cases h : (smallS s && smallS t)
  · have := implSum_off s t m w hs ht hL h
    rw [h] at this
    exact this
  · rw [Bool.and_eq_true] at h
    exact implSum_on s t m w hs ht hL h.1 h.2

end Go.Proofs.Ytiphooodijbhiaa
