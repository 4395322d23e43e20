/-
  The walk of StarPlus, of the program.
-/
import Derived.Test.YtcacdgojibojgadStarTextI
import Derived.Deep.RegionWith
set_option linter.unusedVariables false
set_option linter.unusedSimpArgs false
namespace Go.Proofs.Ytcacdgojibojgad
open Go.RowKit

/-- A set's box, later. -/
structure PartsBox (T R : ByteArray) (P : Nat) (w wr : World) : Prop where
  c0 : wr.cell? ⟨P, 0, none⟩ = some (.string T)
  c1 : wr.cell? ⟨P, 1, none⟩ = some (.string R)
  below : Below w.heap.size w wr
theorem PartsBox.step {T R : ByteArray} {P : Nat} {w wr w' : World} (h : PartsBox T R P w wr) (hb : Below wr.heap.size wr w') : PartsBox T R P w w' :=
  ⟨(hb.cell (p := ⟨P, 0, none⟩) (lt_of_some h.c0)).trans h.c0, (hb.cell (p := ⟨P, 1, none⟩) (lt_of_some h.c0)).trans h.c1, h.below.trans (hb.mono h.below.size)⟩
theorem PartsBox.drew {T R : ByteArray} {P : Nat} {w wr : World} (h : PartsBox T R P w wr) : PartsBox T R P w wr.drew := h.step (Below.refl _ _).drew
theorem partsBox_start {w w1 : World} (T R : ByteArray) (hb : Below w.heap.size w w1) : PartsBox T R w1.heap.size w (w1.alloc (.cells #[.string T, .string R] 47)) :=
  ⟨by rw [World.cell?_alloc_at _ _ _ _ rfl]; rfl, by rw [World.cell?_alloc_at _ _ _ _ rfl]; rfl, hb.alloc hb.size _⟩

set_option maxHeartbeats 1000000 in
theorem implPlus (s : ByteArray) (m : Int) (w : World) (hs : s.size ≤ 1048576) (hL : LibAt m w) :
    Calls Try.prog 26 #[.string s] w fun e w' => MakeEnd (smallS s) (plusF (fS s)) e ∧ Below w.heap.size w w' := by
  have HL := Lib.hid hL
  clear hL
  go_enter Try.func26, Try.ntmps26
  go_wp2_with fail
  refine (smallSet_any s m _ hs HL.out).mono ?_
  rintro e w1 ⟨⟨T, R, rfl, hsp⟩, hb⟩
  have HB1 := Lib.hid (hb.alloc hb.size (.cells #[.string T, .string R] 47))
  have HB0 := Lib.hid hb
  cases h1 : smallS s
  · have HOK := Lib.hid h1
    clear hsp hb h1
    go_wp2
    go_ret2
    exact ⟨makeEnd_off HOK.out, HB1.out⟩
  · have HOK := Lib.hid h1
    have HSP := Lib.hid (hsp h1)
    clear hsp hb h1
    have K1 : Hid (∀ W : World, Calls Try.prog 48 #[.agg #[.string T, .string R], .int .i64 0] W fun e w' => e = .returned (.bool (fS s 0)) ∧ Below W.heap.size W w') := Lib.hid (fun W => tells_has HSP.out.parts 0 W (by omega))
    have K2 := Lib.hid (fun W (hb : Below w.heap.size w W) => starText_any (fS s) T R (fS s 0) m W HSP.out (HL.out.below hb))
    have HX := Lib.hid (partsBox_start T R HB0.out).drew
    go_wp2
    go_region_with (first
      | (go_at_call 48; (with_reducible refine (K1.out _).mono ?_); rintro e w2 ⟨rfl, hb2⟩; have HX2 := Lib.hid (HX.out.step hb2); have x0 := HX2.out.c0; have x1 := HX2.out.c1; clear hb2)
      | (go_at_call 54; (with_reducible refine (K2.out _ HX2.out.below).mono ?_); rintro e w3 ⟨⟨U, b, rfl, hm⟩, hb3⟩; rw [zeroAs_plus] at hm; have HM := Lib.hid hm; have HB3 := Lib.hid (HX2.out.below.trans (hb3.mono HX2.out.below.size)); clear hm hb3))
    all_goals
      go_wp2
      go_ret2
      rw [HOK.out]
      exact ⟨⟨U, b, rfl, HM.out⟩, HB3.out⟩

end Go.Proofs.Ytcacdgojibojgad
