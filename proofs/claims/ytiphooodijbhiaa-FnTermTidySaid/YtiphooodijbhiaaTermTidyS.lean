/-
  The walks of spec.l7Write at a sign, and of spec.l7Tidy at one part.
-/
import Derived.Test.YtiphooodijbhiaaTermPart
import Derived.Test.YtiphooodijbhiaaTermStr
set_option linter.unusedVariables false
set_option linter.unusedSimpArgs false
namespace Go.Proofs.Ytiphooodijbhiaa
open Go.RowKit

set_option maxRecDepth 100000 in
set_option maxHeartbeats 1000000 in
theorem write_sign (c : UInt8) (a : Option Addr) (k : Nat) (w : World) : Calls Try.prog 124 #[.agg #[.int .u8 c.toNat, .slice a 0 k]] w fun e w' => e = .returned (.string (tmS (.sign c))) ∧ Below w.heap.size w w' := by
  have hc := conv_byte ((w.alloc (.cells #[.int .u8 c.toNat, .slice a 0 k] 100)).alloc (.cells #[.int .u8 c.toNat] 5)) (w.heap.size + 1) c (by rw [World.cell?_alloc_at _ _ _ _ (by simp)]; rfl)
  go_enter Try.func124, Try.ntmps124
  go_wp2_with fail
  go_ret
  exact ⟨rfl, ((Below.refl _ _).alloc (Nat.le_refl _) _).alloc (by simp) _⟩
set_option maxRecDepth 100000 in
set_option maxHeartbeats 1000000 in
theorem tidyS_sign (c : UInt8) (a : Option Addr) (k : Nat) (w : World) : Calls Try.prog 92 #[.agg #[.int .u8 c.toNat, .slice a 0 k]] w fun e w' => e = .returned (.string (tmS (.sign c))) ∧ Below w.heap.size w w' := by
  go_enter Try.func92, Try.ntmps92
  go_wp2_with fail
  refine (write_sign c a k _).mono ?_
  rintro e w1 ⟨rfl, hb⟩
  go_wp2_with fail
  go_ret
  exact ⟨rfl, ((Below.refl w.heap.size w).alloc (Nat.le_refl _) _).trans (hb.mono (by simp))⟩

theorem text_one {u : Tm} {X : ByteArray} (hX : X.toList = tmText u) (h : X.toList = [48] ∨ X.toList = [49]) : tmText u = [48] ∨ tmText u = [49] := by rw [← hX]; exact h

set_option maxRecDepth 100000 in
set_option maxHeartbeats 2000000 in
theorem tidyS_star0 (X : ByteArray) (g m : Nat) (c : UInt8) (a : Option Addr) (n k : Nat) (w : World) (hp : PartT w g 0 c a n k) (h : X.toList = [48])
    (ih : ∀ W, Below w.heap.size w W → Calls Try.prog 92 #[.agg #[.int .u8 c.toNat, .slice a n k]] W fun e w' => e = .returned (.string X) ∧ Below W.heap.size W w') :
    Calls Try.prog 92 #[.agg #[.int .u8 42, .slice (some ⟨g, 0, none⟩) 1 m]] w fun e w' => e = .returned (.string ⟨#[49]⟩) ∧ Below w.heap.size w w' := by
  have HI := Lib.hid (ih (w.alloc (.cells #[.int .u8 42, .slice (some ⟨g, 0, none⟩) 1 m] 100)) ((Below.refl _ _).alloc (Nat.le_refl _) _))
  have hp2 := hp.alloc (.cells #[.int .u8 42, .slice (some ⟨g, 0, none⟩) 1 m] 100)
  have c0 := hp2.p
  have c1 := hp2.q
  clear ih hp hp2
  go_enter Try.func92, Try.ntmps92
  go_wp2_with fail
  refine HI.out.mono ?_
  rintro e w1 ⟨rfl, hb⟩
  obtain ⟨d0, d1⟩ := box_later hb
  have HB := Lib.hid (((Below.refl w.heap.size w).alloc (Nat.le_refl _) _).trans (hb.mono (by simp)))
  clear c0 c1 hb
  go_wp2_with fail
  go_ret
  exact ⟨rfl, HB.out⟩
set_option maxRecDepth 100000 in
set_option maxHeartbeats 2000000 in
theorem tidyS_star1 (X : ByteArray) (g m : Nat) (c : UInt8) (a : Option Addr) (n k : Nat) (w : World) (hp : PartT w g 0 c a n k) (h : X.toList = [49])
    (ih : ∀ W, Below w.heap.size w W → Calls Try.prog 92 #[.agg #[.int .u8 c.toNat, .slice a n k]] W fun e w' => e = .returned (.string X) ∧ Below W.heap.size W w') :
    Calls Try.prog 92 #[.agg #[.int .u8 42, .slice (some ⟨g, 0, none⟩) 1 m]] w fun e w' => e = .returned (.string ⟨#[49]⟩) ∧ Below w.heap.size w w' := by
  have HI := Lib.hid (ih (w.alloc (.cells #[.int .u8 42, .slice (some ⟨g, 0, none⟩) 1 m] 100)) ((Below.refl _ _).alloc (Nat.le_refl _) _))
  have hp2 := hp.alloc (.cells #[.int .u8 42, .slice (some ⟨g, 0, none⟩) 1 m] 100)
  have c0 := hp2.p
  have c1 := hp2.q
  clear ih hp hp2
  have h0 : ¬ X.toList = [48] := by rw [h]; decide
  have q0 := list_off h0
  go_enter Try.func92, Try.ntmps92
  go_wp2_with fail
  refine HI.out.mono ?_
  rintro e w1 ⟨rfl, hb⟩
  obtain ⟨d0, d1⟩ := box_later hb
  have HB := Lib.hid (((Below.refl w.heap.size w).alloc (Nat.le_refl _) _).trans (hb.mono (by simp)))
  clear c0 c1 hb
  go_wp2_with fail
  go_ret
  exact ⟨rfl, HB.out⟩
set_option maxRecDepth 100000 in
set_option maxHeartbeats 2000000 in
theorem tidyS_starS (X : ByteArray) (g m : Nat) (c : UInt8) (a : Option Addr) (n k : Nat) (w : World) (hp : PartT w g 0 c a n k) (h0 : ¬ X.toList = [48]) (h1 : ¬ X.toList = [49]) (hl : 0 < X.size) (hf : ((X[0]'hl).toNat : Int) = 42)
    (ih : ∀ W, Below w.heap.size w W → Calls Try.prog 92 #[.agg #[.int .u8 c.toNat, .slice a n k]] W fun e w' => e = .returned (.string X) ∧ Below W.heap.size W w') :
    Calls Try.prog 92 #[.agg #[.int .u8 42, .slice (some ⟨g, 0, none⟩) 1 m]] w fun e w' => e = .returned (.string X) ∧ Below w.heap.size w w' := by
  have HI := Lib.hid (ih (w.alloc (.cells #[.int .u8 42, .slice (some ⟨g, 0, none⟩) 1 m] 100)) ((Below.refl _ _).alloc (Nat.le_refl _) _))
  have hp2 := hp.alloc (.cells #[.int .u8 42, .slice (some ⟨g, 0, none⟩) 1 m] 100)
  have c0 := hp2.p
  have c1 := hp2.q
  clear ih hp hp2
  have q0 := list_off h0
  have q1 := list_off h1
  go_enter Try.func92, Try.ntmps92
  go_wp2_with fail
  refine HI.out.mono ?_
  rintro e w1 ⟨rfl, hb⟩
  obtain ⟨d0, d1⟩ := box_later hb
  have HB := Lib.hid (((Below.refl w.heap.size w).alloc (Nat.le_refl _) _).trans (hb.mono (by simp)))
  clear c0 c1 hb
  go_wp2_with fail
  go_ret
  exact ⟨rfl, HB.out⟩
set_option maxRecDepth 100000 in
set_option maxHeartbeats 2000000 in
theorem tidyS_starN (X : ByteArray) (g m : Nat) (c : UInt8) (a : Option Addr) (n k : Nat) (w : World) (hp : PartT w g 0 c a n k) (h0 : ¬ X.toList = [48]) (h1 : ¬ X.toList = [49]) (hs : X.size ≤ 1000) (hl : 0 < X.size) (hf : ¬ ((X[0]'hl).toNat : Int) = 42)
    (ih : ∀ W, Below w.heap.size w W → Calls Try.prog 92 #[.agg #[.int .u8 c.toNat, .slice a n k]] W fun e w' => e = .returned (.string X) ∧ Below W.heap.size W w') :
    Calls Try.prog 92 #[.agg #[.int .u8 42, .slice (some ⟨g, 0, none⟩) 1 m]] w fun e w' => e = .returned (.string (⟨#[42]⟩ ++ X)) ∧ Below w.heap.size w w' := by
  have HI := Lib.hid (ih (w.alloc (.cells #[.int .u8 42, .slice (some ⟨g, 0, none⟩) 1 m] 100)) ((Below.refl _ _).alloc (Nat.le_refl _) _))
  have hp2 := hp.alloc (.cells #[.int .u8 42, .slice (some ⟨g, 0, none⟩) 1 m] 100)
  have c0 := hp2.p
  have c1 := hp2.q
  clear ih hp hp2
  have q0 := list_off h0
  have q1 := list_off h1
  have qf : (((X[0]'hl).toNat : Int) == 42) = false := by simpa using hf
  go_enter Try.func92, Try.ntmps92
  go_wp2_with fail
  refine HI.out.mono ?_
  rintro e w1 ⟨rfl, hb⟩
  obtain ⟨d0, d1⟩ := box_later hb
  have HB := Lib.hid (((Below.refl w.heap.size w).alloc (Nat.le_refl _) _).trans (hb.mono (by simp)))
  clear c0 c1 hb
  have hc := conv_byte (w1.alloc (.cells #[.int .u8 42] 5)) w1.heap.size 42 (by rw [World.cell?_alloc_at _ _ _ _ rfl]; rfl)
  go_wp2_with fail
  go_ret
  exact ⟨rfl, HB.out.alloc HB.out.size _⟩
set_option maxRecDepth 100000 in
set_option maxHeartbeats 2000000 in
theorem tidyS_times0 (d : UInt8) (X : ByteArray) (g m : Nat) (c : UInt8) (a : Option Addr) (n k : Nat) (w : World) (hp : PartT w g 0 c a n k) (hd : ¬ (d.toNat : Int) = 42) (h : X.toList = [48])
    (ih : ∀ W, Below w.heap.size w W → Calls Try.prog 92 #[.agg #[.int .u8 c.toNat, .slice a n k]] W fun e w' => e = .returned (.string X) ∧ Below W.heap.size W w') :
    Calls Try.prog 92 #[.agg #[.int .u8 d.toNat, .slice (some ⟨g, 0, none⟩) 1 m]] w fun e w' => e = .returned (.string X) ∧ Below w.heap.size w w' := by
  have HI := Lib.hid (ih (w.alloc (.cells #[.int .u8 d.toNat, .slice (some ⟨g, 0, none⟩) 1 m] 100)) ((Below.refl _ _).alloc (Nat.le_refl _) _))
  have hp2 := hp.alloc (.cells #[.int .u8 d.toNat, .slice (some ⟨g, 0, none⟩) 1 m] 100)
  have c0 := hp2.p
  have c1 := hp2.q
  clear ih hp hp2
  have qd : ((d.toNat : Int) == 42) = false := by simpa using hd
  have qe : ((d.toNat : Int) != 42) = true := by simpa using hd
  go_enter Try.func92, Try.ntmps92
  go_wp2_with fail
  refine HI.out.mono ?_
  rintro e w1 ⟨rfl, hb⟩
  obtain ⟨d0, d1⟩ := box_later hb
  have HB := Lib.hid (((Below.refl w.heap.size w).alloc (Nat.le_refl _) _).trans (hb.mono (by simp)))
  clear c0 c1 hb
  go_wp2_with fail
  go_ret
  exact ⟨rfl, HB.out⟩
set_option maxRecDepth 100000 in
set_option maxHeartbeats 2000000 in
theorem tidyS_times1 (d : UInt8) (X : ByteArray) (g m : Nat) (c : UInt8) (a : Option Addr) (n k : Nat) (w : World) (hp : PartT w g 0 c a n k) (hd : ¬ (d.toNat : Int) = 42) (h : X.toList = [49])
    (ih : ∀ W, Below w.heap.size w W → Calls Try.prog 92 #[.agg #[.int .u8 c.toNat, .slice a n k]] W fun e w' => e = .returned (.string X) ∧ Below W.heap.size W w') :
    Calls Try.prog 92 #[.agg #[.int .u8 d.toNat, .slice (some ⟨g, 0, none⟩) 1 m]] w fun e w' => e = .returned (.string X) ∧ Below w.heap.size w w' := by
  have HI := Lib.hid (ih (w.alloc (.cells #[.int .u8 d.toNat, .slice (some ⟨g, 0, none⟩) 1 m] 100)) ((Below.refl _ _).alloc (Nat.le_refl _) _))
  have hp2 := hp.alloc (.cells #[.int .u8 d.toNat, .slice (some ⟨g, 0, none⟩) 1 m] 100)
  have c0 := hp2.p
  have c1 := hp2.q
  clear ih hp hp2
  have qd : ((d.toNat : Int) == 42) = false := by simpa using hd
  have qe : ((d.toNat : Int) != 42) = true := by simpa using hd
  have h0 : ¬ X.toList = [48] := by rw [h]; decide
  have q0 := list_off h0
  go_enter Try.func92, Try.ntmps92
  go_wp2_with fail
  refine HI.out.mono ?_
  rintro e w1 ⟨rfl, hb⟩
  obtain ⟨d0, d1⟩ := box_later hb
  have HB := Lib.hid (((Below.refl w.heap.size w).alloc (Nat.le_refl _) _).trans (hb.mono (by simp)))
  clear c0 c1 hb
  go_wp2_with fail
  go_ret
  exact ⟨rfl, HB.out⟩
set_option maxRecDepth 100000 in
set_option maxHeartbeats 2000000 in
theorem tidyS_timesN (d : UInt8) (X : ByteArray) (g m : Nat) (c : UInt8) (a : Option Addr) (n k : Nat) (w : World) (hp : PartT w g 0 c a n k) (hd : ¬ (d.toNat : Int) = 42) (h0 : ¬ X.toList = [48]) (h1 : ¬ X.toList = [49]) (hs : X.size ≤ 1000)
    (ih : ∀ W, Below w.heap.size w W → Calls Try.prog 92 #[.agg #[.int .u8 c.toNat, .slice a n k]] W fun e w' => e = .returned (.string X) ∧ Below W.heap.size W w') :
    Calls Try.prog 92 #[.agg #[.int .u8 d.toNat, .slice (some ⟨g, 0, none⟩) 1 m]] w fun e w' => e = .returned (.string (⟨#[d]⟩ ++ X)) ∧ Below w.heap.size w w' := by
  have HI := Lib.hid (ih (w.alloc (.cells #[.int .u8 d.toNat, .slice (some ⟨g, 0, none⟩) 1 m] 100)) ((Below.refl _ _).alloc (Nat.le_refl _) _))
  have hp2 := hp.alloc (.cells #[.int .u8 d.toNat, .slice (some ⟨g, 0, none⟩) 1 m] 100)
  have c0 := hp2.p
  have c1 := hp2.q
  clear ih hp hp2
  have qd : ((d.toNat : Int) == 42) = false := by simpa using hd
  have qe : ((d.toNat : Int) != 42) = true := by simpa using hd
  have q0 := list_off h0
  have q1 := list_off h1
  go_enter Try.func92, Try.ntmps92
  go_wp2_with fail
  refine HI.out.mono ?_
  rintro e w1 ⟨rfl, hb⟩
  obtain ⟨d0, d1⟩ := box_later hb
  have HB := Lib.hid (((Below.refl w.heap.size w).alloc (Nat.le_refl _) _).trans (hb.mono (by simp)))
  clear c0 c1 hb
  have hc := conv_byte (w1.alloc (.cells #[.int .u8 d.toNat] 5)) w1.heap.size d (by rw [World.cell?_alloc_at _ _ _ _ rfl]; rfl)
  go_wp2_with fail
  go_ret
  exact ⟨rfl, HB.out.alloc HB.out.size _⟩

end Go.Proofs.Ytiphooodijbhiaa
