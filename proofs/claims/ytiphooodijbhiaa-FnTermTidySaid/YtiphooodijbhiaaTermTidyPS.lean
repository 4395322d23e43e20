/-
  The walk of spec.l7Tidy at two parts.
-/
import Derived.Test.YtiphooodijbhiaaTermTidyS
set_option linter.unusedVariables false
set_option linter.unusedSimpArgs false
namespace Go.Proofs.Ytiphooodijbhiaa
open Go.RowKit

set_option maxRecDepth 100000 in
set_option maxHeartbeats 2000000 in
theorem tidyS_43a (X Y : ByteArray) (g m : Nat) (c : UInt8) (a : Option Addr) (n k : Nat) (c2 : UInt8) (a2 : Option Addr) (n2 k2 : Nat) (w : World) (hp : PartT w g 0 c a n k) (hq : PartT w g 2 c2 a2 n2 k2) (hsx : X.size ≤ 1000) (hsy : Y.size ≤ 1000) (hx : X.toList = [48])
    (ih : ∀ W, Below w.heap.size w W → Calls Try.prog 92 #[.agg #[.int .u8 c.toNat, .slice a n k]] W fun e w' => e = .returned (.string X) ∧ Below W.heap.size W w')
    (ih2 : ∀ W, Below w.heap.size w W → Calls Try.prog 92 #[.agg #[.int .u8 c2.toNat, .slice a2 n2 k2]] W fun e w' => e = .returned (.string Y) ∧ Below W.heap.size W w') :
    Calls Try.prog 92 #[.agg #[.int .u8 43, .slice (some ⟨g, 0, none⟩) 2 m]] w fun e w' => e = .returned (.string Y) ∧ Below w.heap.size w w' := by
  have HI := Lib.hid (ih (w.alloc (.cells #[.int .u8 43, .slice (some ⟨g, 0, none⟩) 2 m] 100)) ((Below.refl _ _).alloc (Nat.le_refl _) _))
  have H2 := Lib.hid ih2
  have HQ := Lib.hid hq
  have hp2 := hp.alloc (.cells #[.int .u8 43, .slice (some ⟨g, 0, none⟩) 2 m] 100)
  have c0 := hp2.p
  have c1 := hp2.q
  clear ih ih2 hp hq hp2
  go_enter Try.func92, Try.ntmps92
  go_wp2_with fail
  refine HI.out.mono ?_
  rintro e w1 ⟨rfl, hb⟩
  obtain ⟨d0, d1⟩ := box_later hb
  have HB := Lib.hid (((Below.refl w.heap.size w).alloc (Nat.le_refl _) _).trans (hb.mono (by simp)))
  have hq1 := HQ.out.step HB.out
  have e0 := hq1.p
  have e1 := hq1.q
  have HD := Lib.hid (And.intro d0 d1)
  clear c0 c1 hb hq1
  go_wp2_with fail
  refine (H2.out _ HB.out).mono ?_
  rintro e w2 ⟨rfl, hb2⟩
  have f0 := (hb2.cell (p := ⟨w.heap.size, 0, none⟩) (lt_of_some HD.out.1)).trans HD.out.1
  have f1 := (hb2.cell (p := ⟨w.heap.size, 1, none⟩) (lt_of_some HD.out.1)).trans HD.out.2
  have HB2 := Lib.hid (HB.out.trans (hb2.mono HB.out.size))
  clear d0 d1 e0 e1 hb2 HD
  go_wp2_with fail
  go_ret
  exact ⟨rfl, HB2.out⟩
set_option maxRecDepth 100000 in
set_option maxHeartbeats 2000000 in
theorem tidyS_43b (X Y : ByteArray) (g m : Nat) (c : UInt8) (a : Option Addr) (n k : Nat) (c2 : UInt8) (a2 : Option Addr) (n2 k2 : Nat) (w : World) (hp : PartT w g 0 c a n k) (hq : PartT w g 2 c2 a2 n2 k2) (hsx : X.size ≤ 1000) (hsy : Y.size ≤ 1000) (hx : ¬ X.toList = [48]) (hy : Y.toList = [48])
    (ih : ∀ W, Below w.heap.size w W → Calls Try.prog 92 #[.agg #[.int .u8 c.toNat, .slice a n k]] W fun e w' => e = .returned (.string X) ∧ Below W.heap.size W w')
    (ih2 : ∀ W, Below w.heap.size w W → Calls Try.prog 92 #[.agg #[.int .u8 c2.toNat, .slice a2 n2 k2]] W fun e w' => e = .returned (.string Y) ∧ Below W.heap.size W w') :
    Calls Try.prog 92 #[.agg #[.int .u8 43, .slice (some ⟨g, 0, none⟩) 2 m]] w fun e w' => e = .returned (.string X) ∧ Below w.heap.size w w' := by
  have HI := Lib.hid (ih (w.alloc (.cells #[.int .u8 43, .slice (some ⟨g, 0, none⟩) 2 m] 100)) ((Below.refl _ _).alloc (Nat.le_refl _) _))
  have H2 := Lib.hid ih2
  have HQ := Lib.hid hq
  have hp2 := hp.alloc (.cells #[.int .u8 43, .slice (some ⟨g, 0, none⟩) 2 m] 100)
  have c0 := hp2.p
  have c1 := hp2.q
  clear ih ih2 hp hq hp2
  have qx := list_off hx
  go_enter Try.func92, Try.ntmps92
  go_wp2_with fail
  refine HI.out.mono ?_
  rintro e w1 ⟨rfl, hb⟩
  obtain ⟨d0, d1⟩ := box_later hb
  have HB := Lib.hid (((Below.refl w.heap.size w).alloc (Nat.le_refl _) _).trans (hb.mono (by simp)))
  have hq1 := HQ.out.step HB.out
  have e0 := hq1.p
  have e1 := hq1.q
  have HD := Lib.hid (And.intro d0 d1)
  clear c0 c1 hb hq1
  go_wp2_with fail
  refine (H2.out _ HB.out).mono ?_
  rintro e w2 ⟨rfl, hb2⟩
  have f0 := (hb2.cell (p := ⟨w.heap.size, 0, none⟩) (lt_of_some HD.out.1)).trans HD.out.1
  have f1 := (hb2.cell (p := ⟨w.heap.size, 1, none⟩) (lt_of_some HD.out.1)).trans HD.out.2
  have HB2 := Lib.hid (HB.out.trans (hb2.mono HB.out.size))
  clear d0 d1 e0 e1 hb2 HD
  go_wp2_with fail
  go_ret
  exact ⟨rfl, HB2.out⟩
set_option maxRecDepth 100000 in
set_option maxHeartbeats 2000000 in
theorem tidyS_43c (X Y : ByteArray) (g m : Nat) (c : UInt8) (a : Option Addr) (n k : Nat) (c2 : UInt8) (a2 : Option Addr) (n2 k2 : Nat) (w : World) (hp : PartT w g 0 c a n k) (hq : PartT w g 2 c2 a2 n2 k2) (hsx : X.size ≤ 1000) (hsy : Y.size ≤ 1000) (hx : ¬ X.toList = [48]) (hy : ¬ Y.toList = [48]) (hz : X.toList = Y.toList)
    (ih : ∀ W, Below w.heap.size w W → Calls Try.prog 92 #[.agg #[.int .u8 c.toNat, .slice a n k]] W fun e w' => e = .returned (.string X) ∧ Below W.heap.size W w')
    (ih2 : ∀ W, Below w.heap.size w W → Calls Try.prog 92 #[.agg #[.int .u8 c2.toNat, .slice a2 n2 k2]] W fun e w' => e = .returned (.string Y) ∧ Below W.heap.size W w') :
    Calls Try.prog 92 #[.agg #[.int .u8 43, .slice (some ⟨g, 0, none⟩) 2 m]] w fun e w' => e = .returned (.string X) ∧ Below w.heap.size w w' := by
  have HI := Lib.hid (ih (w.alloc (.cells #[.int .u8 43, .slice (some ⟨g, 0, none⟩) 2 m] 100)) ((Below.refl _ _).alloc (Nat.le_refl _) _))
  have H2 := Lib.hid ih2
  have HQ := Lib.hid hq
  have hp2 := hp.alloc (.cells #[.int .u8 43, .slice (some ⟨g, 0, none⟩) 2 m] 100)
  have c0 := hp2.p
  have c1 := hp2.q
  clear ih ih2 hp hq hp2
  have qx := list_off hx
  have qy := list_off hy
  have qz : (X.toList == Y.toList) = true := by rw [hz]; simp
  go_enter Try.func92, Try.ntmps92
  go_wp2_with fail
  refine HI.out.mono ?_
  rintro e w1 ⟨rfl, hb⟩
  obtain ⟨d0, d1⟩ := box_later hb
  have HB := Lib.hid (((Below.refl w.heap.size w).alloc (Nat.le_refl _) _).trans (hb.mono (by simp)))
  have hq1 := HQ.out.step HB.out
  have e0 := hq1.p
  have e1 := hq1.q
  have HD := Lib.hid (And.intro d0 d1)
  clear c0 c1 hb hq1
  go_wp2_with fail
  refine (H2.out _ HB.out).mono ?_
  rintro e w2 ⟨rfl, hb2⟩
  have f0 := (hb2.cell (p := ⟨w.heap.size, 0, none⟩) (lt_of_some HD.out.1)).trans HD.out.1
  have f1 := (hb2.cell (p := ⟨w.heap.size, 1, none⟩) (lt_of_some HD.out.1)).trans HD.out.2
  have HB2 := Lib.hid (HB.out.trans (hb2.mono HB.out.size))
  clear d0 d1 e0 e1 hb2 HD
  go_wp2_with fail
  go_ret
  exact ⟨rfl, HB2.out⟩
set_option maxRecDepth 100000 in
set_option maxHeartbeats 2000000 in
theorem tidyS_43d (X Y : ByteArray) (g m : Nat) (c : UInt8) (a : Option Addr) (n k : Nat) (c2 : UInt8) (a2 : Option Addr) (n2 k2 : Nat) (w : World) (hp : PartT w g 0 c a n k) (hq : PartT w g 2 c2 a2 n2 k2) (hsx : X.size ≤ 1000) (hsy : Y.size ≤ 1000) (hx : ¬ X.toList = [48]) (hy : ¬ Y.toList = [48]) (hz : ¬ X.toList = Y.toList)
    (ih : ∀ W, Below w.heap.size w W → Calls Try.prog 92 #[.agg #[.int .u8 c.toNat, .slice a n k]] W fun e w' => e = .returned (.string X) ∧ Below W.heap.size W w')
    (ih2 : ∀ W, Below w.heap.size w W → Calls Try.prog 92 #[.agg #[.int .u8 c2.toNat, .slice a2 n2 k2]] W fun e w' => e = .returned (.string Y) ∧ Below W.heap.size W w') :
    Calls Try.prog 92 #[.agg #[.int .u8 43, .slice (some ⟨g, 0, none⟩) 2 m]] w fun e w' => e = .returned (.string (⟨#[40]⟩ ++ X ++ ⟨#[43]⟩ ++ Y ++ ⟨#[41]⟩ : ByteArray)) ∧ Below w.heap.size w w' := by
  have HI := Lib.hid (ih (w.alloc (.cells #[.int .u8 43, .slice (some ⟨g, 0, none⟩) 2 m] 100)) ((Below.refl _ _).alloc (Nat.le_refl _) _))
  have H2 := Lib.hid ih2
  have HQ := Lib.hid hq
  have hp2 := hp.alloc (.cells #[.int .u8 43, .slice (some ⟨g, 0, none⟩) 2 m] 100)
  have c0 := hp2.p
  have c1 := hp2.q
  clear ih ih2 hp hq hp2
  have qx := list_off hx
  have qy := list_off hy
  have qz := list_off hz
  go_enter Try.func92, Try.ntmps92
  go_wp2_with fail
  refine HI.out.mono ?_
  rintro e w1 ⟨rfl, hb⟩
  obtain ⟨d0, d1⟩ := box_later hb
  have HB := Lib.hid (((Below.refl w.heap.size w).alloc (Nat.le_refl _) _).trans (hb.mono (by simp)))
  have hq1 := HQ.out.step HB.out
  have e0 := hq1.p
  have e1 := hq1.q
  have HD := Lib.hid (And.intro d0 d1)
  clear c0 c1 hb hq1
  go_wp2_with fail
  refine (H2.out _ HB.out).mono ?_
  rintro e w2 ⟨rfl, hb2⟩
  have f0 := (hb2.cell (p := ⟨w.heap.size, 0, none⟩) (lt_of_some HD.out.1)).trans HD.out.1
  have f1 := (hb2.cell (p := ⟨w.heap.size, 1, none⟩) (lt_of_some HD.out.1)).trans HD.out.2
  have HB2 := Lib.hid (HB.out.trans (hb2.mono HB.out.size))
  clear d0 d1 e0 e1 hb2 HD
  have hc := conv_byte (w2.alloc (.cells #[.int .u8 43] 5)) w2.heap.size 43 (by rw [World.cell?_alloc_at _ _ _ _ rfl]; rfl)
  have z40 : (⟨#[40]⟩ : ByteArray).size = 1 := rfl
  have zc : (⟨#[43]⟩ : ByteArray).size = 1 := rfl
  have s0 : ¬ 9223372036854775807 < 1 + X.size := by omega
  have s1 : ¬ 9223372036854775807 < 1 + X.size + 1 := by omega
  have s2 : ¬ 9223372036854775807 < 1 + X.size + 1 + Y.size := by omega
  have s3 : ¬ 9223372036854775807 < 1 + X.size + 1 + Y.size + 1 := by omega
  go_wp2_with fail
  go_ret
  exact ⟨rfl, HB2.out.alloc HB2.out.size _⟩
set_option maxRecDepth 100000 in
set_option maxHeartbeats 2000000 in
theorem tidyS_46a (X Y : ByteArray) (g m : Nat) (c : UInt8) (a : Option Addr) (n k : Nat) (c2 : UInt8) (a2 : Option Addr) (n2 k2 : Nat) (w : World) (hp : PartT w g 0 c a n k) (hq : PartT w g 2 c2 a2 n2 k2) (hsx : X.size ≤ 1000) (hsy : Y.size ≤ 1000) (hx : X.toList = [48])
    (ih : ∀ W, Below w.heap.size w W → Calls Try.prog 92 #[.agg #[.int .u8 c.toNat, .slice a n k]] W fun e w' => e = .returned (.string X) ∧ Below W.heap.size W w')
    (ih2 : ∀ W, Below w.heap.size w W → Calls Try.prog 92 #[.agg #[.int .u8 c2.toNat, .slice a2 n2 k2]] W fun e w' => e = .returned (.string Y) ∧ Below W.heap.size W w') :
    Calls Try.prog 92 #[.agg #[.int .u8 46, .slice (some ⟨g, 0, none⟩) 2 m]] w fun e w' => e = .returned (.string ⟨#[48]⟩) ∧ Below w.heap.size w w' := by
  have HI := Lib.hid (ih (w.alloc (.cells #[.int .u8 46, .slice (some ⟨g, 0, none⟩) 2 m] 100)) ((Below.refl _ _).alloc (Nat.le_refl _) _))
  have H2 := Lib.hid ih2
  have HQ := Lib.hid hq
  have hp2 := hp.alloc (.cells #[.int .u8 46, .slice (some ⟨g, 0, none⟩) 2 m] 100)
  have c0 := hp2.p
  have c1 := hp2.q
  clear ih ih2 hp hq hp2
  go_enter Try.func92, Try.ntmps92
  go_wp2_with fail
  refine HI.out.mono ?_
  rintro e w1 ⟨rfl, hb⟩
  obtain ⟨d0, d1⟩ := box_later hb
  have HB := Lib.hid (((Below.refl w.heap.size w).alloc (Nat.le_refl _) _).trans (hb.mono (by simp)))
  have hq1 := HQ.out.step HB.out
  have e0 := hq1.p
  have e1 := hq1.q
  have HD := Lib.hid (And.intro d0 d1)
  clear c0 c1 hb hq1
  go_wp2_with fail
  refine (H2.out _ HB.out).mono ?_
  rintro e w2 ⟨rfl, hb2⟩
  have f0 := (hb2.cell (p := ⟨w.heap.size, 0, none⟩) (lt_of_some HD.out.1)).trans HD.out.1
  have f1 := (hb2.cell (p := ⟨w.heap.size, 1, none⟩) (lt_of_some HD.out.1)).trans HD.out.2
  have HB2 := Lib.hid (HB.out.trans (hb2.mono HB.out.size))
  clear d0 d1 e0 e1 hb2 HD
  go_wp2_with fail
  go_ret
  exact ⟨rfl, HB2.out⟩
set_option maxRecDepth 100000 in
set_option maxHeartbeats 2000000 in
theorem tidyS_46b (X Y : ByteArray) (g m : Nat) (c : UInt8) (a : Option Addr) (n k : Nat) (c2 : UInt8) (a2 : Option Addr) (n2 k2 : Nat) (w : World) (hp : PartT w g 0 c a n k) (hq : PartT w g 2 c2 a2 n2 k2) (hsx : X.size ≤ 1000) (hsy : Y.size ≤ 1000) (hx : ¬ X.toList = [48]) (hy : Y.toList = [48])
    (ih : ∀ W, Below w.heap.size w W → Calls Try.prog 92 #[.agg #[.int .u8 c.toNat, .slice a n k]] W fun e w' => e = .returned (.string X) ∧ Below W.heap.size W w')
    (ih2 : ∀ W, Below w.heap.size w W → Calls Try.prog 92 #[.agg #[.int .u8 c2.toNat, .slice a2 n2 k2]] W fun e w' => e = .returned (.string Y) ∧ Below W.heap.size W w') :
    Calls Try.prog 92 #[.agg #[.int .u8 46, .slice (some ⟨g, 0, none⟩) 2 m]] w fun e w' => e = .returned (.string ⟨#[48]⟩) ∧ Below w.heap.size w w' := by
  have HI := Lib.hid (ih (w.alloc (.cells #[.int .u8 46, .slice (some ⟨g, 0, none⟩) 2 m] 100)) ((Below.refl _ _).alloc (Nat.le_refl _) _))
  have H2 := Lib.hid ih2
  have HQ := Lib.hid hq
  have hp2 := hp.alloc (.cells #[.int .u8 46, .slice (some ⟨g, 0, none⟩) 2 m] 100)
  have c0 := hp2.p
  have c1 := hp2.q
  clear ih ih2 hp hq hp2
  have qx := list_off hx
  go_enter Try.func92, Try.ntmps92
  go_wp2_with fail
  refine HI.out.mono ?_
  rintro e w1 ⟨rfl, hb⟩
  obtain ⟨d0, d1⟩ := box_later hb
  have HB := Lib.hid (((Below.refl w.heap.size w).alloc (Nat.le_refl _) _).trans (hb.mono (by simp)))
  have hq1 := HQ.out.step HB.out
  have e0 := hq1.p
  have e1 := hq1.q
  have HD := Lib.hid (And.intro d0 d1)
  clear c0 c1 hb hq1
  go_wp2_with fail
  refine (H2.out _ HB.out).mono ?_
  rintro e w2 ⟨rfl, hb2⟩
  have f0 := (hb2.cell (p := ⟨w.heap.size, 0, none⟩) (lt_of_some HD.out.1)).trans HD.out.1
  have f1 := (hb2.cell (p := ⟨w.heap.size, 1, none⟩) (lt_of_some HD.out.1)).trans HD.out.2
  have HB2 := Lib.hid (HB.out.trans (hb2.mono HB.out.size))
  clear d0 d1 e0 e1 hb2 HD
  go_wp2_with fail
  go_ret
  exact ⟨rfl, HB2.out⟩
set_option maxRecDepth 100000 in
set_option maxHeartbeats 2000000 in
theorem tidyS_46c (X Y : ByteArray) (g m : Nat) (c : UInt8) (a : Option Addr) (n k : Nat) (c2 : UInt8) (a2 : Option Addr) (n2 k2 : Nat) (w : World) (hp : PartT w g 0 c a n k) (hq : PartT w g 2 c2 a2 n2 k2) (hsx : X.size ≤ 1000) (hsy : Y.size ≤ 1000) (hx : ¬ X.toList = [48]) (hy : ¬ Y.toList = [48]) (hu : X.toList = [49])
    (ih : ∀ W, Below w.heap.size w W → Calls Try.prog 92 #[.agg #[.int .u8 c.toNat, .slice a n k]] W fun e w' => e = .returned (.string X) ∧ Below W.heap.size W w')
    (ih2 : ∀ W, Below w.heap.size w W → Calls Try.prog 92 #[.agg #[.int .u8 c2.toNat, .slice a2 n2 k2]] W fun e w' => e = .returned (.string Y) ∧ Below W.heap.size W w') :
    Calls Try.prog 92 #[.agg #[.int .u8 46, .slice (some ⟨g, 0, none⟩) 2 m]] w fun e w' => e = .returned (.string Y) ∧ Below w.heap.size w w' := by
  have HI := Lib.hid (ih (w.alloc (.cells #[.int .u8 46, .slice (some ⟨g, 0, none⟩) 2 m] 100)) ((Below.refl _ _).alloc (Nat.le_refl _) _))
  have H2 := Lib.hid ih2
  have HQ := Lib.hid hq
  have hp2 := hp.alloc (.cells #[.int .u8 46, .slice (some ⟨g, 0, none⟩) 2 m] 100)
  have c0 := hp2.p
  have c1 := hp2.q
  clear ih ih2 hp hq hp2
  have qx := list_off hx
  have qy := list_off hy
  go_enter Try.func92, Try.ntmps92
  go_wp2_with fail
  refine HI.out.mono ?_
  rintro e w1 ⟨rfl, hb⟩
  obtain ⟨d0, d1⟩ := box_later hb
  have HB := Lib.hid (((Below.refl w.heap.size w).alloc (Nat.le_refl _) _).trans (hb.mono (by simp)))
  have hq1 := HQ.out.step HB.out
  have e0 := hq1.p
  have e1 := hq1.q
  have HD := Lib.hid (And.intro d0 d1)
  clear c0 c1 hb hq1
  go_wp2_with fail
  refine (H2.out _ HB.out).mono ?_
  rintro e w2 ⟨rfl, hb2⟩
  have f0 := (hb2.cell (p := ⟨w.heap.size, 0, none⟩) (lt_of_some HD.out.1)).trans HD.out.1
  have f1 := (hb2.cell (p := ⟨w.heap.size, 1, none⟩) (lt_of_some HD.out.1)).trans HD.out.2
  have HB2 := Lib.hid (HB.out.trans (hb2.mono HB.out.size))
  clear d0 d1 e0 e1 hb2 HD
  go_wp2_with fail
  go_ret
  exact ⟨rfl, HB2.out⟩
set_option maxRecDepth 100000 in
set_option maxHeartbeats 2000000 in
theorem tidyS_46d (X Y : ByteArray) (g m : Nat) (c : UInt8) (a : Option Addr) (n k : Nat) (c2 : UInt8) (a2 : Option Addr) (n2 k2 : Nat) (w : World) (hp : PartT w g 0 c a n k) (hq : PartT w g 2 c2 a2 n2 k2) (hsx : X.size ≤ 1000) (hsy : Y.size ≤ 1000) (hx : ¬ X.toList = [48]) (hy : ¬ Y.toList = [48]) (hu : ¬ X.toList = [49]) (hv : Y.toList = [49])
    (ih : ∀ W, Below w.heap.size w W → Calls Try.prog 92 #[.agg #[.int .u8 c.toNat, .slice a n k]] W fun e w' => e = .returned (.string X) ∧ Below W.heap.size W w')
    (ih2 : ∀ W, Below w.heap.size w W → Calls Try.prog 92 #[.agg #[.int .u8 c2.toNat, .slice a2 n2 k2]] W fun e w' => e = .returned (.string Y) ∧ Below W.heap.size W w') :
    Calls Try.prog 92 #[.agg #[.int .u8 46, .slice (some ⟨g, 0, none⟩) 2 m]] w fun e w' => e = .returned (.string X) ∧ Below w.heap.size w w' := by
  have HI := Lib.hid (ih (w.alloc (.cells #[.int .u8 46, .slice (some ⟨g, 0, none⟩) 2 m] 100)) ((Below.refl _ _).alloc (Nat.le_refl _) _))
  have H2 := Lib.hid ih2
  have HQ := Lib.hid hq
  have hp2 := hp.alloc (.cells #[.int .u8 46, .slice (some ⟨g, 0, none⟩) 2 m] 100)
  have c0 := hp2.p
  have c1 := hp2.q
  clear ih ih2 hp hq hp2
  have qx := list_off hx
  have qy := list_off hy
  have qu := list_off hu
  go_enter Try.func92, Try.ntmps92
  go_wp2_with fail
  refine HI.out.mono ?_
  rintro e w1 ⟨rfl, hb⟩
  obtain ⟨d0, d1⟩ := box_later hb
  have HB := Lib.hid (((Below.refl w.heap.size w).alloc (Nat.le_refl _) _).trans (hb.mono (by simp)))
  have hq1 := HQ.out.step HB.out
  have e0 := hq1.p
  have e1 := hq1.q
  have HD := Lib.hid (And.intro d0 d1)
  clear c0 c1 hb hq1
  go_wp2_with fail
  refine (H2.out _ HB.out).mono ?_
  rintro e w2 ⟨rfl, hb2⟩
  have f0 := (hb2.cell (p := ⟨w.heap.size, 0, none⟩) (lt_of_some HD.out.1)).trans HD.out.1
  have f1 := (hb2.cell (p := ⟨w.heap.size, 1, none⟩) (lt_of_some HD.out.1)).trans HD.out.2
  have HB2 := Lib.hid (HB.out.trans (hb2.mono HB.out.size))
  clear d0 d1 e0 e1 hb2 HD
  go_wp2_with fail
  go_ret
  exact ⟨rfl, HB2.out⟩
set_option maxRecDepth 100000 in
set_option maxHeartbeats 2000000 in
theorem tidyS_46e (X Y : ByteArray) (g m : Nat) (c : UInt8) (a : Option Addr) (n k : Nat) (c2 : UInt8) (a2 : Option Addr) (n2 k2 : Nat) (w : World) (hp : PartT w g 0 c a n k) (hq : PartT w g 2 c2 a2 n2 k2) (hsx : X.size ≤ 1000) (hsy : Y.size ≤ 1000) (hx : ¬ X.toList = [48]) (hy : ¬ Y.toList = [48]) (hu : ¬ X.toList = [49]) (hv : ¬ Y.toList = [49])
    (ih : ∀ W, Below w.heap.size w W → Calls Try.prog 92 #[.agg #[.int .u8 c.toNat, .slice a n k]] W fun e w' => e = .returned (.string X) ∧ Below W.heap.size W w')
    (ih2 : ∀ W, Below w.heap.size w W → Calls Try.prog 92 #[.agg #[.int .u8 c2.toNat, .slice a2 n2 k2]] W fun e w' => e = .returned (.string Y) ∧ Below W.heap.size W w') :
    Calls Try.prog 92 #[.agg #[.int .u8 46, .slice (some ⟨g, 0, none⟩) 2 m]] w fun e w' => e = .returned (.string (⟨#[40]⟩ ++ X ++ ⟨#[46]⟩ ++ Y ++ ⟨#[41]⟩ : ByteArray)) ∧ Below w.heap.size w w' := by
  have HI := Lib.hid (ih (w.alloc (.cells #[.int .u8 46, .slice (some ⟨g, 0, none⟩) 2 m] 100)) ((Below.refl _ _).alloc (Nat.le_refl _) _))
  have H2 := Lib.hid ih2
  have HQ := Lib.hid hq
  have hp2 := hp.alloc (.cells #[.int .u8 46, .slice (some ⟨g, 0, none⟩) 2 m] 100)
  have c0 := hp2.p
  have c1 := hp2.q
  clear ih ih2 hp hq hp2
  have qx := list_off hx
  have qy := list_off hy
  have qu := list_off hu
  have qv := list_off hv
  go_enter Try.func92, Try.ntmps92
  go_wp2_with fail
  refine HI.out.mono ?_
  rintro e w1 ⟨rfl, hb⟩
  obtain ⟨d0, d1⟩ := box_later hb
  have HB := Lib.hid (((Below.refl w.heap.size w).alloc (Nat.le_refl _) _).trans (hb.mono (by simp)))
  have hq1 := HQ.out.step HB.out
  have e0 := hq1.p
  have e1 := hq1.q
  have HD := Lib.hid (And.intro d0 d1)
  clear c0 c1 hb hq1
  go_wp2_with fail
  refine (H2.out _ HB.out).mono ?_
  rintro e w2 ⟨rfl, hb2⟩
  have f0 := (hb2.cell (p := ⟨w.heap.size, 0, none⟩) (lt_of_some HD.out.1)).trans HD.out.1
  have f1 := (hb2.cell (p := ⟨w.heap.size, 1, none⟩) (lt_of_some HD.out.1)).trans HD.out.2
  have HB2 := Lib.hid (HB.out.trans (hb2.mono HB.out.size))
  clear d0 d1 e0 e1 hb2 HD
  have hc := conv_byte (w2.alloc (.cells #[.int .u8 46] 5)) w2.heap.size 46 (by rw [World.cell?_alloc_at _ _ _ _ rfl]; rfl)
  have z40 : (⟨#[40]⟩ : ByteArray).size = 1 := rfl
  have zc : (⟨#[46]⟩ : ByteArray).size = 1 := rfl
  have s0 : ¬ 9223372036854775807 < 1 + X.size := by omega
  have s1 : ¬ 9223372036854775807 < 1 + X.size + 1 := by omega
  have s2 : ¬ 9223372036854775807 < 1 + X.size + 1 + Y.size := by omega
  have s3 : ¬ 9223372036854775807 < 1 + X.size + 1 + Y.size + 1 := by omega
  go_wp2_with fail
  go_ret
  exact ⟨rfl, HB2.out.alloc HB2.out.size _⟩
set_option maxRecDepth 100000 in
set_option maxHeartbeats 2000000 in
theorem tidyS_38a (X Y : ByteArray) (g m : Nat) (c : UInt8) (a : Option Addr) (n k : Nat) (c2 : UInt8) (a2 : Option Addr) (n2 k2 : Nat) (w : World) (hp : PartT w g 0 c a n k) (hq : PartT w g 2 c2 a2 n2 k2) (hsx : X.size ≤ 1000) (hsy : Y.size ≤ 1000) (hx : X.toList = [48])
    (ih : ∀ W, Below w.heap.size w W → Calls Try.prog 92 #[.agg #[.int .u8 c.toNat, .slice a n k]] W fun e w' => e = .returned (.string X) ∧ Below W.heap.size W w')
    (ih2 : ∀ W, Below w.heap.size w W → Calls Try.prog 92 #[.agg #[.int .u8 c2.toNat, .slice a2 n2 k2]] W fun e w' => e = .returned (.string Y) ∧ Below W.heap.size W w') :
    Calls Try.prog 92 #[.agg #[.int .u8 38, .slice (some ⟨g, 0, none⟩) 2 m]] w fun e w' => e = .returned (.string ⟨#[48]⟩) ∧ Below w.heap.size w w' := by
  have HI := Lib.hid (ih (w.alloc (.cells #[.int .u8 38, .slice (some ⟨g, 0, none⟩) 2 m] 100)) ((Below.refl _ _).alloc (Nat.le_refl _) _))
  have H2 := Lib.hid ih2
  have HQ := Lib.hid hq
  have hp2 := hp.alloc (.cells #[.int .u8 38, .slice (some ⟨g, 0, none⟩) 2 m] 100)
  have c0 := hp2.p
  have c1 := hp2.q
  clear ih ih2 hp hq hp2
  go_enter Try.func92, Try.ntmps92
  go_wp2_with fail
  refine HI.out.mono ?_
  rintro e w1 ⟨rfl, hb⟩
  obtain ⟨d0, d1⟩ := box_later hb
  have HB := Lib.hid (((Below.refl w.heap.size w).alloc (Nat.le_refl _) _).trans (hb.mono (by simp)))
  have hq1 := HQ.out.step HB.out
  have e0 := hq1.p
  have e1 := hq1.q
  have HD := Lib.hid (And.intro d0 d1)
  clear c0 c1 hb hq1
  go_wp2_with fail
  refine (H2.out _ HB.out).mono ?_
  rintro e w2 ⟨rfl, hb2⟩
  have f0 := (hb2.cell (p := ⟨w.heap.size, 0, none⟩) (lt_of_some HD.out.1)).trans HD.out.1
  have f1 := (hb2.cell (p := ⟨w.heap.size, 1, none⟩) (lt_of_some HD.out.1)).trans HD.out.2
  have HB2 := Lib.hid (HB.out.trans (hb2.mono HB.out.size))
  clear d0 d1 e0 e1 hb2 HD
  go_wp2_with fail
  go_ret
  exact ⟨rfl, HB2.out⟩
set_option maxRecDepth 100000 in
set_option maxHeartbeats 2000000 in
theorem tidyS_38b (X Y : ByteArray) (g m : Nat) (c : UInt8) (a : Option Addr) (n k : Nat) (c2 : UInt8) (a2 : Option Addr) (n2 k2 : Nat) (w : World) (hp : PartT w g 0 c a n k) (hq : PartT w g 2 c2 a2 n2 k2) (hsx : X.size ≤ 1000) (hsy : Y.size ≤ 1000) (hx : ¬ X.toList = [48]) (hy : Y.toList = [48])
    (ih : ∀ W, Below w.heap.size w W → Calls Try.prog 92 #[.agg #[.int .u8 c.toNat, .slice a n k]] W fun e w' => e = .returned (.string X) ∧ Below W.heap.size W w')
    (ih2 : ∀ W, Below w.heap.size w W → Calls Try.prog 92 #[.agg #[.int .u8 c2.toNat, .slice a2 n2 k2]] W fun e w' => e = .returned (.string Y) ∧ Below W.heap.size W w') :
    Calls Try.prog 92 #[.agg #[.int .u8 38, .slice (some ⟨g, 0, none⟩) 2 m]] w fun e w' => e = .returned (.string ⟨#[48]⟩) ∧ Below w.heap.size w w' := by
  have HI := Lib.hid (ih (w.alloc (.cells #[.int .u8 38, .slice (some ⟨g, 0, none⟩) 2 m] 100)) ((Below.refl _ _).alloc (Nat.le_refl _) _))
  have H2 := Lib.hid ih2
  have HQ := Lib.hid hq
  have hp2 := hp.alloc (.cells #[.int .u8 38, .slice (some ⟨g, 0, none⟩) 2 m] 100)
  have c0 := hp2.p
  have c1 := hp2.q
  clear ih ih2 hp hq hp2
  have qx := list_off hx
  go_enter Try.func92, Try.ntmps92
  go_wp2_with fail
  refine HI.out.mono ?_
  rintro e w1 ⟨rfl, hb⟩
  obtain ⟨d0, d1⟩ := box_later hb
  have HB := Lib.hid (((Below.refl w.heap.size w).alloc (Nat.le_refl _) _).trans (hb.mono (by simp)))
  have hq1 := HQ.out.step HB.out
  have e0 := hq1.p
  have e1 := hq1.q
  have HD := Lib.hid (And.intro d0 d1)
  clear c0 c1 hb hq1
  go_wp2_with fail
  refine (H2.out _ HB.out).mono ?_
  rintro e w2 ⟨rfl, hb2⟩
  have f0 := (hb2.cell (p := ⟨w.heap.size, 0, none⟩) (lt_of_some HD.out.1)).trans HD.out.1
  have f1 := (hb2.cell (p := ⟨w.heap.size, 1, none⟩) (lt_of_some HD.out.1)).trans HD.out.2
  have HB2 := Lib.hid (HB.out.trans (hb2.mono HB.out.size))
  clear d0 d1 e0 e1 hb2 HD
  go_wp2_with fail
  go_ret
  exact ⟨rfl, HB2.out⟩
set_option maxRecDepth 100000 in
set_option maxHeartbeats 2000000 in
theorem tidyS_38c (X Y : ByteArray) (g m : Nat) (c : UInt8) (a : Option Addr) (n k : Nat) (c2 : UInt8) (a2 : Option Addr) (n2 k2 : Nat) (w : World) (hp : PartT w g 0 c a n k) (hq : PartT w g 2 c2 a2 n2 k2) (hsx : X.size ≤ 1000) (hsy : Y.size ≤ 1000) (hx : ¬ X.toList = [48]) (hy : ¬ Y.toList = [48]) (hz : X.toList = Y.toList)
    (ih : ∀ W, Below w.heap.size w W → Calls Try.prog 92 #[.agg #[.int .u8 c.toNat, .slice a n k]] W fun e w' => e = .returned (.string X) ∧ Below W.heap.size W w')
    (ih2 : ∀ W, Below w.heap.size w W → Calls Try.prog 92 #[.agg #[.int .u8 c2.toNat, .slice a2 n2 k2]] W fun e w' => e = .returned (.string Y) ∧ Below W.heap.size W w') :
    Calls Try.prog 92 #[.agg #[.int .u8 38, .slice (some ⟨g, 0, none⟩) 2 m]] w fun e w' => e = .returned (.string X) ∧ Below w.heap.size w w' := by
  have HI := Lib.hid (ih (w.alloc (.cells #[.int .u8 38, .slice (some ⟨g, 0, none⟩) 2 m] 100)) ((Below.refl _ _).alloc (Nat.le_refl _) _))
  have H2 := Lib.hid ih2
  have HQ := Lib.hid hq
  have hp2 := hp.alloc (.cells #[.int .u8 38, .slice (some ⟨g, 0, none⟩) 2 m] 100)
  have c0 := hp2.p
  have c1 := hp2.q
  clear ih ih2 hp hq hp2
  have qx := list_off hx
  have qy := list_off hy
  have qz : (X.toList == Y.toList) = true := by rw [hz]; simp
  go_enter Try.func92, Try.ntmps92
  go_wp2_with fail
  refine HI.out.mono ?_
  rintro e w1 ⟨rfl, hb⟩
  obtain ⟨d0, d1⟩ := box_later hb
  have HB := Lib.hid (((Below.refl w.heap.size w).alloc (Nat.le_refl _) _).trans (hb.mono (by simp)))
  have hq1 := HQ.out.step HB.out
  have e0 := hq1.p
  have e1 := hq1.q
  have HD := Lib.hid (And.intro d0 d1)
  clear c0 c1 hb hq1
  go_wp2_with fail
  refine (H2.out _ HB.out).mono ?_
  rintro e w2 ⟨rfl, hb2⟩
  have f0 := (hb2.cell (p := ⟨w.heap.size, 0, none⟩) (lt_of_some HD.out.1)).trans HD.out.1
  have f1 := (hb2.cell (p := ⟨w.heap.size, 1, none⟩) (lt_of_some HD.out.1)).trans HD.out.2
  have HB2 := Lib.hid (HB.out.trans (hb2.mono HB.out.size))
  clear d0 d1 e0 e1 hb2 HD
  go_wp2_with fail
  go_ret
  exact ⟨rfl, HB2.out⟩
set_option maxRecDepth 100000 in
set_option maxHeartbeats 2000000 in
theorem tidyS_38d (X Y : ByteArray) (g m : Nat) (c : UInt8) (a : Option Addr) (n k : Nat) (c2 : UInt8) (a2 : Option Addr) (n2 k2 : Nat) (w : World) (hp : PartT w g 0 c a n k) (hq : PartT w g 2 c2 a2 n2 k2) (hsx : X.size ≤ 1000) (hsy : Y.size ≤ 1000) (hx : ¬ X.toList = [48]) (hy : ¬ Y.toList = [48]) (hz : ¬ X.toList = Y.toList)
    (ih : ∀ W, Below w.heap.size w W → Calls Try.prog 92 #[.agg #[.int .u8 c.toNat, .slice a n k]] W fun e w' => e = .returned (.string X) ∧ Below W.heap.size W w')
    (ih2 : ∀ W, Below w.heap.size w W → Calls Try.prog 92 #[.agg #[.int .u8 c2.toNat, .slice a2 n2 k2]] W fun e w' => e = .returned (.string Y) ∧ Below W.heap.size W w') :
    Calls Try.prog 92 #[.agg #[.int .u8 38, .slice (some ⟨g, 0, none⟩) 2 m]] w fun e w' => e = .returned (.string (⟨#[40]⟩ ++ X ++ ⟨#[38]⟩ ++ Y ++ ⟨#[41]⟩ : ByteArray)) ∧ Below w.heap.size w w' := by
  have HI := Lib.hid (ih (w.alloc (.cells #[.int .u8 38, .slice (some ⟨g, 0, none⟩) 2 m] 100)) ((Below.refl _ _).alloc (Nat.le_refl _) _))
  have H2 := Lib.hid ih2
  have HQ := Lib.hid hq
  have hp2 := hp.alloc (.cells #[.int .u8 38, .slice (some ⟨g, 0, none⟩) 2 m] 100)
  have c0 := hp2.p
  have c1 := hp2.q
  clear ih ih2 hp hq hp2
  have qx := list_off hx
  have qy := list_off hy
  have qz := list_off hz
  go_enter Try.func92, Try.ntmps92
  go_wp2_with fail
  refine HI.out.mono ?_
  rintro e w1 ⟨rfl, hb⟩
  obtain ⟨d0, d1⟩ := box_later hb
  have HB := Lib.hid (((Below.refl w.heap.size w).alloc (Nat.le_refl _) _).trans (hb.mono (by simp)))
  have hq1 := HQ.out.step HB.out
  have e0 := hq1.p
  have e1 := hq1.q
  have HD := Lib.hid (And.intro d0 d1)
  clear c0 c1 hb hq1
  go_wp2_with fail
  refine (H2.out _ HB.out).mono ?_
  rintro e w2 ⟨rfl, hb2⟩
  have f0 := (hb2.cell (p := ⟨w.heap.size, 0, none⟩) (lt_of_some HD.out.1)).trans HD.out.1
  have f1 := (hb2.cell (p := ⟨w.heap.size, 1, none⟩) (lt_of_some HD.out.1)).trans HD.out.2
  have HB2 := Lib.hid (HB.out.trans (hb2.mono HB.out.size))
  clear d0 d1 e0 e1 hb2 HD
  have hc := conv_byte (w2.alloc (.cells #[.int .u8 38] 5)) w2.heap.size 38 (by rw [World.cell?_alloc_at _ _ _ _ rfl]; rfl)
  have z40 : (⟨#[40]⟩ : ByteArray).size = 1 := rfl
  have zc : (⟨#[38]⟩ : ByteArray).size = 1 := rfl
  have s0 : ¬ 9223372036854775807 < 1 + X.size := by omega
  have s1 : ¬ 9223372036854775807 < 1 + X.size + 1 := by omega
  have s2 : ¬ 9223372036854775807 < 1 + X.size + 1 + Y.size := by omega
  have s3 : ¬ 9223372036854775807 < 1 + X.size + 1 + Y.size + 1 := by omega
  go_wp2_with fail
  go_ret
  exact ⟨rfl, HB2.out.alloc HB2.out.size _⟩

end Go.Proofs.Ytiphooodijbhiaa
