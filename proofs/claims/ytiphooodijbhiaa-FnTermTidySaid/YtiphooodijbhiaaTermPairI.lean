/-
  The walk of tidyPair, of the program.
-/
import Derived.Test.YtiphooodijbhiaaTermTidyI
import Derived.Test.YtiphooodijbhiaaTermPair
set_option linter.unusedVariables false
set_option linter.unusedSimpArgs false
namespace Go.Proofs.Ytiphooodijbhiaa
open Go.RowKit

set_option maxRecDepth 100000 in
set_option maxHeartbeats 1000000 in
theorem tidyPairI_43a (a b : Tm) (w : World) (hna : (tmText a).length ≤ 1000) (hnb : (tmText b).length ≤ 1000) (hx : tmText a = [48]) :
    Calls Try.prog 123 #[tmV a, .int .u8 43, tmV b] w fun e w' => e = .returned (tmV (tidyPair a 43 b)) ∧ Below w.heap.size w w' := by
  have HA := Lib.hid (fun w => termText_any a w hna)
  have HB := Lib.hid (fun w => termText_any b w hnb)
  rw [tidyPair_43a a b hx]
  rw [← tmS_toList a] at hx
  show Calls Try.prog 123 #[.iface (tmTy a) (tmRecv a), .int .u8 43, .iface (tmTy b) (tmRecv b)] w fun e w' => e = .returned (.iface (tmTy b) (tmRecv b)) ∧ Below w.heap.size w w'
  have hma := method_text a
  have hea := text_enters a
  have hmb := method_text b
  have heb := text_enters b
  generalize tmS a = X at HA hx
  generalize tmS b = Y at HB 
  go_enter Try.func123, Try.ntmps123
  go_wp2_with (first | (go_at_fn (textF a); (with_reducible refine (HA.out _).mono ?_); rintro e w1 ⟨rfl, hb1⟩) | (go_at_fn (textF b); (with_reducible refine (HB.out _).mono ?_); rintro e w2 ⟨rfl, hb2⟩))
  go_ret
  exact ⟨rfl, hb1.trans (hb2.mono hb1.size)⟩
set_option maxRecDepth 100000 in
set_option maxHeartbeats 1000000 in
theorem tidyPairI_43b (a b : Tm) (w : World) (hna : (tmText a).length ≤ 1000) (hnb : (tmText b).length ≤ 1000) (hx : ¬ tmText a = [48]) (hy : tmText b = [48]) :
    Calls Try.prog 123 #[tmV a, .int .u8 43, tmV b] w fun e w' => e = .returned (tmV (tidyPair a 43 b)) ∧ Below w.heap.size w w' := by
  have HA := Lib.hid (fun w => termText_any a w hna)
  have HB := Lib.hid (fun w => termText_any b w hnb)
  rw [tidyPair_43b a b hx hy]
  rw [← tmS_toList a] at hx
  rw [← tmS_toList b] at hy
  show Calls Try.prog 123 #[.iface (tmTy a) (tmRecv a), .int .u8 43, .iface (tmTy b) (tmRecv b)] w fun e w' => e = .returned (.iface (tmTy a) (tmRecv a)) ∧ Below w.heap.size w w'
  have hma := method_text a
  have hea := text_enters a
  have hmb := method_text b
  have heb := text_enters b
  generalize tmS a = X at HA hx
  generalize tmS b = Y at HB hy
  have qx := list_off hx
  go_enter Try.func123, Try.ntmps123
  go_wp2_with (first | (go_at_fn (textF a); (with_reducible refine (HA.out _).mono ?_); rintro e w1 ⟨rfl, hb1⟩) | (go_at_fn (textF b); (with_reducible refine (HB.out _).mono ?_); rintro e w2 ⟨rfl, hb2⟩))
  go_ret
  exact ⟨rfl, hb1.trans (hb2.mono hb1.size)⟩
set_option maxRecDepth 100000 in
set_option maxHeartbeats 1000000 in
theorem tidyPairI_43c (a b : Tm) (w : World) (hna : (tmText a).length ≤ 1000) (hnb : (tmText b).length ≤ 1000) (hx : ¬ tmText a = [48]) (hy : ¬ tmText b = [48]) (hz : tmText a = tmText b) :
    Calls Try.prog 123 #[tmV a, .int .u8 43, tmV b] w fun e w' => e = .returned (tmV (tidyPair a 43 b)) ∧ Below w.heap.size w w' := by
  have HA := Lib.hid (fun w => termText_any a w hna)
  have HB := Lib.hid (fun w => termText_any b w hnb)
  rw [tidyPair_43c a b hx hy hz]
  rw [← tmS_toList a] at hx
  rw [← tmS_toList b] at hy
  show Calls Try.prog 123 #[.iface (tmTy a) (tmRecv a), .int .u8 43, .iface (tmTy b) (tmRecv b)] w fun e w' => e = .returned (.iface (tmTy a) (tmRecv a)) ∧ Below w.heap.size w w'
  have hma := method_text a
  have hea := text_enters a
  have hmb := method_text b
  have heb := text_enters b
  rw [← tmS_toList a, ← tmS_toList b] at hz
  generalize tmS a = X at HA hx hz
  generalize tmS b = Y at HB hy hz
  have qx := list_off hx
  have qy := list_off hy
  have qz : (X.toList == Y.toList) = true := by rw [hz]; simp
  go_enter Try.func123, Try.ntmps123
  go_wp2_with (first | (go_at_fn (textF a); (with_reducible refine (HA.out _).mono ?_); rintro e w1 ⟨rfl, hb1⟩) | (go_at_fn (textF b); (with_reducible refine (HB.out _).mono ?_); rintro e w2 ⟨rfl, hb2⟩))
  go_ret
  exact ⟨rfl, hb1.trans (hb2.mono hb1.size)⟩
set_option maxRecDepth 100000 in
set_option maxHeartbeats 1000000 in
theorem tidyPairI_43d (a b : Tm) (w : World) (hna : (tmText a).length ≤ 1000) (hnb : (tmText b).length ≤ 1000) (hx : ¬ tmText a = [48]) (hy : ¬ tmText b = [48]) (hz : ¬ tmText a = tmText b) :
    Calls Try.prog 123 #[tmV a, .int .u8 43, tmV b] w fun e w' => e = .returned (tmV (tidyPair a 43 b)) ∧ Below w.heap.size w w' := by
  have HA := Lib.hid (fun w => termText_any a w hna)
  have HB := Lib.hid (fun w => termText_any b w hnb)
  rw [tidyPair_43d a b hx hy hz]
  rw [← tmS_toList a] at hx
  rw [← tmS_toList b] at hy
  show Calls Try.prog 123 #[.iface (tmTy a) (tmRecv a), .int .u8 43, .iface (tmTy b) (tmRecv b)] w fun e w' => e = .returned (.iface 151 (.agg #[.iface (tmTy a) (tmRecv a), .int .u8 43, .iface (tmTy b) (tmRecv b)])) ∧ Below w.heap.size w w'
  have hma := method_text a
  have hea := text_enters a
  have hmb := method_text b
  have heb := text_enters b
  rw [← tmS_toList a, ← tmS_toList b] at hz
  generalize tmS a = X at HA hx hz
  generalize tmS b = Y at HB hy hz
  have qx := list_off hx
  have qy := list_off hy
  have qz := list_off hz
  go_enter Try.func123, Try.ntmps123
  go_wp2_with (first | (go_at_fn (textF a); (with_reducible refine (HA.out _).mono ?_); rintro e w1 ⟨rfl, hb1⟩) | (go_at_fn (textF b); (with_reducible refine (HB.out _).mono ?_); rintro e w2 ⟨rfl, hb2⟩))
  go_ret
  exact ⟨rfl, hb1.trans (hb2.mono hb1.size)⟩
set_option maxRecDepth 100000 in
set_option maxHeartbeats 1000000 in
theorem tidyPairI_46a (a b : Tm) (w : World) (hna : (tmText a).length ≤ 1000) (hnb : (tmText b).length ≤ 1000) (hx : tmText a = [48]) :
    Calls Try.prog 123 #[tmV a, .int .u8 46, tmV b] w fun e w' => e = .returned (tmV (tidyPair a 46 b)) ∧ Below w.heap.size w w' := by
  have HA := Lib.hid (fun w => termText_any a w hna)
  have HB := Lib.hid (fun w => termText_any b w hnb)
  rw [tidyPair_46a a b hx]
  rw [← tmS_toList a] at hx
  show Calls Try.prog 123 #[.iface (tmTy a) (tmRecv a), .int .u8 46, .iface (tmTy b) (tmRecv b)] w fun e w' => e = .returned (.iface 164 (.int .u8 48)) ∧ Below w.heap.size w w'
  have hma := method_text a
  have hea := text_enters a
  have hmb := method_text b
  have heb := text_enters b
  generalize tmS a = X at HA hx
  generalize tmS b = Y at HB 
  go_enter Try.func123, Try.ntmps123
  go_wp2_with (first | (go_at_fn (textF a); (with_reducible refine (HA.out _).mono ?_); rintro e w1 ⟨rfl, hb1⟩) | (go_at_fn (textF b); (with_reducible refine (HB.out _).mono ?_); rintro e w2 ⟨rfl, hb2⟩))
  go_ret
  exact ⟨rfl, hb1.trans (hb2.mono hb1.size)⟩
set_option maxRecDepth 100000 in
set_option maxHeartbeats 1000000 in
theorem tidyPairI_46b (a b : Tm) (w : World) (hna : (tmText a).length ≤ 1000) (hnb : (tmText b).length ≤ 1000) (hx : ¬ tmText a = [48]) (hy : tmText b = [48]) :
    Calls Try.prog 123 #[tmV a, .int .u8 46, tmV b] w fun e w' => e = .returned (tmV (tidyPair a 46 b)) ∧ Below w.heap.size w w' := by
  have HA := Lib.hid (fun w => termText_any a w hna)
  have HB := Lib.hid (fun w => termText_any b w hnb)
  rw [tidyPair_46b a b hx hy]
  rw [← tmS_toList a] at hx
  rw [← tmS_toList b] at hy
  show Calls Try.prog 123 #[.iface (tmTy a) (tmRecv a), .int .u8 46, .iface (tmTy b) (tmRecv b)] w fun e w' => e = .returned (.iface 164 (.int .u8 48)) ∧ Below w.heap.size w w'
  have hma := method_text a
  have hea := text_enters a
  have hmb := method_text b
  have heb := text_enters b
  generalize tmS a = X at HA hx
  generalize tmS b = Y at HB hy
  have qx := list_off hx
  go_enter Try.func123, Try.ntmps123
  go_wp2_with (first | (go_at_fn (textF a); (with_reducible refine (HA.out _).mono ?_); rintro e w1 ⟨rfl, hb1⟩) | (go_at_fn (textF b); (with_reducible refine (HB.out _).mono ?_); rintro e w2 ⟨rfl, hb2⟩))
  go_ret
  exact ⟨rfl, hb1.trans (hb2.mono hb1.size)⟩
set_option maxRecDepth 100000 in
set_option maxHeartbeats 1000000 in
theorem tidyPairI_46c (a b : Tm) (w : World) (hna : (tmText a).length ≤ 1000) (hnb : (tmText b).length ≤ 1000) (hx : ¬ tmText a = [48]) (hy : ¬ tmText b = [48]) (hu : tmText a = [49]) :
    Calls Try.prog 123 #[tmV a, .int .u8 46, tmV b] w fun e w' => e = .returned (tmV (tidyPair a 46 b)) ∧ Below w.heap.size w w' := by
  have HA := Lib.hid (fun w => termText_any a w hna)
  have HB := Lib.hid (fun w => termText_any b w hnb)
  rw [tidyPair_46c a b hx hy hu]
  rw [← tmS_toList a] at hx
  rw [← tmS_toList b] at hy
  show Calls Try.prog 123 #[.iface (tmTy a) (tmRecv a), .int .u8 46, .iface (tmTy b) (tmRecv b)] w fun e w' => e = .returned (.iface (tmTy b) (tmRecv b)) ∧ Below w.heap.size w w'
  have hma := method_text a
  have hea := text_enters a
  have hmb := method_text b
  have heb := text_enters b
  rw [← tmS_toList a] at hu
  generalize tmS a = X at HA hx hu
  generalize tmS b = Y at HB hy
  have qx := list_off hx
  have qy := list_off hy
  have hu0 : ¬ X.toList = [48] := hx
  go_enter Try.func123, Try.ntmps123
  go_wp2_with (first | (go_at_fn (textF a); (with_reducible refine (HA.out _).mono ?_); rintro e w1 ⟨rfl, hb1⟩) | (go_at_fn (textF b); (with_reducible refine (HB.out _).mono ?_); rintro e w2 ⟨rfl, hb2⟩))
  go_ret
  exact ⟨rfl, hb1.trans (hb2.mono hb1.size)⟩
set_option maxRecDepth 100000 in
set_option maxHeartbeats 1000000 in
theorem tidyPairI_46d (a b : Tm) (w : World) (hna : (tmText a).length ≤ 1000) (hnb : (tmText b).length ≤ 1000) (hx : ¬ tmText a = [48]) (hy : ¬ tmText b = [48]) (hu : ¬ tmText a = [49]) (hv : tmText b = [49]) :
    Calls Try.prog 123 #[tmV a, .int .u8 46, tmV b] w fun e w' => e = .returned (tmV (tidyPair a 46 b)) ∧ Below w.heap.size w w' := by
  have HA := Lib.hid (fun w => termText_any a w hna)
  have HB := Lib.hid (fun w => termText_any b w hnb)
  rw [tidyPair_46d a b hx hy hu hv]
  rw [← tmS_toList a] at hx
  rw [← tmS_toList b] at hy hv
  show Calls Try.prog 123 #[.iface (tmTy a) (tmRecv a), .int .u8 46, .iface (tmTy b) (tmRecv b)] w fun e w' => e = .returned (.iface (tmTy a) (tmRecv a)) ∧ Below w.heap.size w w'
  have hma := method_text a
  have hea := text_enters a
  have hmb := method_text b
  have heb := text_enters b
  rw [← tmS_toList a] at hu
  generalize tmS a = X at HA hx hu
  generalize tmS b = Y at HB hy hv
  have qx := list_off hx
  have qy := list_off hy
  have qu := list_off hu
  go_enter Try.func123, Try.ntmps123
  go_wp2_with (first | (go_at_fn (textF a); (with_reducible refine (HA.out _).mono ?_); rintro e w1 ⟨rfl, hb1⟩) | (go_at_fn (textF b); (with_reducible refine (HB.out _).mono ?_); rintro e w2 ⟨rfl, hb2⟩))
  go_ret
  exact ⟨rfl, hb1.trans (hb2.mono hb1.size)⟩
set_option maxRecDepth 100000 in
set_option maxHeartbeats 1000000 in
theorem tidyPairI_46e (a b : Tm) (w : World) (hna : (tmText a).length ≤ 1000) (hnb : (tmText b).length ≤ 1000) (hx : ¬ tmText a = [48]) (hy : ¬ tmText b = [48]) (hu : ¬ tmText a = [49]) (hv : ¬ tmText b = [49]) :
    Calls Try.prog 123 #[tmV a, .int .u8 46, tmV b] w fun e w' => e = .returned (tmV (tidyPair a 46 b)) ∧ Below w.heap.size w w' := by
  have HA := Lib.hid (fun w => termText_any a w hna)
  have HB := Lib.hid (fun w => termText_any b w hnb)
  rw [tidyPair_46e a b hx hy hu hv]
  rw [← tmS_toList a] at hx
  rw [← tmS_toList b] at hy hv
  show Calls Try.prog 123 #[.iface (tmTy a) (tmRecv a), .int .u8 46, .iface (tmTy b) (tmRecv b)] w fun e w' => e = .returned (.iface 151 (.agg #[.iface (tmTy a) (tmRecv a), .int .u8 46, .iface (tmTy b) (tmRecv b)])) ∧ Below w.heap.size w w'
  have hma := method_text a
  have hea := text_enters a
  have hmb := method_text b
  have heb := text_enters b
  rw [← tmS_toList a] at hu
  generalize tmS a = X at HA hx hu
  generalize tmS b = Y at HB hy hv
  have qx := list_off hx
  have qy := list_off hy
  have qu := list_off hu
  have qv := list_off hv
  go_enter Try.func123, Try.ntmps123
  go_wp2_with (first | (go_at_fn (textF a); (with_reducible refine (HA.out _).mono ?_); rintro e w1 ⟨rfl, hb1⟩) | (go_at_fn (textF b); (with_reducible refine (HB.out _).mono ?_); rintro e w2 ⟨rfl, hb2⟩))
  go_ret
  exact ⟨rfl, hb1.trans (hb2.mono hb1.size)⟩
set_option maxRecDepth 100000 in
set_option maxHeartbeats 1000000 in
theorem tidyPairI_38a (a b : Tm) (w : World) (hna : (tmText a).length ≤ 1000) (hnb : (tmText b).length ≤ 1000) (hx : tmText a = [48]) :
    Calls Try.prog 123 #[tmV a, .int .u8 38, tmV b] w fun e w' => e = .returned (tmV (tidyPair a 38 b)) ∧ Below w.heap.size w w' := by
  have HA := Lib.hid (fun w => termText_any a w hna)
  have HB := Lib.hid (fun w => termText_any b w hnb)
  rw [tidyPair_38a a b hx]
  rw [← tmS_toList a] at hx
  show Calls Try.prog 123 #[.iface (tmTy a) (tmRecv a), .int .u8 38, .iface (tmTy b) (tmRecv b)] w fun e w' => e = .returned (.iface 164 (.int .u8 48)) ∧ Below w.heap.size w w'
  have hma := method_text a
  have hea := text_enters a
  have hmb := method_text b
  have heb := text_enters b
  generalize tmS a = X at HA hx
  generalize tmS b = Y at HB 
  go_enter Try.func123, Try.ntmps123
  go_wp2_with (first | (go_at_fn (textF a); (with_reducible refine (HA.out _).mono ?_); rintro e w1 ⟨rfl, hb1⟩) | (go_at_fn (textF b); (with_reducible refine (HB.out _).mono ?_); rintro e w2 ⟨rfl, hb2⟩))
  go_ret
  exact ⟨rfl, hb1.trans (hb2.mono hb1.size)⟩
set_option maxRecDepth 100000 in
set_option maxHeartbeats 1000000 in
theorem tidyPairI_38b (a b : Tm) (w : World) (hna : (tmText a).length ≤ 1000) (hnb : (tmText b).length ≤ 1000) (hx : ¬ tmText a = [48]) (hy : tmText b = [48]) :
    Calls Try.prog 123 #[tmV a, .int .u8 38, tmV b] w fun e w' => e = .returned (tmV (tidyPair a 38 b)) ∧ Below w.heap.size w w' := by
  have HA := Lib.hid (fun w => termText_any a w hna)
  have HB := Lib.hid (fun w => termText_any b w hnb)
  rw [tidyPair_38b a b hx hy]
  rw [← tmS_toList a] at hx
  rw [← tmS_toList b] at hy
  show Calls Try.prog 123 #[.iface (tmTy a) (tmRecv a), .int .u8 38, .iface (tmTy b) (tmRecv b)] w fun e w' => e = .returned (.iface 164 (.int .u8 48)) ∧ Below w.heap.size w w'
  have hma := method_text a
  have hea := text_enters a
  have hmb := method_text b
  have heb := text_enters b
  generalize tmS a = X at HA hx
  generalize tmS b = Y at HB hy
  have qx := list_off hx
  go_enter Try.func123, Try.ntmps123
  go_wp2_with (first | (go_at_fn (textF a); (with_reducible refine (HA.out _).mono ?_); rintro e w1 ⟨rfl, hb1⟩) | (go_at_fn (textF b); (with_reducible refine (HB.out _).mono ?_); rintro e w2 ⟨rfl, hb2⟩))
  go_ret
  exact ⟨rfl, hb1.trans (hb2.mono hb1.size)⟩
set_option maxRecDepth 100000 in
set_option maxHeartbeats 1000000 in
theorem tidyPairI_38c (a b : Tm) (w : World) (hna : (tmText a).length ≤ 1000) (hnb : (tmText b).length ≤ 1000) (hx : ¬ tmText a = [48]) (hy : ¬ tmText b = [48]) (hz : tmText a = tmText b) :
    Calls Try.prog 123 #[tmV a, .int .u8 38, tmV b] w fun e w' => e = .returned (tmV (tidyPair a 38 b)) ∧ Below w.heap.size w w' := by
  have HA := Lib.hid (fun w => termText_any a w hna)
  have HB := Lib.hid (fun w => termText_any b w hnb)
  rw [tidyPair_38c a b hx hy hz]
  rw [← tmS_toList a] at hx
  rw [← tmS_toList b] at hy
  show Calls Try.prog 123 #[.iface (tmTy a) (tmRecv a), .int .u8 38, .iface (tmTy b) (tmRecv b)] w fun e w' => e = .returned (.iface (tmTy a) (tmRecv a)) ∧ Below w.heap.size w w'
  have hma := method_text a
  have hea := text_enters a
  have hmb := method_text b
  have heb := text_enters b
  rw [← tmS_toList a, ← tmS_toList b] at hz
  generalize tmS a = X at HA hx hz
  generalize tmS b = Y at HB hy hz
  have qx := list_off hx
  have qy := list_off hy
  have qz : (X.toList == Y.toList) = true := by rw [hz]; simp
  go_enter Try.func123, Try.ntmps123
  go_wp2_with (first | (go_at_fn (textF a); (with_reducible refine (HA.out _).mono ?_); rintro e w1 ⟨rfl, hb1⟩) | (go_at_fn (textF b); (with_reducible refine (HB.out _).mono ?_); rintro e w2 ⟨rfl, hb2⟩))
  go_ret
  exact ⟨rfl, hb1.trans (hb2.mono hb1.size)⟩
set_option maxRecDepth 100000 in
set_option maxHeartbeats 1000000 in
theorem tidyPairI_38d (a b : Tm) (w : World) (hna : (tmText a).length ≤ 1000) (hnb : (tmText b).length ≤ 1000) (hx : ¬ tmText a = [48]) (hy : ¬ tmText b = [48]) (hz : ¬ tmText a = tmText b) :
    Calls Try.prog 123 #[tmV a, .int .u8 38, tmV b] w fun e w' => e = .returned (tmV (tidyPair a 38 b)) ∧ Below w.heap.size w w' := by
  have HA := Lib.hid (fun w => termText_any a w hna)
  have HB := Lib.hid (fun w => termText_any b w hnb)
  rw [tidyPair_38d a b hx hy hz]
  rw [← tmS_toList a] at hx
  rw [← tmS_toList b] at hy
  show Calls Try.prog 123 #[.iface (tmTy a) (tmRecv a), .int .u8 38, .iface (tmTy b) (tmRecv b)] w fun e w' => e = .returned (.iface 151 (.agg #[.iface (tmTy a) (tmRecv a), .int .u8 38, .iface (tmTy b) (tmRecv b)])) ∧ Below w.heap.size w w'
  have hma := method_text a
  have hea := text_enters a
  have hmb := method_text b
  have heb := text_enters b
  rw [← tmS_toList a, ← tmS_toList b] at hz
  generalize tmS a = X at HA hx hz
  generalize tmS b = Y at HB hy hz
  have qx := list_off hx
  have qy := list_off hy
  have qz := list_off hz
  go_enter Try.func123, Try.ntmps123
  go_wp2_with (first | (go_at_fn (textF a); (with_reducible refine (HA.out _).mono ?_); rintro e w1 ⟨rfl, hb1⟩) | (go_at_fn (textF b); (with_reducible refine (HB.out _).mono ?_); rintro e w2 ⟨rfl, hb2⟩))
  go_ret
  exact ⟨rfl, hb1.trans (hb2.mono hb1.size)⟩
theorem tidyPair_any (a b : Tm) (s : UInt8) (w : World) (hs : isMid s = true) (hna : (tmText a).length ≤ 1000) (hnb : (tmText b).length ≤ 1000) :
    Calls Try.prog 123 #[tmV a, .int .u8 s.toNat, tmV b] w fun e w' => e = .returned (tmV (tidyPair a s b)) ∧ Below w.heap.size w w' := by
  rcases mid_cases hs with rfl | rfl | rfl
  · by_cases hx : tmText a = [48]
    · exact tidyPairI_43a a b w hna hnb hx
    · by_cases hy : tmText b = [48]
      · exact tidyPairI_43b a b w hna hnb hx hy
      · by_cases hz : tmText a = tmText b
        · exact tidyPairI_43c a b w hna hnb hx hy hz
        · exact tidyPairI_43d a b w hna hnb hx hy hz
  · by_cases hx : tmText a = [48]
    · exact tidyPairI_46a a b w hna hnb hx
    · by_cases hy : tmText b = [48]
      · exact tidyPairI_46b a b w hna hnb hx hy
      · by_cases hu : tmText a = [49]
        · exact tidyPairI_46c a b w hna hnb hx hy hu
        · by_cases hv : tmText b = [49]
          · exact tidyPairI_46d a b w hna hnb hx hy hu hv
          · exact tidyPairI_46e a b w hna hnb hx hy hu hv
  · by_cases hx : tmText a = [48]
    · exact tidyPairI_38a a b w hna hnb hx
    · by_cases hy : tmText b = [48]
      · exact tidyPairI_38b a b w hna hnb hx hy
      · by_cases hz : tmText a = tmText b
        · exact tidyPairI_38c a b w hna hnb hx hy hz
        · exact tidyPairI_38d a b w hna hnb hx hy hz

end Go.Proofs.Ytiphooodijbhiaa
