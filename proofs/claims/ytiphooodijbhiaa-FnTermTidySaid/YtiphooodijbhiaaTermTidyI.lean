/-
  The walks of tidyStar, tidyTimes and tidyPair, of the program.
-/
import Derived.Test.YtiphooodijbhiaaTermTextI
set_option linter.unusedVariables false
set_option linter.unusedSimpArgs false
namespace Go.Proofs.Ytiphooodijbhiaa
open Go.RowKit

set_option maxRecDepth 100000 in
set_option maxHeartbeats 1000000 in
theorem tidyTimes_0 (d : UInt8) (t : Tm) (w : World) (hn : (tmText t).length ≤ 1000) (h : tmText t = [48]) :
    Calls Try.prog 122 #[.int .u8 d.toNat, tmV t] w fun e w' => e = .returned (tmV (tidyTimes d t)) ∧ Below w.heap.size w w' := by
  have HI := Lib.hid (fun w => termText_any t w hn)
  have hX := tmS_toList t
  have hm := method_text t
  have he := text_enters t
  have HE : tidyTimes d t = t := by unfold tidyTimes; rw [if_pos (.inl h)]
  rw [HE]
  rw [h] at hX
  clear HE
  simp only [tmV]
  generalize tmS t = X at HI hX
  go_enter Try.func122, Try.ntmps122
  go_wp2_with (go_at_fn (textF t); refine (HI.out _).mono ?_; rintro e w1 ⟨rfl, hb⟩)
  go_ret
  exact ⟨rfl, hb⟩
set_option maxRecDepth 100000 in
set_option maxHeartbeats 1000000 in
theorem tidyTimes_1 (d : UInt8) (t : Tm) (w : World) (hn : (tmText t).length ≤ 1000) (h : tmText t = [49]) :
    Calls Try.prog 122 #[.int .u8 d.toNat, tmV t] w fun e w' => e = .returned (tmV (tidyTimes d t)) ∧ Below w.heap.size w w' := by
  have HI := Lib.hid (fun w => termText_any t w hn)
  have hX := tmS_toList t
  have hm := method_text t
  have he := text_enters t
  have HE : tidyTimes d t = t := by unfold tidyTimes; rw [if_pos (.inr h)]
  rw [HE]
  rw [h] at hX
  have h1 : ¬ tmText t = [48] := by rw [h]; decide
  clear HE h1
  simp only [tmV]
  generalize tmS t = X at HI hX
  have h2 : ¬ X.toList = [48] := by rw [hX]; decide
  go_enter Try.func122, Try.ntmps122
  go_wp2_with (go_at_fn (textF t); refine (HI.out _).mono ?_; rintro e w1 ⟨rfl, hb⟩)
  go_ret
  exact ⟨rfl, hb⟩
set_option maxRecDepth 100000 in
set_option maxHeartbeats 1000000 in
theorem tidyTimes_no (d : UInt8) (t : Tm) (w : World) (hn : (tmText t).length ≤ 1000) (h : ¬ tmText t = [48]) (h2 : ¬ tmText t = [49]) :
    Calls Try.prog 122 #[.int .u8 d.toNat, tmV t] w fun e w' => e = .returned (tmV (tidyTimes d t)) ∧ Below w.heap.size w w' := by
  have HI := Lib.hid (fun w => termText_any t w hn)
  have hX := tmS_toList t
  have hm := method_text t
  have he := text_enters t
  have HE : tidyTimes d t = .times d t := by unfold tidyTimes; rw [if_neg (by rintro (x | x); exact h x; exact h2 x)]
  rw [HE]
  rw [← hX] at h h2
  clear hX HE
  simp only [tmV]
  generalize tmS t = X at HI h h2
  have b1 := list_off h
  have b2 := list_off h2
  go_enter Try.func122, Try.ntmps122
  go_wp2_with (go_at_fn (textF t); refine (HI.out _).mono ?_; rintro e w1 ⟨rfl, hb⟩)
  go_ret
  exact ⟨rfl, hb⟩
theorem tidyTimes_any (d : UInt8) (t : Tm) (w : World) (hn : (tmText t).length ≤ 1000) :
    Calls Try.prog 122 #[.int .u8 d.toNat, tmV t] w fun e w' => e = .returned (tmV (tidyTimes d t)) ∧ Below w.heap.size w w' := by
  by_cases h : tmText t = [48]
  · exact tidyTimes_0 d t w hn h
  · by_cases h2 : tmText t = [49]
    · exact tidyTimes_1 d t w hn h2
    · exact tidyTimes_no d t w hn h h2

theorem assert_sign (W : World) (v : Value) : (Instr.typeAssert (.iface 164 v) 95 164 true).run Try.prog W = .ok (.tuple #[v, .bool true]) W := by kernel_rfl
theorem assert_star (W : World) (v : Value) : (Instr.typeAssert (.iface 146 v) 95 146 true).run Try.prog W = .ok (.tuple #[v, .bool true]) W := by kernel_rfl
theorem assert_times (W : World) (v : Value) : (Instr.typeAssert (.iface 148 v) 95 148 true).run Try.prog W = .ok (.tuple #[v, .bool true]) W := by kernel_rfl
theorem assert_pair (W : World) (v : Value) : (Instr.typeAssert (.iface 151 v) 95 151 true).run Try.prog W = .ok (.tuple #[v, .bool true]) W := by kernel_rfl
theorem assert_sign_star (W : World) (v : Value) : (Instr.typeAssert (.iface 164 v) 95 146 true).run Try.prog W = .ok (.tuple #[.agg #[.nilIface], .bool false]) W := by kernel_rfl
theorem assert_sign_times (W : World) (v : Value) : (Instr.typeAssert (.iface 164 v) 95 148 true).run Try.prog W = .ok (.tuple #[.agg #[.int .u8 0, .nilIface], .bool false]) W := by kernel_rfl
theorem assert_sign_pair (W : World) (v : Value) : (Instr.typeAssert (.iface 164 v) 95 151 true).run Try.prog W = .ok (.tuple #[.agg #[.nilIface, .int .u8 0, .nilIface], .bool false]) W := by kernel_rfl
theorem assert_star_sign (W : World) (v : Value) : (Instr.typeAssert (.iface 146 v) 95 164 true).run Try.prog W = .ok (.tuple #[.int .u8 0, .bool false]) W := by kernel_rfl
theorem assert_star_times (W : World) (v : Value) : (Instr.typeAssert (.iface 146 v) 95 148 true).run Try.prog W = .ok (.tuple #[.agg #[.int .u8 0, .nilIface], .bool false]) W := by kernel_rfl
theorem assert_star_pair (W : World) (v : Value) : (Instr.typeAssert (.iface 146 v) 95 151 true).run Try.prog W = .ok (.tuple #[.agg #[.nilIface, .int .u8 0, .nilIface], .bool false]) W := by kernel_rfl
theorem assert_times_sign (W : World) (v : Value) : (Instr.typeAssert (.iface 148 v) 95 164 true).run Try.prog W = .ok (.tuple #[.int .u8 0, .bool false]) W := by kernel_rfl
theorem assert_times_star (W : World) (v : Value) : (Instr.typeAssert (.iface 148 v) 95 146 true).run Try.prog W = .ok (.tuple #[.agg #[.nilIface], .bool false]) W := by kernel_rfl
theorem assert_times_pair (W : World) (v : Value) : (Instr.typeAssert (.iface 148 v) 95 151 true).run Try.prog W = .ok (.tuple #[.agg #[.nilIface, .int .u8 0, .nilIface], .bool false]) W := by kernel_rfl
theorem assert_pair_sign (W : World) (v : Value) : (Instr.typeAssert (.iface 151 v) 95 164 true).run Try.prog W = .ok (.tuple #[.int .u8 0, .bool false]) W := by kernel_rfl
theorem assert_pair_star (W : World) (v : Value) : (Instr.typeAssert (.iface 151 v) 95 146 true).run Try.prog W = .ok (.tuple #[.agg #[.nilIface], .bool false]) W := by kernel_rfl
theorem assert_pair_times (W : World) (v : Value) : (Instr.typeAssert (.iface 151 v) 95 148 true).run Try.prog W = .ok (.tuple #[.agg #[.int .u8 0, .nilIface], .bool false]) W := by kernel_rfl
set_option maxRecDepth 100000 in
set_option maxHeartbeats 1000000 in
theorem tidyStar_star (u : Tm) (w : World) : Calls Try.prog 121 #[tmV (.star u)] w fun e w' => e = .returned (tmV (tidyStar (.star u))) ∧ Below w.heap.size w w' := by
  have a0 := fun W v => assert_star W v
  show Calls Try.prog 121 #[.iface 146 (.agg #[.iface (tmTy u) (tmRecv u)])] w fun e w' => e = .returned (.iface 146 (.agg #[.iface (tmTy u) (tmRecv u)])) ∧ Below w.heap.size w w'
  generalize tmTy u = T
  generalize tmRecv u = v
  go_enter Try.func121, Try.ntmps121
  go_wp2_with fail
  go_ret
  exact ⟨rfl, (Below.refl _ _).alloc (Nat.le_refl _) _⟩
set_option maxRecDepth 100000 in
set_option maxHeartbeats 1000000 in
theorem tidyStar_times (d : UInt8) (u : Tm) (w : World) : Calls Try.prog 121 #[tmV (.times d u)] w fun e w' => e = .returned (tmV (tidyStar (.times d u))) ∧ Below w.heap.size w w' := by
  have a0 := fun W v => assert_times_star W v
  have a1 := fun W v => assert_times_sign W v
  show Calls Try.prog 121 #[.iface 148 (.agg #[.int .u8 d.toNat, .iface (tmTy u) (tmRecv u)])] w fun e w' => e = .returned (.iface 146 (.agg #[.iface 148 (.agg #[.int .u8 d.toNat, .iface (tmTy u) (tmRecv u)])])) ∧ Below w.heap.size w w'
  generalize tmTy u = T
  generalize tmRecv u = v
  go_enter Try.func121, Try.ntmps121
  go_wp2_with fail
  go_ret
  exact ⟨rfl, Below.refl _ _⟩
set_option maxRecDepth 100000 in
set_option maxHeartbeats 1000000 in
theorem tidyStar_pair (l : Tm) (s : UInt8) (r : Tm) (w : World) : Calls Try.prog 121 #[tmV (.pair l s r)] w fun e w' => e = .returned (tmV (tidyStar (.pair l s r))) ∧ Below w.heap.size w w' := by
  have a0 := fun W v => assert_pair_star W v
  have a1 := fun W v => assert_pair_sign W v
  show Calls Try.prog 121 #[.iface 151 (.agg #[.iface (tmTy l) (tmRecv l), .int .u8 s.toNat, .iface (tmTy r) (tmRecv r)])] w fun e w' => e = .returned (.iface 146 (.agg #[.iface 151 (.agg #[.iface (tmTy l) (tmRecv l), .int .u8 s.toNat, .iface (tmTy r) (tmRecv r)])])) ∧ Below w.heap.size w w'
  generalize tmTy l = T
  generalize tmRecv l = v
  generalize tmTy r = T2
  generalize tmRecv r = v2
  go_enter Try.func121, Try.ntmps121
  go_wp2_with fail
  go_ret
  exact ⟨rfl, Below.refl _ _⟩
set_option maxRecDepth 100000 in
set_option maxHeartbeats 1000000 in
theorem tidyStar_a  (w : World) : Calls Try.prog 121 #[tmV (.sign 97)] w fun e w' => e = .returned (tmV (tidyStar (.sign 97))) ∧ Below w.heap.size w w' := by
  have a0 := fun W v => assert_sign_star W v
  have a1 := fun W v => assert_sign W v
  show Calls Try.prog 121 #[.iface 164 (.int .u8 97)] w fun e w' => e = .returned (.iface 146 (.agg #[.iface 164 (.int .u8 97)])) ∧ Below w.heap.size w w'
  go_enter Try.func121, Try.ntmps121
  go_wp2_with fail
  go_ret
  exact ⟨rfl, Below.refl _ _⟩
set_option maxRecDepth 100000 in
set_option maxHeartbeats 1000000 in
theorem tidyStar_sign_other (c : UInt8) (h : ¬ c = 97) (w : World) : Calls Try.prog 121 #[tmV (.sign c)] w fun e w' => e = .returned (tmV (tidyStar (.sign c))) ∧ Below w.heap.size w w' := by
  have b : ((c.toNat : Int) != 97) = true := by
    have : ¬ (c.toNat : Int) = 97 := fun e => h ((byte_is (k := 97) (by decide)).1 e)
    simpa using this
  rw [show tidyStar (.sign c) = .sign 49 by rw [tidyStar_sign, if_neg h]]
  clear h
  have a0 := fun W v => assert_sign_star W v
  have a1 := fun W v => assert_sign W v
  show Calls Try.prog 121 #[.iface 164 (.int .u8 c.toNat)] w fun e w' => e = .returned (.iface 164 (.int .u8 49)) ∧ Below w.heap.size w w'
  go_enter Try.func121, Try.ntmps121
  go_wp2_with fail
  go_ret
  exact ⟨rfl, Below.refl _ _⟩
theorem tidyStar_any (t : Tm) (w : World) : Calls Try.prog 121 #[tmV t] w fun e w' => e = .returned (tmV (tidyStar t)) ∧ Below w.heap.size w w' := by
  cases t with
  | sign c =>
    by_cases h : c = 97
    · subst h; exact tidyStar_a w
    · exact tidyStar_sign_other c h w
  | star u => exact tidyStar_star u w
  | times d u => exact tidyStar_times d u w
  | pair l s r => exact tidyStar_pair l s r w

end Go.Proofs.Ytiphooodijbhiaa
