/-
  The walks of the methods that make the set text of one sign, and of the number that a digit is.
-/
import Derived.Test.YtiphooodijbhiaaTermI
import Derived.Test.YtiphooodijbhiaaTermSem
import Derived.Test.YtiphooodijbhiaaSetOne
set_option linter.unusedVariables false
set_option linter.unusedSimpArgs false
namespace Go.Proofs.Ytiphooodijbhiaa
open Go.RowKit

theorem fL_a : fL [1] = oneF 97 := by
  funext n
  rcases Nat.lt_or_ge n 60 with h | h
  · rw [fL_low _ _ h]
    show marked [1] n = decide (n = 1)
    apply bool_iff
    unfold marked
    rw [List.any_cons, List.any_nil, Bool.or_false, beq_iff_eq, decide_eq_true_iff]
    omega
  · rw [fL_high _ _ h]
    show false = decide (n = 1)
    rw [decide_eq_false (by omega)]
theorem tidy_a : TidyText (fL [1]) (signT 97) := by rw [fL_a]; exact signT_tells (by decide)
theorem tidy_0 : TidyText (fL []) (signT 48) := by rw [fL_nil, ← oneF_zero]; exact signT_tells (by decide)
theorem read_one (w : World) (z : Int) : ReadsI (w.alloc (.cells #[.int .i64 z] 3)) (some ⟨w.heap.size, 0, none⟩) 1 [z] :=
  ⟨rfl, .inr ⟨w.heap.size, 0, rfl, by simp, fun i hi => by
    obtain rfl : i = 0 := by omega
    rw [Nat.add_zero, World.cell?_alloc_at _ _ _ _ rfl]; rfl⟩⟩
theorem read_none' (w : World) : ReadsI (w.alloc (.cells #[] 3)) (some ⟨w.heap.size, 0, none⟩) 0 [] := ⟨rfl, .inl rfl⟩

set_option maxRecDepth 100000 in
set_option maxHeartbeats 1000000 in
theorem set_sign49 (w : World) : Calls Try.prog 200 #[.int .u8 49] w fun e w' => TermEnd (.sign 49) e ∧ Below w.heap.size w w' := by
  go_enter Try.func200, Try.ntmps200
  go_wp2_with fail
  refine (implOf_on (some ⟨w.heap.size, 0, none⟩) 1 1 [0] (signT 49) _ (read_one w 0) (by decide) (by decide) tidy_one).mono ?_
  rintro e w1 ⟨rfl, hb⟩
  have HB := Lib.hid (((Below.refl w.heap.size w).alloc (Nat.le_refl _) _).trans (hb.mono (by simp)))
  clear hb
  go_wp2_with fail
  go_ret2
  exact ⟨⟨_, _, rfl, rfl, rfl⟩, HB.out⟩
set_option maxRecDepth 100000 in
set_option maxHeartbeats 1000000 in
theorem set_sign97 (w : World) : Calls Try.prog 200 #[.int .u8 97] w fun e w' => TermEnd (.sign 97) e ∧ Below w.heap.size w w' := by
  go_enter Try.func200, Try.ntmps200
  go_wp2_with fail
  refine (implOf_on (some ⟨w.heap.size, 0, none⟩) 1 1 [1] (signT 97) _ (read_one w 1) (by decide) (by decide) tidy_a).mono ?_
  rintro e w1 ⟨rfl, hb⟩
  have HB := Lib.hid (((Below.refl w.heap.size w).alloc (Nat.le_refl _) _).trans (hb.mono (by simp)))
  clear hb
  go_wp2_with fail
  go_ret2
  exact ⟨⟨_, _, rfl, rfl, rfl⟩, HB.out⟩
set_option maxRecDepth 100000 in
set_option maxHeartbeats 1000000 in
theorem set_sign48 (w : World) : Calls Try.prog 200 #[.int .u8 48] w fun e w' => TermEnd (.sign 48) e ∧ Below w.heap.size w w' := by
  go_enter Try.func200, Try.ntmps200
  go_wp2_with fail
  refine (implOf_on (some ⟨w.heap.size, 0, none⟩) 0 0 [] (signT 48) _ (read_none' w) (by decide) (by decide) tidy_0).mono ?_
  rintro e w1 ⟨rfl, hb⟩
  have HB := Lib.hid (((Below.refl w.heap.size w).alloc (Nat.le_refl _) _).trans (hb.mono (by simp)))
  clear hb
  go_wp2_with fail
  go_ret2
  exact ⟨⟨_, _, rfl, rfl, rfl⟩, HB.out⟩

set_option maxRecDepth 100000 in
set_option maxHeartbeats 1000000 in
theorem times_val (d : UInt8) (T : TypeId) (v : Value) (w : World) (hd : isDig d = true) : Calls Try.prog 189 #[.agg #[.int .u8 d.toNat, .iface T v]] w fun e w' => e = .returned (.int .i64 ((d.toNat : Int) - 48)) ∧ Below w.heap.size w w' := by
  rcases dig_cases hd with rfl | rfl | rfl | rfl
  · show Calls Try.prog 189 #[.agg #[.int .u8 50, .iface T v]] w _
    go_enter Try.func189, Try.ntmps189
    go_wp2
    go_ret
    exact ⟨rfl, (Below.refl _ _).alloc (Nat.le_refl _) _⟩
  · show Calls Try.prog 189 #[.agg #[.int .u8 51, .iface T v]] w _
    go_enter Try.func189, Try.ntmps189
    go_wp2
    go_ret
    exact ⟨rfl, (Below.refl _ _).alloc (Nat.le_refl _) _⟩
  · show Calls Try.prog 189 #[.agg #[.int .u8 52, .iface T v]] w _
    go_enter Try.func189, Try.ntmps189
    go_wp2
    go_ret
    exact ⟨rfl, (Below.refl _ _).alloc (Nat.le_refl _) _⟩
  · show Calls Try.prog 189 #[.agg #[.int .u8 53, .iface T v]] w _
    go_enter Try.func189, Try.ntmps189
    go_wp2
    go_ret
    exact ⟨rfl, (Below.refl _ _).alloc (Nat.le_refl _) _⟩
/-- The same, whatever the sign. -/
theorem set_sign (c : UInt8) (w : World) (ho : isOne c = true) : Calls Try.prog 200 #[.int .u8 c.toNat] w fun e w' => TermEnd (.sign c) e ∧ Below w.heap.size w w' := by
  rcases one_cases ho with rfl | rfl | rfl
  · exact set_sign48 w
  · exact set_sign49 w
  · exact set_sign97 w

end Go.Proofs.Ytiphooodijbhiaa
