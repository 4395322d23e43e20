/-
  FnExactMachBoth: the given statement, out of the walk of the law.
-/
import Derived.Test.YtiphooodijbhiabRows
import Derived.WalkKit
import Derived.ProofKit
import Derived.OpenShut
import Derived.ShutString
import Derived.HandedShaped
import Derived.ChangeOld
import Derived.Below
import Derived.Lib.SmallJoins
import Derived.Test.YtiphooodijbhiabIsRow
import Derived.Test.YtiphooodijbhiabLawMachBoth
namespace Go.Proofs.Ytiphooodijbhiab.fnExactMachBoth
open Go.ChangeShapes Go.WideShapes Go.ChangeAt Go.RowKit
open Go.ChangeMaps (open_string shut_string)
set_option linter.unusedVariables false

theorem own : ownKnob Try.prog.godebug = none := by kernel_rfl
theorem laidOut : laidOutB Try.prog = true := by kernel_rfl

set_option maxRecDepth 100000 in
theorem lifted (os : Os) (started : os.Started) (H : Type) (enc : TypeId × Value → H) :
    ReturnsInHanded {} Try.checked os 11 .any (Rows.fnExactMachBothSpec.pre6 enc Try.prog Try.f11 Rows.fnExactMachBothRow.domain false) (Rows.fnExactMachBothSpec.post enc Try.prog Try.f11 false true false false) := by
  refine returnsInHanded_of_change_shaped (C := Try.checked) own started (by kernel_rfl) Try.func11
    (ChangeSpec.witness6 (enc := enc) (C := Try.checked) false ⟨#[], #[.agg #[.slice none 0 0, .int .i64 0, .int .i64 0], .agg #[.slice none 0 0, .int .i64 0, .int .i64 0]], []⟩ 8 (by kernel_rfl) (by kernel_rfl) (by kernel_rfl) (by kernel_rfl)) ?_
  intro W base args ds gs before hval0 hW hcnd _ hsh _
  have hval : ∀ (j : Nat) t v, Try.f11.params[j]? = some t → args[j]? = some v → Value.okWide Try.prog W .any base t v := hval0
  have hW' := hW
  obtain ⟨p, q, hA0, hV, rfl, hfz, hnd⟩ := hW
  have hA : DataW.TrodAll enc Try.prog W 0 (fun _ => true) true Try.f11.params.toList args.toList ds p := hA0
  rw [Try.params11] at hA hval
  obtain ⟨v0, vs0, d0, ds0, p0, q0, hargs, rfl, rfl, h0, r0⟩ := trodAll_cons hA
  obtain ⟨v1, vs1, d1, ds1, p1, q1, rfl, rfl, rfl, h1, r1⟩ := trodAll_cons r0
  obtain ⟨rfl, rfl, rfl⟩ := trodAll_nil r1
  obtain rfl : args = #[v0, v1] := by cases args; simp_all
  obtain ⟨rfl, rfl⟩ := trodVars_none hV
  have k0 := h0
  have lt0 : ∀ x ∈ p0, x.block < W.heap.size := by obtain ⟨m, hm⟩ := k0; exact DataW.trod_lt m _ _ _ hm
  obtain ⟨u0, b0, e0, x0, y0, g0, f0, rfl, rfl, rfl, i0, hb0, he0⟩ := Go.Joins.open_agg3 Try.underlying48 (by kernel_rfl) (by kernel_rfl) (hval 0 48 v0 rfl rfl) h0
  obtain ⟨b0, hqa, _, _⟩ := DataW.trod_int Try.underlying3 hb0
  obtain ⟨e0, hqb, _, _⟩ := DataW.trod_int Try.underlying3 he0
  simp at hqa hqb
  subst hqa hqb
  obtain ⟨a0, len0, cap0, z0, rfl, w0, l0⟩ : ∃ a n c zs, u0 = Value.slice a n c ∧ ReadsI W a n zs ∧ n ≤ maxLen := by
    rcases open_ints Try.underlying46 Try.underlying3 (by kernel_rfl) i0 with ⟨hcs, _⟩ | ⟨x, l, c, zs, hcs, _, hl, hm, hz, _, hcell, hwz⟩
    · simp at hcs
      subst hcs
      exact ⟨_, _, _, [], rfl, ⟨rfl, .inl rfl⟩, by decide⟩
    · simp at hcs
      subst hcs
      exact ⟨_, _, _, _, rfl, (show IsRow .i64 W (some x) l c zs from .inr ⟨x, rfl, hl, hm, by simpa using hz, hcell, hwz⟩).reads, Nat.le_trans hl hm⟩
  have k1 := h1
  have lt1 : ∀ x ∈ p1, x.block < W.heap.size := by obtain ⟨m, hm⟩ := k1; exact DataW.trod_lt m _ _ _ hm
  obtain ⟨u1, b1, e1, x1, y1, g1, f1, rfl, rfl, rfl, i1, hb1, he1⟩ := Go.Joins.open_agg3 Try.underlying48 (by kernel_rfl) (by kernel_rfl) (hval 1 48 v1 rfl rfl) h1
  obtain ⟨b1, hqa, _, _⟩ := DataW.trod_int Try.underlying3 hb1
  obtain ⟨e1, hqb, _, _⟩ := DataW.trod_int Try.underlying3 he1
  simp at hqa hqb
  subst hqa hqb
  obtain ⟨a1, len1, cap1, z1, rfl, w1, l1⟩ : ∃ a n c zs, u1 = Value.slice a n c ∧ ReadsI W a n zs ∧ n ≤ maxLen := by
    rcases open_ints Try.underlying46 Try.underlying3 (by kernel_rfl) i1 with ⟨hcs, _⟩ | ⟨x, l, c, zs, hcs, _, hl, hm, hz, _, hcell, hwz⟩
    · simp at hcs
      subst hcs
      exact ⟨_, _, _, [], rfl, ⟨rfl, .inl rfl⟩, by decide⟩
    · simp at hcs
      subst hcs
      exact ⟨_, _, _, _, rfl, (show IsRow .i64 W (some x) l c zs from .inr ⟨x, rfl, hl, hm, by simpa using hz, hcell, hwz⟩).reads, Nat.le_trans hl hm⟩
  clear hA0 hval0
  refine (lawMachBoth (w := W) a0 len0 cap0 z0 b0 e0 w0 l0 a1 len1 cap1 z1 b1 e1 w1 l1).mono fun e W' ⟨he, bel⟩ => ?_
  subst he
  exact ⟨_, rfl, _, _, _, [], _, [], hW', trodAll_mk1 (shut_bool Try.underlying4 _), (trodAll_cons_mk (Below.trod laidOut (by kernel_rfl) (of_decide_eq_true (by kernel_rfl)) k0 bel lt0) (trodAll_cons_mk (Below.trod laidOut (by kernel_rfl) (of_decide_eq_true (by kernel_rfl)) k1 bel lt1) trodAll_mk0)), rfl, bel.frame _, fun h => by cases h⟩

theorem over : Rows.fnExactMachBothRow.holds Try.pinned (OpenSpec.ofChange Rows.fnExactMachBothSpec) :=
  OpenClaim.holds_of_wide 11 Try.f11 rfl rfl rfl rfl rfl rfl rfl ⟨rfl, rfl, rfl, rfl, rfl⟩ rfl rfl rfl rfl rfl (by kernel_rfl) Try.func11 (by kernel_rfl)
    (of_decide_eq_true (by kernel_rfl)) (by unfold Func.isWrapper; first | (rw [if_pos (by decide +kernel)]; kernel_rfl) | (rw [if_neg (by decide +kernel)]; exact ⟨rfl, rfl⟩))
    (fun os started H enc _ => lifted os started H enc)

/-- The statement: for every input the law returns true, and its arguments read as they did. -/
theorem proved : Rows.FnExactMachBothSaid := over
end Go.Proofs.Ytiphooodijbhiab.fnExactMachBoth
