/-
  The walk of SolveIs, of the program.
-/
import Derived.Test.YtiphooodijbhiabSolveI
import Derived.Test.YtiphooodijbhiabEitherI
import Derived.Test.YtiphooodijbhiabSameI
set_option linter.unusedVariables false
set_option linter.unusedSimpArgs false
namespace Go.Proofs.Ytiphooodijbhiab
open Go.RowKit

theorem made_told {f : Nat → Bool} {T : ByteArray} {b : Bool} (h : Made f T b) (ht : ∃ m q, Tidy f m q ∧ m ≤ 60 ∧ q ≤ 60) : b = true ∧ TidyText f T := by
  rcases h with ⟨h1, h2⟩ | ⟨_, _, m, q, h3, h4⟩
  · exact ⟨h1, h2⟩
  · obtain ⟨m', q', k1, k2, k3⟩ := ht
    obtain ⟨rfl, rfl⟩ := tidy_unique h3 k1
    exact absurd ⟨k2, k3⟩ h4
theorem is_empty : okS ⟨#[]⟩ = false := by decide
/-- What SolveIs holds against each other tells whether a set solves. -/
theorem is_same {s t x U V : ByteArray} {b c : Bool} (h1 : smallS s = true) (h2 : smallS t = true) (hU : MakeIs (smallS s && smallS x) (sumG false (fS s) (fS x)) U b)
    (hV : MakeIs (okS t && okS U) (fun n => fS t n || fS U n) V c) : isW s t x = (okS V && (okS x && agreeB (fS V) (fS x))) := by
  obtain ⟨o1, m1⟩ := smallS_iff.1 h1
  obtain ⟨o2, m2⟩ := smallS_iff.1 h2
  have keyV : okS V = true → smallS x = true ∧ fS V = dueF (fS s) (fS t) (fS x) ∧ ∃ m q, Tidy (fS V) m q ∧ m ≤ 60 ∧ q ≤ 60 := fun hv => by
    cases c
    · have : V = ⟨#[]⟩ := by
        cases k : (okS t && okS U)
        · exact (hV.2 k).1
        · rcases hV.1 k with ⟨e, _⟩ | ⟨_, e, _⟩
          · cases e
          · exact e
      rw [this, is_empty] at hv; cases hv
    · obtain ⟨k1, k2⟩ := makeIs_told hV
      rw [Bool.and_eq_true] at k1
      have hu := k1.2
      cases b
      · have : U = ⟨#[]⟩ := by
          cases k : (smallS s && smallS x)
          · exact (hU.2 k).1
          · rcases hU.1 k with ⟨e, _⟩ | ⟨_, e, _⟩
            · cases e
            · exact e
        rw [this, is_empty] at hu; cases hu
      · obtain ⟨k3, k4⟩ := makeIs_told hU
        rw [Bool.and_eq_true] at k3
        refine ⟨k3.2, ?_, tidy_there hv⟩
        rw [k2.told.set, k4.told.set]; rfl
  apply bool_iff
  constructor
  · intro h
    unfold isW at h
    rw [Bool.and_eq_true, Bool.and_eq_true] at h
    have hx := h.1.2
    have hd := isV_iff.1 h.2
    obtain ⟨ox, mx⟩ := smallS_iff.1 hx
    have k1 := hU.1 (by rw [h1, hx]; rfl)
    obtain ⟨_, k2⟩ := made_told k1 (is_told m1 mx hd)
    have k3 := hV.1 (by rw [o2, k2.told.ok]; rfl)
    have e : (fun n => fS t n || fS U n) = fS x := by rw [k2.told.set]; exact hd
    rw [e] at k3
    obtain ⟨m, q, hm, e1, e2⟩ := mx
    obtain ⟨_, k4⟩ := made_told k3 ⟨m, q, hm, by omega, by omega⟩
    rw [k4.told.ok, ox, k4.told.set, agree_eq rfl]; rfl
  · intro h
    rw [Bool.and_eq_true, Bool.and_eq_true] at h
    obtain ⟨k1, k2, m, q, k3, k4, k5⟩ := keyV h.1
    obtain ⟨m', q', k6, k7, k8⟩ := tidy_there h.2.1
    have := agree_all k3 k6 k4 k5 k7 k8 h.2.2
    unfold isW
    rw [h1, h2, k1, Bool.true_and, Bool.true_and, Bool.true_and, isV_iff, ← k2]
    exact this

set_option maxRecDepth 100000 in
set_option maxHeartbeats 2000000 in
theorem implSolveIs (s t x : ByteArray) (m : Int) (w : World) (hs : s.size ≤ 1048576) (ht : t.size ≤ 1048576) (hx : x.size ≤ 1048576) (hL : LibAt m w) :
    Calls Try.prog 27 #[.string s, .string t, .string x] w fun e w' => e = .returned (.bool (isW s t x)) ∧ Below w.heap.size w w' := by
  go_enter Try.func27, Try.ntmps27
  go_wp2_with fail
  refine (equation_any s t m _ hs ht hL).mono ?_
  rintro e w1 ⟨⟨T, R, T2, R2, rfl, _⟩, hb1⟩
  have hb1' := hb1.alloc hb1.size (.cells #[.string T, .string R, .string T2, .string R2] 83)
  have HB1 := Lib.hid hb1'
  have HL1 := Lib.hid (hL.below hb1')
  clear hb1 hb1' hL
  go_wp2_with fail
  refine (implSum s x m _ hs hx HL1.out).mono ?_
  rintro e w2 ⟨⟨U, b, rfl, hU⟩, hb2⟩
  have HB2 := Lib.hid (below_step HB1.out hb2)
  have HL2 := Lib.hid (HL1.out.below hb2)
  have HU := Lib.hid hU
  have hUs := makeIs_sizeI hU
  clear hb2 hU
  go_wp2_with fail
  refine (implEither t U m _ ht hUs HL2.out).mono ?_
  rintro e w3 ⟨⟨V, c, rfl, hV⟩, hb3⟩
  have HB3 := Lib.hid (below_step HB2.out hb3)
  have HL3 := Lib.hid (HL2.out.below hb3)
  have HV := Lib.hid hV
  have hVs := makeIs_sizeI hV
  clear hb3 hV
  cases hp : (smallS s && smallS t)
  · have HO : Hid (isW s t x = false) := Lib.hid (by unfold isW; rw [hp]; rfl)
    clear hp
    go_wp2
    go_ret
    exact ⟨ret_bool HO.out.symm, HB3.out⟩
  · rw [Bool.and_eq_true] at hp
    have HO := Lib.hid (is_same hp.1 hp.2 HU.out HV.out)
    clear hp
    cases h1 : okS V
    · have HO2 : Hid (isW s t x = false) := Lib.hid (by rw [HO.out, h1]; rfl)
      have HC := Lib.hid (fun W hL => implSame_off V x m W hVs hx hL (.inl h1))
      clear h1
      go_wp2_with fail
      refine (HC.out _ HL3.out).mono ?_
      rintro e w4 ⟨rfl, hb4⟩
      have HB4 := Lib.hid (below_step HB3.out hb4)
      clear hb4
      go_wp2
      go_ret
      exact ⟨ret_bool HO2.out.symm, HB4.out⟩
    · cases h2 : okS x
      · have HO2 : Hid (isW s t x = false) := Lib.hid (by rw [HO.out, h1, h2]; rfl)
        have HC := Lib.hid (fun W hL => implSame_off V x m W hVs hx hL (.inr h2))
        clear h1 h2
        go_wp2_with fail
        refine (HC.out _ HL3.out).mono ?_
        rintro e w4 ⟨rfl, hb4⟩
        have HB4 := Lib.hid (below_step HB3.out hb4)
        clear hb4
        go_wp2
        go_ret
        exact ⟨ret_bool HO2.out.symm, HB4.out⟩
      · have HO2 : Hid (isW s t x = agreeB (fS V) (fS x)) := Lib.hid (by rw [HO.out, h1, h2]; rfl)
        have HC := Lib.hid (fun W hL => implSame_on V x m W hVs hx hL h1 h2)
        clear h1 h2
        go_wp2_with fail
        refine (HC.out _ HL3.out).mono ?_
        rintro e w4 ⟨rfl, hb4⟩
        have HB4 := Lib.hid (below_step HB3.out hb4)
        clear hb4
        go_wp2
        go_ret
        exact ⟨ret_bool HO2.out.symm, HB4.out⟩

end Go.Proofs.Ytiphooodijbhiab
