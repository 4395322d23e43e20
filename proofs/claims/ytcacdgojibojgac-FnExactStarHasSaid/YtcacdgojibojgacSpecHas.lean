/-
  What the model's StarHas answers.
-/
import Derived.Test.YtcacdgojibojgacStarS
import Derived.Test.YtcacdgojibojgacInS
import Derived.Test.YtcacdgojibojgacHasVal
set_option linter.unusedVariables false
set_option linter.unusedSimpArgs false
namespace Go.Proofs.Ytcacdgojibojgac
open Go.RowKit

set_option maxHeartbeats 400000 in
theorem specHas_off (s : ByteArray) (n : Int) (w : World) (hs : s.size ≤ 1048576) (h : (smallS s && inR n 0 2000) = false) :
    Calls Try.prog 43 #[.string s, .int .i64 n] w fun e w' => e = .returned (.bool false) ∧ Below w.heap.size w w' := by
  have hor : smallS s = false ∨ (smallS s = true ∧ (n < 0 ∨ 2000 < n)) := by
    cases h1 : smallS s
    · exact .inl rfl
    · rw [h1, Bool.true_and] at h
      rcases inR_cases n 0 2000 with ⟨h2, _⟩ | ⟨_, h2⟩
      · rw [h2] at h; cases h
      · exact .inr ⟨rfl, h2⟩
  clear h
  go_enter Try.func43, Try.ntmps43
  go_wp2_with fail
  refine (l4Small_any s _ hs).mono ?_
  rintro e w1 ⟨a1, n1, c1, a2, n2, c2, rfl, hb, hA⟩
  have HB1 := Lib.hid (hb.alloc hb.size (.cells #[.slice a1 n1 c1, .slice a2 n2 c2] 74))
  clear hb hA
  rcases hor with h1 | ⟨h1, h2⟩
  · rw [h1]
    go_wp2
    go_ret
    exact ⟨rfl, HB1.out⟩
  · rw [h1]
    go_wp2_with fail
    refine (l6In_no n 0 2000 _ h2 (by decide)).mono ?_
    rintro e w2 ⟨rfl, rfl⟩
    clear h2
    go_wp2
    go_ret
    exact ⟨rfl, HB1.out⟩

set_option maxHeartbeats 400000 in
theorem specHas_on (s : ByteArray) (n : Nat) (w : World) (hs : s.size ≤ 1048576) (h1 : smallS s = true) (hn : n ≤ 2000) :
    Calls Try.prog 43 #[.string s, .int .i64 n] w fun e w' => e = .returned (.bool (starB (fS s) n)) ∧ Below w.heap.size w w' := by
  go_enter Try.func43, Try.ntmps43
  go_wp2_with fail
  refine (l4Small_any s _ hs).mono ?_
  rintro e w1 ⟨a1, n1, c1, a2, n2, c2, rfl, hb, hA⟩
  have HB1 := Lib.hid (hb.alloc hb.size (.cells #[.slice a1 n1 c1, .slice a2 n2 c2] 74))
  have HA := Lib.hid ((hA h1).alloc (.cells #[.slice a1 n1 c1, .slice a2 n2 c2] 74))
  clear hb hA
  rw [h1]
  go_wp2_with fail
  refine (l6In_yes n 0 2000 _ (by omega) (by omega)).mono ?_
  rintro e w2 ⟨rfl, rfl⟩
  go_wp2_with fail
  refine (l4Star_any (fS s) a1 n1 c1 a2 n2 c2 (n + 1) _ HA.out (by omega)).mono ?_
  rintro e w3 ⟨G, rfl, hG, hrow, hb3⟩
  have c0 := hrow.cell (i := n) (by omega)
  have HB3 := Lib.hid (HB1.out.trans (hb3.mono HB1.out.size))
  clear hrow hb3
  go_wp2
  go_ret
  exact ⟨rfl, HB3.out⟩

theorem specHas (s : ByteArray) (n : Int) (w : World) (hs : s.size ≤ 1048576) :
    Calls Try.prog 43 #[.string s, .int .i64 n] w fun e w' => e = .returned (.bool (starHasV s n)) ∧ Below w.heap.size w w' := by
  cases h : (smallS s && inR n 0 2000)
  · rw [starHas_off h]; exact specHas_off s n w hs h
  · have h' := h
    rw [Bool.and_eq_true] at h
    rcases inR_cases n 0 2000 with ⟨_, k1, k2⟩ | ⟨h3, _⟩
    · obtain ⟨n, rfl⟩ := Int.eq_ofNat_of_zero_le (show 0 ≤ n by omega)
      have := specHas_on s n w hs h.1 (by omega)
      unfold starHasV
      rw [h', Bool.true_and]; exact this
    · rw [h.2] at h3; cases h3

end Go.Proofs.Ytcacdgojibojgac
