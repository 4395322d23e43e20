/-
  The walk of the exact law on TermSame, out of the walks of the program and of the model.
-/
import Derived.Test.YtcacdgojibojgabTermSetS
namespace Go.Proofs.Ytcacdgojibojgab
open Go.RowKit

set_option maxHeartbeats 400000 in
theorem lawTermSame (s : ByteArray) (_ : s.size ≤ maxLen) (t : ByteArray) (_ : t.size ≤ maxLen) (m : Int) (w : World) (hg : 0 < w.heap.size) (hm : w.cell? ⟨0, 0, none⟩ = some (.int .i64 m)) :
    Calls Try.prog 8 #[.string s, .string t] w fun e w' => e = .returned (.bool true) ∧ Below w.heap.size w w' := by
  by_cases hs : s.size ≤ 1048576
  · by_cases ht : t.size ≤ 1048576
    · have hL : LibAt m w := ⟨hg, hm⟩
      clear hg hm
      go_enter Try.func8, Try.ntmps8
      go_wp2_with fail
      refine (specTermSame s t _).mono ?_
      rintro e w1 ⟨⟨T, b, U, c, rfl, h1, h2⟩, hb1⟩
      have H1 := Lib.hid h1
      have H2 := Lib.hid h2
      obtain ⟨x, hx⟩ : ∃ x, x = (b && (c && decide (T = U))) := ⟨_, rfl⟩
      rw [← hx]
      have HX := Lib.hid hx
      clear h1 h2 hx
      go_wp2_with fail
      refine (implTermSame s t m _ (hL.below hb1)).mono ?_
      rintro e w2 ⟨⟨T', b', U', c', rfl, h1, h2⟩, hb2⟩
      obtain ⟨rfl, rfl⟩ := textOf_unique H1.out h1
      obtain ⟨rfl, rfl⟩ := textOf_unique H2.out h2
      rw [← HX.out]
      clear h1 h2 H1 H2 HX
      cases x
      all_goals
        go_wp2
        go_ret
        exact ⟨rfl, hb1.trans (hb2.mono hb1.size)⟩
    · have hd : (1048576 : Int) < (t.size : Int) := by omega
      have hd0 : (s.size : Int) ≤ 1048576 := by omega
      go_enter Try.func8, Try.ntmps8
      go_wp2
      go_ret
      exact ⟨rfl, Below.refl _ _⟩
  · have hd : (1048576 : Int) < (s.size : Int) := by omega
    go_enter Try.func8, Try.ntmps8
    go_wp2
    go_ret
    exact ⟨rfl, Below.refl _ _⟩

end Go.Proofs.Ytcacdgojibojgab
