/-
  The walk of the exact law on SolveHas, out of the walks of the program and of the model.
-/
import Derived.Test.YtiphooodijbhiabSpecHasLow
import Derived.Test.YtiphooodijbhiabHasLowI
namespace Go.Proofs.Ytiphooodijbhiab
open Go.RowKit

set_option maxHeartbeats 400000 in
theorem lawSolveHas (s : ByteArray) (_ : s.size ≤ maxLen) (t : ByteArray) (_ : t.size ≤ maxLen) (n : Int) (_ : (Lit.int .i64 n).wf = true) (m : Int) (w : World) (hg : 0 < w.heap.size) (hm : w.cell? ⟨0, 0, none⟩ = some (.int .i64 m)) :
    Calls Try.prog 14 #[.string s, .string t, .int .i64 n] w fun e w' => e = .returned (.bool true) ∧ Below w.heap.size w w' := by
  by_cases hs : s.size ≤ 1048576
  · by_cases ht : t.size ≤ 1048576
    · have hL : LibAt m w := ⟨hg, hm⟩
      clear hg hm
      have HS := Lib.hid (specSolveHas s t n w hs ht)
      have HI := Lib.hid (fun w1 hb1 => implSolveHas s t n m w1 hs ht (hL.below hb1))
      obtain ⟨b, hb⟩ : ∃ b, b = hasW s t n := ⟨_, rfl⟩
      rw [← hb] at HS HI
      clear hb
      go_enter Try.func14, Try.ntmps14
      go_wp2_with fail
      refine HS.out.mono ?_
      rintro e w1 ⟨rfl, hb1⟩
      go_wp2_with fail
      refine (HI.out _ hb1).mono ?_
      rintro e w2 ⟨rfl, hb2⟩
      cases b
      all_goals
        go_wp2
        go_ret
        exact ⟨rfl, hb1.trans (hb2.mono hb1.size)⟩
    · have hd : (1048576 : Int) < (t.size : Int) := by omega
      have hd0 : (s.size : Int) ≤ 1048576 := by omega
      go_enter Try.func14, Try.ntmps14
      go_wp2
      go_ret
      exact ⟨rfl, Below.refl _ _⟩
  · have hd : (1048576 : Int) < (s.size : Int) := by omega
    go_enter Try.func14, Try.ntmps14
    go_wp2
    go_ret
    exact ⟨rfl, Below.refl _ _⟩

end Go.Proofs.Ytiphooodijbhiab
