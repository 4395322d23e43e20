/-
  The walk of the exact laws' own helper eqIntS.
-/
import Derived.Test.YtiphooodijbhiabInts
import Derived.Lib.MinMax
import Derived.Test.YtiphooodijbhiabIsRow
namespace Go.Proofs.Ytiphooodijbhiab
open Go.RowKit

set_option maxHeartbeats 400000 in
theorem eqIntS_same (a1 a2 : Option Addr) (n c1 c2 : Nat) (zs : List Int) (w : World) (h1 : ReadsI w a1 n zs) (h2 : ReadsI w a2 n zs) (hn : n ≤ 1048576) :
    Calls Try.prog 90 #[.slice a1 n c1, .slice a2 n c2] w fun e w' => e = .returned (.bool true) ∧ ∃ nd, w' = w.drewN nd := by
  have H1 := Lib.hid h1
  have H2 := Lib.hid h2
  clear h1 h2
  go_enter Try.func90, Try.ntmps90
  go_wp2
  go_loopw [5] (fun i wr => ∃ k : Nat, k ≤ n ∧ i = .int .i64 k ∧ ∃ nd, wr = w.drewN nd) (fun i _ => n - (intOf i).toNat)
  case atStart => exact ⟨0, Nat.zero_le _, rfl, 0, rfl⟩
  case round =>
    obtain ⟨k, hk, rfl, nd, rfl⟩ := hrel
    by_cases hlt : k < n
    · rcases H1.out.cells with h | ⟨g1, o1, rfl, hg1, hc1⟩
      · omega
      rcases H2.out.cells with h | ⟨g2, o2, rfl, hg2, hc2⟩
      · omega
      have q1 := hc1 k hlt
      have q2 := hc2 k hlt
      clear hc1 hc2
      have b1 : (k : Int) < (n : Int) := by omega
      have b2 : (0 : Int) ≤ (k : Int) := by omega
      go_wp2
      go_quiet (fail)
      go_wp2
      go_roundw
      case rel => exact ⟨k + 1, by omega, by go_num, _, rfl⟩
      case measure => simp [intOf]; omega
    · go_wp2
      go_ret
      exact ⟨rfl, nd, rfl⟩

end Go.Proofs.Ytiphooodijbhiab
