/-
  The walks of the drawing of what chapter 6's functions are asked. What the walks of chapter 6's promises share.
-/
import Derived.Test.YtiphooodijbhiaaDrawMach
import Derived.Test.YtiphooodijbhiaaRowBytes
import Derived.Test.YtiphooodijbhiaaSameInts
set_option linter.unusedVariables false
set_option linter.unusedSimpArgs false
namespace Go.Proofs.Ytiphooodijbhiaa
open Go.RowKit

theorem bytes_alloc {w : World} {a : Option Addr} {n : Nat} (h : Bytes w a n) (o : Obj) : Bytes (w.alloc o) a n := by
  rcases h with h | ⟨g, o', ha, hg, hc⟩
  · exact .inl h
  · refine .inr ⟨g, o', ha, by simp; omega, fun i hi => ?_⟩
    obtain ⟨z, hz, hz2⟩ := hc i hi
    exact ⟨z, (Below.cell (p := ⟨g, o' + i, none⟩) ((Below.refl w.heap.size w).alloc (Nat.le_refl _) o) hg).trans hz, hz2⟩
def MachPicked (w : World) (e1 : Ending) (w' : World) : Prop :=
  ∃ a' m c' zs x y, e1 = .returned (.agg #[.slice a' m c', .int .i64 x, .int .i64 y]) ∧ ReadsI w' a' m zs ∧ m ≤ 12 ∧ Below w.heap.size w w'

set_option maxRecDepth 100000 in
set_option maxHeartbeats 2000000 in
theorem sameMachine_same (a1 a2 : Option Addr) (n c1 c2 : Nat) (zs : List Int) (b e : Int) (w : World) (h1 : ReadsI w a1 n zs) (h2 : ReadsI w a2 n zs) (hn : n ≤ 1048576) :
    Calls Try.prog 24 #[.agg #[.slice a1 n c1, .int .i64 b, .int .i64 e], .agg #[.slice a2 n c2, .int .i64 b, .int .i64 e]] w fun e1 w' => e1 = .returned (.bool true) ∧ Below w.heap.size w w' := by
  have H : ∀ o1 o2, Hid (Calls Try.prog 46 #[.slice a1 n c1, .slice a2 n c2] ((w.alloc o1).alloc o2) fun e w' => e = .returned (.bool true) ∧ ∃ nd, w' = ((w.alloc o1).alloc o2).drewN nd) := fun o1 o2 =>
    Lib.hid (sameInts_same a1 a2 n c1 c2 zs _ ((h1.alloc _).alloc _) ((h2.alloc _).alloc _) hn)
  clear h1 h2
  go_enter Try.func24, Try.ntmps24
  go_wp2_with fail
  refine (H _ _).out.mono ?_
  rintro e1 w1 ⟨rfl, nd, rfl⟩
  go_wp2
  go_ret
  exact ⟨rfl, below_drewN (((Below.refl _ _).alloc (Nat.le_refl _) _).alloc (by simp) _) _⟩

end Go.Proofs.Ytiphooodijbhiaa
