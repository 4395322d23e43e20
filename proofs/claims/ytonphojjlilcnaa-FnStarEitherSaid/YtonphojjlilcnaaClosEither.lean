/-
  The function that MakeEither hands joined.
-/
import Derived.Test.YtonphojjlilcnaaClosJ
namespace Go.Proofs.Ytonphojjlilcnaa
open Go.RowKit

theorem pair_either : PairGives 70 (fun x y => x || y) := by
  refine ⟨enters_of Try.func70 (by kernel_rfl) rfl, fun W x y => ?_⟩
  show Calls Try.prog 70 #[.bool x, .bool y] W _
  cases x <;> cases y <;>
    (go_enter Try.func70, Try.ntmps70
     go_wp2
     go_ret
     exact ⟨rfl, Below.refl _ _⟩)

end Go.Proofs.Ytonphojjlilcnaa
