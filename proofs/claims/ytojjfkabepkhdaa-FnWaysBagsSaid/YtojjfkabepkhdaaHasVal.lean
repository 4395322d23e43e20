/-
  What StarHas answers: plain facts.
-/
import Derived.Test.YtojjfkabepkhdaaStarRound
set_option linter.unusedVariables false
namespace Go.Proofs.Ytojjfkabepkhdaa

/-- What StarHas answers. -/
noncomputable def starHasV (s : ByteArray) (n : Int) : Bool := (smallS s && inR n 0 2000) && starB (fS s) n.toNat
theorem starHas_off {s : ByteArray} {n : Int} (h : (smallS s && inR n 0 2000) = false) : starHasV s n = false := by unfold starHasV; rw [h]; rfl

end Go.Proofs.Ytojjfkabepkhdaa
