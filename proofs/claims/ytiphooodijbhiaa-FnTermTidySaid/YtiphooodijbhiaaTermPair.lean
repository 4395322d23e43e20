/-
  What two terms with a sign between them become, case by case: plain facts.
-/
import Derived.Test.YtiphooodijbhiaaTermSem
set_option linter.unusedVariables false
set_option linter.unusedSimpArgs false
namespace Go.Proofs.Ytiphooodijbhiaa

theorem tidyPair_43a (a b : Tm) (hx : tmText a = [48]) : tidyPair a 43 b = b := by
  unfold tidyPair
  simp [hx]
theorem tidyPair_43b (a b : Tm) (hx : ¬ tmText a = [48]) (hy : tmText b = [48]) : tidyPair a 43 b = a := by
  unfold tidyPair
  simp [hx, hy]
theorem tidyPair_43c (a b : Tm) (hx : ¬ tmText a = [48]) (hy : ¬ tmText b = [48]) (hz : tmText a = tmText b) : tidyPair a 43 b = a := by
  unfold tidyPair
  simp [hx, hy, hz]
theorem tidyPair_43d (a b : Tm) (hx : ¬ tmText a = [48]) (hy : ¬ tmText b = [48]) (hz : ¬ tmText a = tmText b) : tidyPair a 43 b = .pair a 43 b := by
  unfold tidyPair
  simp [hx, hy, hz]
theorem tidyPair_46a (a b : Tm) (hx : tmText a = [48]) : tidyPair a 46 b = .sign 48 := by
  unfold tidyPair
  simp [hx]
theorem tidyPair_46b (a b : Tm) (hx : ¬ tmText a = [48]) (hy : tmText b = [48]) : tidyPair a 46 b = .sign 48 := by
  unfold tidyPair
  simp [hx, hy]
theorem tidyPair_46c (a b : Tm) (hx : ¬ tmText a = [48]) (hy : ¬ tmText b = [48]) (hu : tmText a = [49]) : tidyPair a 46 b = b := by
  unfold tidyPair
  simp [hx, hy, hu]
theorem tidyPair_46d (a b : Tm) (hx : ¬ tmText a = [48]) (hy : ¬ tmText b = [48]) (hu : ¬ tmText a = [49]) (hv : tmText b = [49]) : tidyPair a 46 b = a := by
  unfold tidyPair
  simp [hx, hy, hu, hv]
theorem tidyPair_46e (a b : Tm) (hx : ¬ tmText a = [48]) (hy : ¬ tmText b = [48]) (hu : ¬ tmText a = [49]) (hv : ¬ tmText b = [49]) : tidyPair a 46 b = .pair a 46 b := by
  unfold tidyPair
  simp [hx, hy, hu, hv]
theorem tidyPair_38a (a b : Tm) (hx : tmText a = [48]) : tidyPair a 38 b = .sign 48 := by
  unfold tidyPair
  simp [hx]
theorem tidyPair_38b (a b : Tm) (hx : ¬ tmText a = [48]) (hy : tmText b = [48]) : tidyPair a 38 b = .sign 48 := by
  unfold tidyPair
  simp [hx, hy]
theorem tidyPair_38c (a b : Tm) (hx : ¬ tmText a = [48]) (hy : ¬ tmText b = [48]) (hz : tmText a = tmText b) : tidyPair a 38 b = a := by
  unfold tidyPair
  simp [hx, hy, hz]
theorem tidyPair_38d (a b : Tm) (hx : ¬ tmText a = [48]) (hy : ¬ tmText b = [48]) (hz : ¬ tmText a = tmText b) : tidyPair a 38 b = .pair a 38 b := by
  unfold tidyPair
  simp [hx, hy, hz]

end Go.Proofs.Ytiphooodijbhiaa
