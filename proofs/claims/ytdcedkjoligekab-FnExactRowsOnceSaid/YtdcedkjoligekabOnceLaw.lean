/-
  RowsOnce of both sides, told by one truth.
-/
import Derived.Test.YtdcedkjoligekabOnceSpec
import Derived.Test.YtdcedkjoligekabOnceSmall
namespace Go.Proofs.Ytdcedkjoligekab
open Go.RowKit
set_option linter.unusedVariables false
set_option linter.unusedSimpArgs false

theorem once_short {rs : List (List Int)} (h : OnceIs rs) : shortB rs = true := by
  obtain ⟨hg, ho⟩ := h
  have hf := goodRows_fits hg
  have hgo := going_ok hf.2
  have hl : (going (theRows rs)).length ≤ 20 := by
    unfold going
    rw [List.length_map]
    exact Nat.le_trans (List.length_filter_le _ _) hf.1
  have hs := once_small hgo ho hl
  have hd : lcmAll (theRows rs) ∣ lcmAll (going (theRows rs)) := lcmAll_least fun r hr h0 => by
    have hm : r.early ∈ going (theRows rs) := by
      unfold going
      exact List.mem_map.2 ⟨r, List.mem_filter.2 ⟨hr, decide_eq_true h0⟩, rfl⟩
    exact step_dvd (r := r.early) hm h0
  unfold shortB
  rw [hg, Bool.true_and]
  exact decide_eq_true (Nat.le_trans (Nat.le_of_dvd (lcmAll_pos _) hd) hs)
noncomputable def onceV (rs : List (List Int)) : Bool := @decide (OnceIs rs) (Classical.propDecidable _)
theorem onceV_iff (rs : List (List Int)) : onceV rs = true ↔ OnceIs rs := ⟨fun h => @of_decide_eq_true _ (Classical.propDecidable _) h, fun h => @decide_eq_true _ (Classical.propDecidable _) h⟩
theorem implRowsOnce (a : Option Addr) (n c : Nat) (rs : List (List Int)) (w : World) (h : ReadsR w a n rs) (hn : n ≤ 1048576) (hs : Short rs) :
    Calls Try.prog 19 #[.slice a n c] w fun e w' => e = .returned (.bool (onceV rs)) ∧ Below w.heap.size w w' := by
  refine (implOnce a n c rs w h hn hs).mono ?_
  rintro e w' ⟨b, rfl, hb, hbl⟩
  exact ⟨by rw [truth_one hb (onceV_iff rs)], hbl⟩
theorem specRowsOnce (a : Option Addr) (n c : Nat) (rs : List (List Int)) (w : World) (h : ReadsR w a n rs) (hn : n ≤ 1048576) (hs : Short rs) :
    Calls Try.prog 18 #[.slice a n c] w fun e w' => e = .returned (.bool (onceV rs)) ∧ Below w.heap.size w w' := by
  refine (specOnce a n c rs w h hn hs).mono ?_
  rintro e w' ⟨b, rfl, hb, hbl⟩
  have hb2 : b = true ↔ OnceIs rs := hb.trans ⟨fun k => k.2, fun k => ⟨once_short k, k⟩⟩
  exact ⟨by rw [truth_one hb2 (onceV_iff rs)], hbl⟩

end Go.Proofs.Ytdcedkjoligekab
