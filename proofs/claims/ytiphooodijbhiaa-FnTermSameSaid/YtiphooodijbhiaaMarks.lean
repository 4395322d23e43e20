/-
  The walk of spec.l2Fill, which makes a set of a row of truths.
-/
import Derived.Test.YtiphooodijbhiaaDone
import Derived.Test.YtiphooodijbhiaaMarkRow
import Derived.Deep.RegionWith
namespace Go.Proofs.Ytiphooodijbhiaa
open Go.RowKit

set_option maxHeartbeats 400000 in
theorem fill_any (f : Nat → Bool) (m p cap B : Nat) (a : Option Addr) (w : World) (h : w.ownsRow B 4 1 (.slice a (m + p) cap) (m + p) ((part f 0 (m + p)).map Value.bool)) (hp : 0 < p) (hm4 : m ≤ 4000) (hp4 : p ≤ 4000)
    (hper : ∀ n, m ≤ n → f (n + p) = f n) :
    Calls Try.prog 146 #[.slice a (m + p : Nat) cap, .int .i64 m] w fun e w' => MadeEnd f e ∧ Below w.heap.size w w' := by
  obtain ⟨g, rfl⟩ : ∃ g, a = some ⟨g, 0, none⟩ := by
    rcases h.2 with ⟨_, h0⟩ | ⟨g, _, _, hv, _⟩
    · omega
    · injection hv with ha _ _; exact ⟨g, ha⟩
  have HI := fill_in h hp hm4 hp4
  have HP := hasB_part hp hper
  obtain ⟨c1, _⟩ := own_cap h
  have HK := Lib.hid (fun W' (hb : Below w.heap.size w W') => done_gen _ _ _ _ _ _ _ _ W' (HI.below hb (Nat.le_refl _)))
  rw [HP] at HK
  have b1 : (m : Int) ≤ (cap : Int) := by omega
  have b2 : (m : Int) ≤ (m : Int) + (p : Int) := by omega
  have b3 : (m : Int) + (p : Int) ≤ (cap : Int) := by omega
  have b4 : ¬ cap = m := by omega
  clear h hper HI HP
  go_enter Try.func146, Try.ntmps146
  go_wp2
  go_region_with (go_at_call 149; (with_reducible refine (HK.out _ ?_).mono ?_); exact below_drewN (Below.refl _ _) _; rintro e w3 ⟨⟨T, b, rfl, hm⟩, hb3⟩; have HM := Lib.hid hm; have HB := Lib.hid hb3; clear hm hb3)
  all_goals
    go_wp2
    go_ret2
    exact ⟨⟨T, b, rfl, HM.out⟩, below_drewN (Below.refl _ _) 1 |>.trans HB.out⟩

/-- A set of one sign in the tail, without numbers in the ring. -/
theorem done_lit (w : World) (b : Bool) (g1 g2 : Nat) (h1 : w.cell? ⟨g1, 0, none⟩ = some (.bool b)) (h2 : w.cell? ⟨g2, 0, none⟩ = some (.bool false)) :
    Calls Try.prog 149 #[.agg #[.slice (some ⟨g1, 0, none⟩) 1 1, .slice (some ⟨g2, 0, none⟩) 1 1]] w fun e w' => MadeEnd (hasB [b] [false]) e ∧ Below w.heap.size w w' := by
  refine done_gen [b] [false] (some ⟨g1, 0, none⟩) 1 1 (some ⟨g2, 0, none⟩) 1 1 w ⟨⟨rfl, .inr ⟨g1, 0, rfl, lt_of_some h1, fun i hi => ?_⟩⟩, ⟨rfl, .inr ⟨g2, 0, rfl, lt_of_some h2, fun i hi => ?_⟩⟩, Nat.le_refl _, Nat.le_refl _, by decide, by decide, by decide, by decide, by decide⟩
  · obtain rfl : i = 0 := by omega
    exact h1
  · obtain rfl : i = 0 := by omega
    exact h2
end Go.Proofs.Ytiphooodijbhiaa
