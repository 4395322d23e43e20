/-
  The walk of spec.DrawRowsMeet: two rows.
-/
import Derived.Test.YtdcedkjoligekaaDrawRows
namespace Go.Proofs.Ytdcedkjoligekaa
open Go.RowKit
set_option linter.unusedVariables false

def TwoRows (w : World) (e : Ending) (w' : World) : Prop :=
  ∃ g1 g2 b s p q : Nat, e = .returned (.tuple #[.slice (some ⟨g1, 0, none⟩) 2 2, .slice (some ⟨g2, 0, none⟩) 2 2]) ∧ b ≤ 8 ∧ s ≤ 12 ∧ p ≤ 8 ∧ q ≤ 12 ∧
    ReadsI w' (some ⟨g1, 0, none⟩) 2 [(b : Int), (s : Int)] ∧ ReadsI w' (some ⟨g2, 0, none⟩) 2 [(p : Int), (q : Int)] ∧ Below w.heap.size w w'

theorem drawRowsMeet (a : Option Addr) (n c : Nat) (w : World) (h : Bytes w a n) (hn : n ≤ 1048576) (hc : n ≤ c) :
    Calls Try.prog 31 #[.slice a n c] w (TwoRows w) := by
  have HO := Lib.hid (open_rd a n c w h hn hc)
  clear h
  go_enter Try.func31, Try.ntmps31
  go_wp2_with fail
  refine HO.out.mono ?_
  rintro e w1 ⟨n', rfl, hrd, hap⟩
  have HD := Lib.hid (drawRow hrd (by omega))
  have HA := Lib.hid hap
  have hR1 := hrd.lt
  clear hrd hap
  go_wp2_with fail
  refine HD.out.mono ?_
  rintro e w2 ⟨b, s, g1, rfl, hb, hs, _, hrd2, hap2, hge, hown⟩
  have HD2 := Lib.hid (drawRow hrd2 (by omega))
  have HA2 := Lib.hid (HA.out.trans hap2)
  have HO2 := Lib.hid hown
  clear hrd2 hap2 hown
  go_wp2_with fail
  refine HD2.out.mono ?_
  rintro e w3 ⟨p, q, g2, rfl, hp, hq, _, hrd3, hap3, hge3, hown3⟩
  have HA3 := Lib.hid (HA2.out.trans hap3)
  have HO3 := Lib.hid (own_apart HO2.out hap3 hR1)
  have HO4 := Lib.hid hown3
  clear hrd3 hap3 hown3
  go_wp2
  go_ret2
  exact ⟨g1, g2, b, s, p, q, rfl, hb, hs, hp, hq, readsI_own HO3.out, readsI_own HO4.out, HA3.out.below⟩
end Go.Proofs.Ytdcedkjoligekaa
