/-
  What the model's WaysPart answers.
-/
import Derived.Test.YtojjfkabepkhdaaWayPartS
set_option linter.unusedVariables false
set_option linter.unusedSimpArgs false
namespace Go.Proofs.Ytojjfkabepkhdaa
open Go.RowKit

set_option maxRecDepth 100000 in
set_option maxHeartbeats 2000000 in
theorem specWaysPart (s : ByteArray) (n k : Int) (w : World) (hs : s.size ≤ 1048576) :
    Calls Try.prog 35 #[.string s, .int .i64 n, .int .i64 k] w fun e w' => TellsPart s n k e ∧ Below w.heap.size w w' := by
  cases h : okW s n 40
  · have HO := Lib.hid (tellsPart_off (s := s) (n := n) (k := k) (by unfold partOk; rw [h]; rfl))
    unfold okW at h
    go_enter Try.func35, Try.ntmps35
    go_wp2_with fail
    refine (given9_any s n 40 _ hs (by decide)).mono ?_
    rintro e w1 ⟨⟨a1, n1, c1, a2, n2, c2, rfl, hsp⟩, hb⟩
    have HB1 := Lib.hid (hb.alloc hb.size (.cells #[.slice a1 n1 c1, .slice a2 n2 c2] 48))
    rw [h]
    clear hsp hb h
    go_wp2
    go_ret2
    exact ⟨HO.out, HB1.out⟩
  · cases hk2 : inR k 0 40
    · have HO := Lib.hid (tellsPart_off (s := s) (n := n) (k := k) (by unfold partOk; rw [h, hk2]; rfl))
      unfold okW at h
      have HIN : Hid (∀ W, Calls Try.prog 59 #[.int .i64 k, .int .i64 0, .int .i64 40] W fun e w' => e = .returned (.bool false) ∧ w' = W) := Lib.hid (fun W => by rw [← hk2]; exact in_is k 0 40 (by decide) W)
      clear hk2
      go_enter Try.func35, Try.ntmps35
      go_wp2_with fail
      refine (given9_any s n 40 _ hs (by decide)).mono ?_
      rintro e w1 ⟨⟨a1, n1, c1, a2, n2, c2, rfl, hsp⟩, hb⟩
      have HB1 := Lib.hid (hb.alloc hb.size (.cells #[.slice a1 n1 c1, .slice a2 n2 c2] 48))
      rw [h]
      clear hsp hb h
      go_wp2_with fail
      refine (HIN.out _).mono ?_
      rintro e w2 ⟨rfl, rfl⟩
      go_wp2
      go_ret2
      exact ⟨HO.out, HB1.out⟩
    · obtain ⟨h1, n, rfl, hn⟩ := okW_nat h
      obtain ⟨k, rfl⟩ : ∃ j : Nat, k = j := by
        rcases inR_cases k 0 40 with ⟨_, a, b⟩ | ⟨a, _⟩
        · exact ⟨k.toNat, by omega⟩
        · rw [hk2] at a; cases a
      have hk40 : k ≤ 40 := by
        rcases inR_cases (k : Int) 0 40 with ⟨_, a, b⟩ | ⟨a, _⟩
        · omega
        · rw [hk2] at a; cases a
      have HO := Lib.hid (fun v hv => tellsPart_on (s := s) (n := n) (k := k) (v := v) (by unfold partOk; rw [h, hk2]; rfl) hv)
      unfold okW at h
      have HIN : Hid (∀ W, Calls Try.prog 59 #[.int .i64 k, .int .i64 0, .int .i64 40] W fun e w' => e = .returned (.bool true) ∧ w' = W) := Lib.hid (fun W => by rw [← hk2]; exact in_is k 0 40 (by decide) W)
      clear hk2
      go_enter Try.func35, Try.ntmps35
      go_wp2_with fail
      refine (given9_any s n 40 _ hs (by decide)).mono ?_
      rintro e w1 ⟨⟨a1, n1, c1, a2, n2, c2, rfl, hsp⟩, hb⟩
      have HB1 := Lib.hid (hb.alloc hb.size (.cells #[.slice a1 n1 c1, .slice a2 n2 c2] 48))
      have HSP := Lib.hid ((hsp h1).alloc (.cells #[.slice a1 n1 c1, .slice a2 n2 c2] 48))
      rw [h]
      clear hsp hb h h1
      go_wp2_with fail
      refine (HIN.out _).mono ?_
      rintro e w2 ⟨rfl, rfl⟩
      go_wp2_with fail
      refine (l9Parts_any (fS s) a1 n1 c1 a2 n2 c2 n _ HSP.out (by omega)).mono ?_
      rintro e w3 ⟨a, c, rfl, hr, hb2⟩
      have hki : (k : Int) < 41 := by omega
      obtain ⟨b, o, rfl, hbl, c0⟩ := hr.at (i := k) (by omega)
      have HB2 := Lib.hid (HB1.out.trans (hb2.mono HB1.out.size))
      have HV := Lib.hid (HO.out (partsI (fS s) n k) rfl)
      clear hr hb2
      go_wp2
      go_ret2
      exact ⟨HV.out, HB2.out⟩

end Go.Proofs.Ytojjfkabepkhdaa
