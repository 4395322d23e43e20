/-
  The walk of the law FnSetSizes.
-/
import Derived.Test.YtndpkmgjmpfgdaaTidyOf
import Derived.Test.YtndpkmgjmpfgdaaDrawS1
import Derived.Test.YtndpkmgjmpfgdaaRowBytes

namespace Go.Proofs.Ytndpkmgjmpfgdaa
open Go.RowKit

theorem specSizes_is (s : ByteArray) (p q : Nat) (w : World) (hs : s.size ≤ 1048576) (h : okS s = true) (hz : SizesOf s p q) :
    Calls Try.prog 32 #[.string s] w fun e w' => e = .returned (.tuple #[.int .i64 p, .int .i64 q, .bool true]) ∧ Below w.heap.size w w' := by
  refine (specSizes_on s w hs h).mono ?_
  rintro e w' ⟨p', q', rfl, hz', hb⟩
  obtain ⟨rfl, rfl⟩ := tidy_unique hz.1 hz'.1
  exact ⟨rfl, hb⟩

set_option maxRecDepth 100000 in
set_option maxHeartbeats 4000000 in
theorem pSetSizes (a : Option Addr) (n c : Nat) (zs : List Int) (w : World) (hr : IsRow .u8 w a n c zs) (m : Int) (hg : 0 < w.heap.size) (hm : w.cell? ⟨0, 0, none⟩ = some (.int .i64 m)) :
    Calls Try.prog 8 #[.slice a n c] w fun e w' => e = .returned (.bool true) ∧ Below w.heap.size w w' := by
  by_cases hn : n ≤ 1048576
  · have hL : LibAt m w := ⟨hg, hm⟩
    clear hg hm
    have hB := Lib.hid hr.bytes
    have hC := Lib.hid hr.cap
    clear hr
    go_enter Try.func8, Try.ntmps8
    go_wp2_with fail
    refine (drawSetSizes a n c _ hB.out hn hC.out).mono ?_
    rintro e w1 ⟨s, rfl, hs, hb1⟩
    have hL1 := hL.below hb1
    obtain ⟨T, hT⟩ := tidyOf_there s
    have HT := Lib.hid hT
    clear hT
    cases hok : okS s
    · go_wp2_with fail
      refine (implSizes_off s m _ (by omega) hL1 hok).mono ?_
      rintro e w2 ⟨rfl, hx2⟩
      have hb2 := below_step hb1 hx2
      have hL2 := hL1.below hx2
      clear hx2
      go_wp2_with fail
      refine (specSizes_off s _ (by omega) hok).mono ?_
      rintro e w3 ⟨rfl, hx3⟩
      have hb3 := below_step hb2 hx3
      have hL3 := hL2.below hx3
      clear hx3
      go_wp2
      go_ret
      exact ⟨rfl, hb3⟩
    · obtain ⟨p, q, ht, hp, hq⟩ := tidy_there hok
      have HS : Hid (SizesOf s p q) := Lib.hid ⟨ht, hp, hq⟩
      obtain ⟨_, _, p', q', ht', hz⟩ := (HT.out.on hok).told
      obtain ⟨rfl, rfl⟩ := tidy_unique ht ht'
      have hz' : (T.size : Int) = (p : Int) + (q : Int) + 2 := by omega
      have hq1 : (1 : Int) ≤ (q : Int) := by have := ht.pos; omega
      clear ht ht' hz
      go_wp2_with fail
      refine (implSizes_on s p q m _ (by omega) hL1 hok HS.out).mono ?_
      rintro e w2 ⟨rfl, hx2⟩
      have hb2 := below_step hb1 hx2
      have hL2 := hL1.below hx2
      clear hx2
      go_wp2_with fail
      refine (specSizes_is s p q _ (by omega) hok HS.out).mono ?_
      rintro e w3 ⟨rfl, hx3⟩
      have hb3 := below_step hb2 hx3
      have hL3 := hL2.below hx3
      clear hx3
      go_wp2_with fail
      refine (implTidy s T m _ (by omega) hL3 HT.out).mono ?_
      rintro e w4 ⟨rfl, hx4⟩
      have hb4 := below_step hb3 hx4
      have hL4 := hL3.below hx4
      clear hx4
      go_wp2
      go_ret
      exact ⟨rfl, hb4⟩
  · have hd : (1048576 : Int) < (n : Int) := by omega
    go_enter Try.func8, Try.ntmps8
    go_wp2
    go_ret
    exact ⟨rfl, Below.refl _ _⟩
end Go.Proofs.Ytndpkmgjmpfgdaa
