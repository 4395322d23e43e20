/-
  The walks of impl.starText, of StarOf and of StarPlus, of the program.
-/
import Derived.Test.YtiphooodijbhiaaStarOfI
import Derived.Deep.RegionWith
import Derived.Deep.RegionLaw
set_option linter.unusedVariables false
set_option linter.unusedSimpArgs false
namespace Go.Proofs.Ytiphooodijbhiaa
open Go.RowKit

/-- A star, 0 being in it as z tells. -/
noncomputable def zeroAs (z : Bool) (f : Nat → Bool) (n : Nat) : Bool := if n = 0 then z else starB f n
theorem zeroAs_true (f : Nat → Bool) : zeroAs true f = starB f := by
  funext n
  unfold zeroAs
  by_cases h : n = 0
  · rw [if_pos h, h, starB_zero]
  · rw [if_neg h]
theorem zeroAs_plus (f : Nat → Bool) : zeroAs (f 0) f = plusF f := rfl
theorem starRow_at (f : Nat → Bool) (n : Nat) (h : n < 2001) : starRow f 2001 (2001 + n) = starB f n := by
  unfold starRow behind
  rw [decide_eq_true (by omega), Bool.true_and, show 2001 + n - 2001 = n from by omega, starB_less h]
theorem zeroAs_row (f : Nat → Bool) (z : Bool) (n : Nat) (h : n < 2001) : put (starRow f 2001) 2001 z (2001 + n) = zeroAs z f n := by
  unfold put zeroAs
  by_cases e : n = 0
  · rw [if_pos (by omega), if_pos e]
  · rw [if_neg (by omega), if_neg e, starRow_at f n h]
theorem zeroAs_per {f : Nat → Bool} (z : Bool) {r : Nat} (h : ∀ n, 1792 ≤ n → starB f (n + r) = starB f n) (n : Nat) (hn : 1792 ≤ n) : zeroAs z f (n + r) = zeroAs z f n := by
  unfold zeroAs
  rw [if_neg (by omega), if_neg (by omega), h n hn]

/-- The star's rows, behind the write of 0. -/
theorem starZero {f : Nat → Bool} {G : Nat} {w : World} (z : Bool) (h : BRow w G 4002 (starRow f 2001)) :
    w.cell? ⟨G, 2001, none⟩ = some (.bool (starRow f 2001 2001)) ∧ w.frozen? ⟨G, 2001, none⟩ = false ∧ BRow (w.setCell ⟨G, 2001, none⟩ (.bool z)) G 4002 (put (starRow f 2001) 2001 z) :=
  ⟨h.cell (by decide), h.free _, h.put 2001 z⟩

set_option maxRecDepth 100000 in
set_option maxHeartbeats 1000000 in
theorem starText_any (f : Nat → Bool) (T R : ByteArray) (z : Bool) (m : Int) (w : World) (h : SmallParts f T R) (hL : LibAt m w) :
    Calls Try.prog 184 #[.agg #[.string T, .string R], .bool z] w fun e w' => MakeEnd true (zeroAs z f) e ∧ Below w.heap.size w w' := by
  have HB0 := Lib.hid ((Below.refl w.heap.size w).alloc (Nat.le_refl _) (.cells #[.string T, .string R] 84))
  have HL := Lib.hid hL
  have H := Lib.hid h
  clear h hL
  go_enter Try.func184, Try.ntmps184
  go_wp2_with fail
  refine (starOf_any f T R _ H.out.parts).mono ?_
  rintro e w1 ⟨G, a, c, rfl, hrow, hown, hG, hb⟩
  obtain ⟨c1, c2, c3⟩ := starZero z hrow
  have HB1 := Lib.hid (HB0.out.trans (hb.mono HB0.out.size))
  have hG1 := hrow.lt
  simp at hG
  have HBS := Lib.hid (HB1.out.setCell (p := ⟨G, 2001, none⟩) (by show w.heap.size ≤ G; omega) (.bool z))
  have HR := Lib.hid c3
  have hrd := readsI_own hown
  clear hb hown hrow c3
  cases hp : parts f 2001 with
  | nil =>
    have hl : (partsI f 2001).length = 0 := by unfold partsI; rw [hp]; rfl
    have HP : Hid (∀ n, 1792 ≤ n → zeroAs z f (n + 1) = zeroAs z f n) := Lib.hid (zeroAs_per z (fun n hn => by
      rcases least_or f with ⟨k, hk⟩ | hno
      · obtain ⟨l, hl⟩ := parts_some H.out.small hk (k := 2001) (by decide)
        rw [hp] at hl; cases hl
      · rw [star_none hno]; unfold zeroOnly; rw [decide_eq_false (by omega), decide_eq_false (by omega)]))
    rw [hl]
    clear hp hl hrd
    go_wp2_with fail
    refine (numText_at G 2001 4002 2001 _ (zeroAs z f) 1792 1 m _ HR.out (by decide) (by decide) (fun n hn => zeroAs_row f z n hn) (by decide) (by decide) (by decide) (by decide) HP.out (HL.out.below HBS.out)).mono ?_
    rintro e w9 ⟨⟨U, b, rfl, hm⟩, hb9⟩
    have HM := Lib.hid hm
    have HB9 := Lib.hid (HBS.out.trans (hb9.mono HBS.out.size))
    clear hm hb9
    go_wp2
    go_ret2
    exact ⟨⟨U, b, rfl, HM.out⟩, HB9.out⟩
  | cons p l =>
    have hlp := parts_head H.out.small (k := 2001) (by decide) hp
    have hp15 := hlp.small H.out.small
    have hp0 := hlp.pos
    obtain ⟨q, hq⟩ : ∃ q, (partsI f 2001).length = q + 1 := ⟨l.length, by unfold partsI; rw [hp]; simp⟩
    have hget : (partsI f 2001).getD 0 0 = (p : Int) := by unfold partsI; rw [hp]; rfl
    have HP : Hid (∀ n, 1792 ≤ n → zeroAs z f (n + p) = zeroAs z f n) := Lib.hid (zeroAs_per z (hlp.star H.out.small))
    obtain ⟨g, o, rfl, _, hc⟩ := hrd.cells.resolve_left (by omega)
    have hc0 := hc 0 (by omega)
    rw [hget, Nat.add_zero] at hc0
    have hq2 : q ≤ 2001 := by have := partsI_len f 2001; omega
    rw [hq]
    clear hp hlp hq hget hc hrd
    go_wp2_with fail
    refine (numText_at G 2001 4002 2001 _ (zeroAs z f) 1792 p m _ HR.out (by decide) (by decide) (fun n hn => zeroAs_row f z n hn) (by omega) hp0 (by decide) (by omega) HP.out (HL.out.below HBS.out)).mono ?_
    rintro e w9 ⟨⟨U, b, rfl, hm⟩, hb9⟩
    have HM := Lib.hid hm
    have HB9 := Lib.hid (HBS.out.trans (hb9.mono HBS.out.size))
    clear hm hb9
    go_wp2
    go_ret2
    exact ⟨⟨U, b, rfl, HM.out⟩, HB9.out⟩

set_option maxHeartbeats 400000 in
theorem implStar (s : ByteArray) (m : Int) (w : World) (hs : s.size ≤ 1048576) (hL : LibAt m w) :
    Calls Try.prog 178 #[.string s] w fun e w' => MakeEnd (smallS s) (starB (fS s)) e ∧ Below w.heap.size w w' := by
  have HL := Lib.hid hL
  clear hL
  go_enter Try.func178, Try.ntmps178
  go_wp2_with fail
  refine (smallSet_any s m _ hs HL.out).mono ?_
  rintro e w1 ⟨⟨T, R, rfl, hsp⟩, hb⟩
  have HB1 := Lib.hid (hb.alloc hb.size (.cells #[.string T, .string R] 84))
  cases h1 : smallS s
  · have HOK := Lib.hid h1
    clear hsp hb h1
    go_wp2
    go_ret2
    exact ⟨makeEnd_off HOK.out, HB1.out⟩
  · have HOK := Lib.hid h1
    have HSP := Lib.hid (hsp h1)
    clear hsp hb h1
    go_wp2_with fail
    refine (starText_any (fS s) T R true m _ HSP.out (HL.out.below HB1.out)).mono ?_
    rintro e w2 ⟨⟨U, b, rfl, hm⟩, hb2⟩
    rw [zeroAs_true] at hm
    have HM := Lib.hid hm
    have HB2 := Lib.hid (HB1.out.trans (hb2.mono HB1.out.size))
    clear hm hb2
    go_wp2
    go_ret2
    rw [HOK.out]
    exact ⟨⟨U, b, rfl, HM.out⟩, HB2.out⟩

end Go.Proofs.Ytiphooodijbhiaa
