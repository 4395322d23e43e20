/-
  The walks of RowsCover and RowsOnce, of the program.
-/
import Derived.Test.YtdcedkjoligekaaOnceI
namespace Go.Proofs.Ytdcedkjoligekaa
open Go.RowKit
set_option linter.unusedVariables false

/-- What RowsCover and RowsOnce ask. -/
def CoverIs (rs : List (List Int)) : Prop := goodRows rs = true ∧ Covers (going (theRows rs))
def OnceIs (rs : List (List Int)) : Prop := goodRows rs = true ∧ Once (going (theRows rs))
def TruthOut (P : Prop) (w : World) (e : Ending) (w' : World) : Prop := ∃ b, e = .returned (.bool b) ∧ (b = true ↔ P) ∧ Below w.heap.size w w'
theorem truth_one {P : Prop} {b c : Bool} (h : b = true ↔ P) (k : c = true ↔ P) : b = c := by
  rw [Bool.eq_iff_iff]; exact h.trans k.symm

set_option maxHeartbeats 1000000 in
theorem implCover (a : Option Addr) (n c : Nat) (rs : List (List Int)) (w : World) (h : ReadsR w a n rs) (hn : n ≤ 1048576) (hs : Short rs) :
    Calls Try.prog 36 #[.slice a n c] w (TruthOut (CoverIs rs) w) := by
  have HC := Lib.hid (readRows_is a n c rs w h hn hs)
  have hlen := h.len
  clear h
  cases hg : goodRows rs
  · have HN : Hid (¬ CoverIs rs) := Lib.hid (fun hc => by have := hc.1; rw [hg] at this; cases this)
    have HG := Lib.hid hg
    clear hg hlen
    go_enter Try.func36, Try.ntmps36
    go_wp2_with fail
    refine HC.out.mono ?_
    rintro e w1 ⟨hb1, a1, c1, n1, rfl, hgood⟩
    rw [HG.out]
    have HB := Lib.hid hb1
    clear hgood hb1
    go_wp2
    go_ret
    exact ⟨false, rfl, ⟨(fun h => (by cases h)), fun h => (HN.out h).elim⟩, HB.out⟩
  · obtain ⟨hf1, hf2⟩ := goodRows_fits hg
    have hll : (theRows rs).length = n := by unfold theRows; rw [List.length_map]; exact hlen
    have hn20 : n ≤ 20 := by omega
    have HG := Lib.hid hg
    have HLN := Lib.hid hlen
    obtain ⟨g, hgd⟩ : ∃ g, g = going (theRows rs) := ⟨_, rfl⟩
    have hg20 : g.length ≤ 20 := by rw [hgd]; exact Nat.le_trans (going_le _) hf1
    have hgo : Going g := by rw [hgd]; exact going_ok hf2
    have HI : Hid (Covers g ↔ CoverIs rs) := Lib.hid (by unfold CoverIs; rw [hgd]; exact ⟨fun h => ⟨hg, h⟩, fun h => h.2⟩)
    have HGO := Lib.hid (fun a1 c1 w hr => goingOf_is a1 n c1 (theRows rs) w hr hn20 hf2)
    rw [← hgd] at HGO
    clear hg hlen hll hf1 hf2 hgd
    go_enter Try.func36, Try.ntmps36
    go_wp2_with fail
    refine HC.out.mono ?_
    rintro e w1 ⟨hb1, a1, c1, n1, rfl, hgood⟩
    obtain ⟨e1, hown⟩ := hgood HG.out
    obtain rfl : n1 = n := e1.trans HLN.out
    rw [HG.out]
    have HB := Lib.hid hb1
    have HR := Lib.hid (readsL_own hown)
    clear hgood hb1 hown e1
    go_wp2_with fail
    refine (HGO.out a1 c1 _ HR.out).mono ?_
    rintro e w2 ⟨hb2, a2, c2, rfl, hown2⟩
    have HB2 := Lib.hid (HB.out.trans (hb2.mono HB.out.size))
    have HR2 := Lib.hid (readsL_own hown2)
    clear hb2 hown2
    go_wp2_with fail
    refine (cover_is g a2 g.length c2 _ HR2.out hg20 hgo).mono ?_
    rintro e w3 ⟨b, rfl, hb, hb3⟩
    have HB3 := Lib.hid (HB2.out.trans (hb3.mono HB2.out.size))
    have HBI := Lib.hid (hb.trans HI.out)
    clear hb3 hb
    go_wp2
    go_ret
    exact ⟨b, rfl, HBI.out, HB3.out⟩

theorem own_capR {w : World} {base size n c : Nat} {e : TypeId} {a : Option Addr} {xs : List Value} (h : w.ownsRow base e size (.slice a n c) n xs) : n ≤ c := by
  rcases h.2 with ⟨hv, h0⟩ | ⟨g, cap, cur, hv, _, _, hc, _⟩
  · omega
  · injection hv with _ _ hc2
    omega

set_option maxHeartbeats 2000000 in
theorem implOnce (a : Option Addr) (n c : Nat) (rs : List (List Int)) (w : World) (h : ReadsR w a n rs) (hn : n ≤ 1048576) (hs : Short rs) :
    Calls Try.prog 41 #[.slice a n c] w (TruthOut (OnceIs rs) w) := by
  have HC := Lib.hid (readRows_is a n c rs w h hn hs)
  have hlen := h.len
  clear h
  cases hg : goodRows rs
  · have HN : Hid (¬ OnceIs rs) := Lib.hid (fun hc => by have := hc.1; rw [hg] at this; cases this)
    have HG := Lib.hid hg
    clear hg hlen
    go_enter Try.func41, Try.ntmps41
    go_wp2_with fail
    refine HC.out.mono ?_
    rintro e w1 ⟨hb1, a1, c1, n1, rfl, hgood⟩
    rw [HG.out]
    have HB := Lib.hid hb1
    clear hgood hb1
    go_wp2
    go_ret
    exact ⟨false, rfl, ⟨(fun h => (by cases h)), fun h => (HN.out h).elim⟩, HB.out⟩
  · obtain ⟨hf1, hf2⟩ := goodRows_fits hg
    have hll : (theRows rs).length = n := by unfold theRows; rw [List.length_map]; exact hlen
    have hn20 : n ≤ 20 := by omega
    have HG := Lib.hid hg
    have HLN := Lib.hid hlen
    obtain ⟨g, hgd⟩ : ∃ g, g = going (theRows rs) := ⟨_, rfl⟩
    have hg20 : g.length ≤ 20 := by rw [hgd]; exact Nat.le_trans (going_le _) hf1
    have hgo : Going g := by rw [hgd]; exact going_ok hf2
    have HI : Hid ((Covers g ∧ Disjoint g g.length) ↔ OnceIs rs) := Lib.hid (by rw [once_iff hgo]; unfold OnceIs; rw [hgd]; exact ⟨fun h => ⟨hg, h⟩, fun h => h.2⟩)
    have HGO := Lib.hid (fun a1 c1 w hr => goingOf_is a1 n c1 (theRows rs) w hr hn20 hf2)
    rw [← hgd] at HGO
    clear hg hlen hll hf1 hf2 hgd
    go_enter Try.func41, Try.ntmps41
    go_wp2_with fail
    refine HC.out.mono ?_
    rintro e w1 ⟨hb1, a1, c1, n1, rfl, hgood⟩
    obtain ⟨e1, hown⟩ := hgood HG.out
    obtain rfl : n1 = n := e1.trans HLN.out
    rw [HG.out]
    have HB := Lib.hid hb1
    have HR := Lib.hid (readsL_own hown)
    clear hgood hb1 hown e1
    go_wp2_with fail
    refine (HGO.out a1 c1 _ HR.out).mono ?_
    rintro e w2 ⟨hb2, a2, c2, rfl, hown2⟩
    have HB2 := Lib.hid (HB.out.trans (hb2.mono HB.out.size))
    have HR2 := Lib.hid (readsL_own hown2)
    have HRL := Lib.hid (HR.out.below hb2 (Nat.le_refl _))
    clear hb2 hown2
    go_wp2_with fail
    refine (cover_is g a2 g.length c2 _ HR2.out hg20 hgo).mono ?_
    rintro e w3 ⟨b, rfl, hb, hb3⟩
    have HB3 := Lib.hid (HB2.out.trans (hb3.mono HB2.out.size))
    have HRL3 := Lib.hid (HRL.out.below hb3 (Nat.le_refl _))
    have HBC := Lib.hid hb
    clear hb3 hb
    cases b
    · have HN : Hid (¬ OnceIs rs) := Lib.hid (fun hc => by have := HBC.out.2 (HI.out.2 hc).1; cases this)
      go_wp2
      go_ret
      exact ⟨false, rfl, ⟨(fun h => (by cases h)), fun h => (HN.out h).elim⟩, HB3.out⟩
    · have HCov := Lib.hid (HBC.out.1 rfl)
      clear HBC
      go_wp2_with fail
      refine (HGO.out a1 c1 _ HRL3.out).mono ?_
      rintro e w4 ⟨hb4, a4, c4, rfl, hown4⟩
      have HB4 := Lib.hid (HB3.out.trans (hb4.mono HB3.out.size))
      have HR4 := Lib.hid (readsL_own hown4)
      have hcap := own_capR hown4
      clear hb4 hown4
      go_wp2_with fail
      refine (meetNone_is a4 g.length c4 g _ HR4.out hg20 hcap hgo).mono ?_
      rintro e w5 ⟨b5, rfl, hb5', hb5⟩
      have HB5 := Lib.hid (HB4.out.trans (hb5.mono HB4.out.size))
      have HBI : Hid (b5 = true ↔ OnceIs rs) := Lib.hid (by rw [← HI.out, hb5']; exact ⟨fun h => ⟨HCov.out, h⟩, fun h => h.2⟩)
      clear hb5 hb5'
      go_wp2
      go_ret
      exact ⟨b5, rfl, HBI.out, HB5.out⟩
end Go.Proofs.Ytdcedkjoligekaa
