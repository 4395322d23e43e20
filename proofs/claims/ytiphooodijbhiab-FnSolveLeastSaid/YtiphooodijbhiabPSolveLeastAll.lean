/-
  The walks of the drawing of what chapter 8's functions are asked. The walk of SetHas, of the program. What the walks of chapter 8's promises share. The walks of SolveLeast and SolveMost, of the model. The walk of SolveIs, of the program. The walk of SetBelow, of the program. The walk of SetSizes, of the program alone. The walk of the law FnSolveLeast.
-/
import Derived.Test.YtiphooodijbhiabDrawSet
import Derived.Deep.RegionWith
import Derived.Test.YtiphooodijbhiabHasI
import Derived.Test.YtiphooodijbhiabRowBytes
import Derived.Test.YtiphooodijbhiabEquMath
import Derived.Test.YtiphooodijbhiabSolveI
import Derived.Test.YtiphooodijbhiabSpecStar
import Derived.Test.YtiphooodijbhiabSpecSumOf
import Derived.Test.YtiphooodijbhiabEitherI
import Derived.Test.YtiphooodijbhiabSameI
import Derived.Lib.MinMax
import Derived.Test.YtiphooodijbhiabRing
import Derived.Test.YtiphooodijbhiabFirst
import Derived.Deep.WholeRow

set_option linter.unusedVariables false
namespace Go.Proofs.Ytiphooodijbhiab
open Go.RowKit

set_option maxRecDepth 100000 in
set_option maxHeartbeats 4000000 in
theorem drawSolveLeast (a : Option Addr) (n c : Nat) (w : World) (h : Bytes w a n) (hn : n ≤ 1048576) (hc : n ≤ c) :
    Calls Try.prog 21 #[.slice a n c] w fun e w' => ∃ s t : ByteArray, e = .returned (.tuple #[.string s, .string t]) ∧ s.size ≤ 12 ∧ t.size ≤ 12 ∧ Below w.heap.size w w' := by
  go_enter Try.func21, Try.ntmps21
  go_wp2_with fail
  refine (open_rd a n c _ h hn hc).mono ?_
  rintro e w1 ⟨n', rfl, hrd, hap⟩
  go_wp2_with fail
  refine (set_rd hrd (by omega)).mono ?_
  rintro e w2 ⟨s, p2, rfl, hs, hp2, hrd2, hap2⟩
  go_wp2_with fail
  refine (set_rd hrd2 (by omega)).mono ?_
  rintro e w3 ⟨t, p3, rfl, ht, hp3, hrd3, hap3⟩
  go_wp2
  go_ret2
  exact ⟨s, t, rfl, hs, ht, ((hap.trans hap2).trans hap3).below⟩

set_option maxRecDepth 100000 in
set_option maxHeartbeats 4000000 in
theorem drawSolveMost (a : Option Addr) (n c : Nat) (w : World) (h : Bytes w a n) (hn : n ≤ 1048576) (hc : n ≤ c) :
    Calls Try.prog 34 #[.slice a n c] w fun e w' => ∃ s t : ByteArray, e = .returned (.tuple #[.string s, .string t]) ∧ s.size ≤ 12 ∧ t.size ≤ 12 ∧ Below w.heap.size w w' := by
  go_enter Try.func34, Try.ntmps34
  go_wp2_with fail
  refine (open_rd a n c _ h hn hc).mono ?_
  rintro e w1 ⟨n', rfl, hrd, hap⟩
  go_wp2_with fail
  refine (set_rd hrd (by omega)).mono ?_
  rintro e w2 ⟨s, p2, rfl, hs, hp2, hrd2, hap2⟩
  go_wp2_with fail
  refine (set_rd hrd2 (by omega)).mono ?_
  rintro e w3 ⟨t, p3, rfl, ht, hp3, hrd3, hap3⟩
  go_wp2
  go_ret2
  exact ⟨s, t, rfl, hs, ht, ((hap.trans hap2).trans hap3).below⟩

set_option maxRecDepth 100000 in
set_option maxHeartbeats 4000000 in
theorem drawSolveOne (a : Option Addr) (n c : Nat) (w : World) (h : Bytes w a n) (hn : n ≤ 1048576) (hc : n ≤ c) :
    Calls Try.prog 37 #[.slice a n c] w fun e w' => ∃ s t : ByteArray, e = .returned (.tuple #[.string s, .string t]) ∧ s.size ≤ 12 ∧ t.size ≤ 12 ∧ Below w.heap.size w w' := by
  go_enter Try.func37, Try.ntmps37
  go_wp2_with fail
  refine (open_rd a n c _ h hn hc).mono ?_
  rintro e w1 ⟨n', rfl, hrd, hap⟩
  go_wp2_with fail
  refine (set_rd hrd (by omega)).mono ?_
  rintro e w2 ⟨s, p2, rfl, hs, hp2, hrd2, hap2⟩
  go_wp2_with fail
  refine (set_rd hrd2 (by omega)).mono ?_
  rintro e w3 ⟨t, p3, rfl, ht, hp3, hrd3, hap3⟩
  go_wp2
  go_ret2
  exact ⟨s, t, rfl, hs, ht, ((hap.trans hap2).trans hap3).below⟩

set_option maxRecDepth 100000 in
set_option maxHeartbeats 4000000 in
theorem drawSolveIs (a : Option Addr) (n c : Nat) (w : World) (h : Bytes w a n) (hn : n ≤ 1048576) (hc : n ≤ c) :
    Calls Try.prog 28 #[.slice a n c] w fun e w' => ∃ s t x : ByteArray, e = .returned (.tuple #[.string s, .string t, .string x]) ∧ s.size ≤ 12 ∧ t.size ≤ 12 ∧ x.size ≤ 12 ∧ Below w.heap.size w w' := by
  go_enter Try.func28, Try.ntmps28
  go_wp2_with fail
  refine (open_rd a n c _ h hn hc).mono ?_
  rintro e w1 ⟨n', rfl, hrd, hap⟩
  go_wp2_with fail
  refine (set_rd hrd (by omega)).mono ?_
  rintro e w2 ⟨s, p2, rfl, hs, hp2, hrd2, hap2⟩
  go_wp2_with fail
  refine (set_rd hrd2 (by omega)).mono ?_
  rintro e w3 ⟨t, p3, rfl, ht, hp3, hrd3, hap3⟩
  go_wp2_with fail
  refine (set_rd hrd3 (by omega)).mono ?_
  rintro e w4 ⟨x, p4, rfl, hx, hp4, hrd4, hap4⟩
  go_wp2
  go_ret3
  exact ⟨s, t, x, rfl, hs, ht, hx, (((hap.trans hap2).trans hap3).trans hap4).below⟩

/-- A number is drawn from a row of five. -/
theorem pick_at {R : Nat} {a : Option Addr} {n c p : Nat} {w w0 : World} (h : Rd R a n c p w) (hp : p ≤ 1000) (hR : R < w.heap.size) (hb : Below w.heap.size w w0) (M : Int) (m : Nat) (hM : M = (m : Int)) (hm0 : 0 < m) (hm : m ≤ 1000000) :
    Calls Try.prog 58 #[.pointer (some ⟨R, 0, none⟩), .int .i64 M] w0 fun e w' =>
      ∃ v : Nat, e = .returned (.int .i64 v) ∧ v < m ∧ Rd R a n c (p + 1) w' ∧ Apart R w0 w' ∧ Apart R w w' := by
  subst hM
  refine (pick_rd (h.below hb hR) m (by omega) hm0 hm).mono ?_
  rintro e w' ⟨v, h1, h2, h3, h4, _⟩
  exact ⟨v, h1, h2, h3, h4, (Apart.of_below (Nat.le_of_lt hR) hb).trans h4⟩
theorem five_at (y1 y2 v : Nat) (h1 : y1 < 40) (h2 : y2 < 250) (hv : v < 5) : ∃ x : Int, (-1 ≤ x ∧ x ≤ 501) ∧ (#[.int .i64 y1, .int .i64 y2, .int .i64 500, .int .i64 501, .int .i64 (-1)] : Array Value)[v]? = some (.int .i64 x) ∧
    ∀ W : World, (W.alloc (.cells #[.int .i64 y1, .int .i64 y2, .int .i64 500, .int .i64 501, .int .i64 (-1)] 3)).cell? ⟨W.heap.size, v, none⟩ = some (.int .i64 x) := by
  have key : ∀ x : Int, (#[.int .i64 y1, .int .i64 y2, .int .i64 500, .int .i64 501, .int .i64 (-1)] : Array Value)[v]? = some (.int .i64 x) → ∀ W : World, (W.alloc (.cells #[.int .i64 y1, .int .i64 y2, .int .i64 500, .int .i64 501, .int .i64 (-1)] 3)).cell? ⟨W.heap.size, v, none⟩ = some (.int .i64 x) := fun x h W => by
    rw [World.cell?_alloc_at _ _ _ _ rfl]; exact h
  have : v = 0 ∨ v = 1 ∨ v = 2 ∨ v = 3 ∨ v = 4 := by omega
  rcases this with rfl | rfl | rfl | rfl | rfl
  · exact ⟨y1, by omega, rfl, key _ rfl⟩
  · exact ⟨y2, by omega, rfl, key _ rfl⟩
  · exact ⟨500, by omega, rfl, key _ rfl⟩
  · exact ⟨501, by omega, rfl, key _ rfl⟩
  · exact ⟨-1, by omega, rfl, key _ rfl⟩

set_option maxRecDepth 100000 in
set_option maxHeartbeats 4000000 in
theorem drawSolveHas (a : Option Addr) (n c : Nat) (w : World) (h : Bytes w a n) (hn : n ≤ 1048576) (hc : n ≤ c) :
    Calls Try.prog 30 #[.slice a n c] w fun e w' => ∃ (s t : ByteArray) (x : Int), e = .returned (.tuple #[.string s, .string t, .int .i64 x]) ∧ s.size ≤ 12 ∧ t.size ≤ 12 ∧ (-1 ≤ x ∧ x ≤ 501) ∧ Below w.heap.size w w' := by
  have HO := Lib.hid (open_rd a n c w h hn hc)
  clear h
  go_enter Try.func30, Try.ntmps30
  go_wp2_with fail
  refine HO.out.mono ?_
  rintro e w1 ⟨n', rfl, hrd, hap⟩
  have HA := Lib.hid hap
  have hR1 := hrd.lt
  have HD := Lib.hid (set_rd (hrd.below (below_drewN (Below.refl w1.heap.size w1) 1) hR1) (by omega))
  clear hrd hap
  go_wp2
  go_region_with (first
    | (go_at_call 60; refine HD.out.mono ?_; rintro e w2 ⟨s, p2, rfl, hs, hp2, hrd2, hap2⟩; have hR2 := hrd2.lt; have HA2 := Lib.hid (HA.out.trans ((Apart.of_below (Nat.le_of_lt hR1) (below_drewN (Below.refl w1.heap.size w1) 1)).trans hap2)); have HD2 := Lib.hid (set_rd hrd2 (by omega)); clear hap2 hrd2 HD)
    | (go_at_call 60; refine HD2.out.mono ?_; rintro e w20 ⟨t, p20, rfl, ht, hp20, hrd20, hap20⟩; have hR20 := hrd20.lt; have HA20 := Lib.hid (HA2.out.trans hap20); have HR2 := Lib.hid hrd20; clear hap20 hrd20 HD2)
    | (go_at_call 58; refine (pick_at HR2.out (by omega) hR20 (by first | exact Below.refl _ _ | exact (Below.refl _ _).alloc (Nat.le_refl _) _) 40 40 rfl (by decide) (by decide)).mono ?_; rintro e w3 ⟨y1, rfl, hy1, hrd3, _, hap3⟩; have hR3 := hrd3.lt; have HA3 := Lib.hid (HA20.out.trans hap3); have HR3 := Lib.hid hrd3; clear hap3 hrd3 HR2)
    | (go_at_call 58; refine (pick_at HR3.out (by omega) hR3 (by first | exact Below.refl _ _ | exact (Below.refl _ _).alloc (Nat.le_refl _) _) 250 250 rfl (by decide) (by decide)).mono ?_; rintro e w4 ⟨y2, rfl, hy2, hrd4, _, hap4⟩; have hR4 := hrd4.lt; have HA4 := Lib.hid (HA3.out.trans hap4); have HR4 := Lib.hid hrd4; clear hap4 hrd4 HR3)
    | (go_at_call 58; refine (pick_at HR4.out (by omega) hR4 (by first | exact Below.refl _ _ | exact (Below.refl _ _).alloc (Nat.le_refl _) _) 5 5 rfl (by decide) (by decide)).mono ?_; rintro e w5 ⟨v, rfl, hv, hrd5, hap50, hap5⟩; have hR5 := hrd5.lt; have HA5 := Lib.hid (HA4.out.trans hap5); obtain ⟨x, hxr, hx1, hx2⟩ := five_at y1 y2 v hy1 hy2 hv; have hv5 : (v : Int) < 5 := (by omega); (first | have hcell := (table_cell hap50 hR4 v).trans hx1 | skip); clear hap5 hap50 hrd5 HR4 hx1))
  all_goals
    go_wp2
    go_ret3
    first
      | exact ⟨s, t, x, rfl, hs, ht, hxr, HA5.out.below⟩
      | exact ⟨s, t, x, rfl, hs, ht, hxr, (HA5.out.trans (Apart.of_below (Nat.le_of_lt hR5) ((Below.refl _ _).alloc (Nat.le_refl _) _))).below⟩

set_option maxRecDepth 100000 in
set_option maxHeartbeats 4000000 in
theorem drawSolveTwo (a : Option Addr) (n c : Nat) (w : World) (h : Bytes w a n) (hn : n ≤ 1048576) (hc : n ≤ c) :
    Calls Try.prog 41 #[.slice a n c] w fun e w' => ∃ (s t : ByteArray) (x : Int), e = .returned (.tuple #[.string s, .string t, .int .i64 x]) ∧ s.size ≤ 12 ∧ t.size ≤ 12 ∧ (-1 ≤ x ∧ x ≤ 501) ∧ Below w.heap.size w w' := by
  have HO := Lib.hid (open_rd a n c w h hn hc)
  clear h
  go_enter Try.func41, Try.ntmps41
  go_wp2_with fail
  refine HO.out.mono ?_
  rintro e w1 ⟨n', rfl, hrd, hap⟩
  have HA := Lib.hid hap
  have hR1 := hrd.lt
  have HD := Lib.hid (set_rd (hrd.below (below_drewN (Below.refl w1.heap.size w1) 1) hR1) (by omega))
  clear hrd hap
  go_wp2
  go_region_with (first
    | (go_at_call 60; refine HD.out.mono ?_; rintro e w2 ⟨s, p2, rfl, hs, hp2, hrd2, hap2⟩; have hR2 := hrd2.lt; have HA2 := Lib.hid (HA.out.trans ((Apart.of_below (Nat.le_of_lt hR1) (below_drewN (Below.refl w1.heap.size w1) 1)).trans hap2)); have HD2 := Lib.hid (set_rd hrd2 (by omega)); clear hap2 hrd2 HD)
    | (go_at_call 60; refine HD2.out.mono ?_; rintro e w20 ⟨t, p20, rfl, ht, hp20, hrd20, hap20⟩; have hR20 := hrd20.lt; have HA20 := Lib.hid (HA2.out.trans hap20); have HR2 := Lib.hid hrd20; clear hap20 hrd20 HD2)
    | (go_at_call 58; refine (pick_at HR2.out (by omega) hR20 (by first | exact Below.refl _ _ | exact (Below.refl _ _).alloc (Nat.le_refl _) _) 40 40 rfl (by decide) (by decide)).mono ?_; rintro e w3 ⟨y1, rfl, hy1, hrd3, _, hap3⟩; have hR3 := hrd3.lt; have HA3 := Lib.hid (HA20.out.trans hap3); have HR3 := Lib.hid hrd3; clear hap3 hrd3 HR2)
    | (go_at_call 58; refine (pick_at HR3.out (by omega) hR3 (by first | exact Below.refl _ _ | exact (Below.refl _ _).alloc (Nat.le_refl _) _) 250 250 rfl (by decide) (by decide)).mono ?_; rintro e w4 ⟨y2, rfl, hy2, hrd4, _, hap4⟩; have hR4 := hrd4.lt; have HA4 := Lib.hid (HA3.out.trans hap4); have HR4 := Lib.hid hrd4; clear hap4 hrd4 HR3)
    | (go_at_call 58; refine (pick_at HR4.out (by omega) hR4 (by first | exact Below.refl _ _ | exact (Below.refl _ _).alloc (Nat.le_refl _) _) 5 5 rfl (by decide) (by decide)).mono ?_; rintro e w5 ⟨v, rfl, hv, hrd5, hap50, hap5⟩; have hR5 := hrd5.lt; have HA5 := Lib.hid (HA4.out.trans hap5); obtain ⟨x, hxr, hx1, hx2⟩ := five_at y1 y2 v hy1 hy2 hv; have hv5 : (v : Int) < 5 := (by omega); (first | have hcell := (table_cell hap50 hR4 v).trans hx1 | skip); clear hap5 hap50 hrd5 HR4 hx1))
  all_goals
    go_wp2
    go_ret3
    first
      | exact ⟨s, t, x, rfl, hs, ht, hxr, HA5.out.below⟩
      | exact ⟨s, t, x, rfl, hs, ht, hxr, (HA5.out.trans (Apart.of_below (Nat.le_of_lt hR5) ((Below.refl _ _).alloc (Nat.le_refl _) _))).below⟩

end Go.Proofs.Ytiphooodijbhiab

namespace Go.Proofs.Ytiphooodijbhiab
open Go.RowKit

/-- What SetHas answers. -/
def setHas (s : ByteArray) (n : Int) : Bool := okS s && hasI (setT s) (setR s) n

set_option maxHeartbeats 400000 in
theorem implSetHas (s : ByteArray) (n m : Int) (w : World) (hs : s.size ≤ 1048576) (hn : n ≤ 9223372036854775807) (hL : LibAt m w) :
    Calls Try.prog 33 #[.string s, .int .i64 n] w fun e w' => e = .returned (.bool (setHas s n)) ∧ Below w.heap.size w w' := by
  cases h : okS s
  · have H : Hid (setHas s n = false) := Lib.hid (by unfold setHas; rw [h]; rfl)
    go_enter Try.func33, Try.ntmps33
    go_wp2_with fail
    refine (split_off s m _ hs hL h).mono ?_
    rintro e w1 ⟨rfl, hb⟩
    go_wp2
    go_ret
    exact ⟨ret_bool H.out.symm, (hb.alloc hb.size _)⟩
  · have H : Hid (setHas s n = hasI (setT s) (setR s) n) := Lib.hid (by unfold setHas; rw [h]; rfl)
    go_enter Try.func33, Try.ntmps33
    go_wp2_with fail
    refine (split_on s m _ hs hL h).mono ?_
    rintro e w1 ⟨T, R, rfl, hb, hsp⟩
    go_wp2_with fail
    refine (has_on s T R n _ hsp hn).mono ?_
    rintro e w2 ⟨rfl, hb2⟩
    go_wp2
    go_ret
    exact ⟨ret_bool H.out.symm, (hb.alloc hb.size _).trans (hb2.mono (by have := hb.size; simp; omega))⟩

end Go.Proofs.Ytiphooodijbhiab

set_option linter.unusedVariables false
set_option linter.unusedSimpArgs false
namespace Go.Proofs.Ytiphooodijbhiab
open Go.RowKit

theorem setHas_nat {s : ByteArray} (h : okS s = true) (n : Nat) : setHas s (n : Int) = fS s n := by
  unfold setHas; rw [h, Bool.true_and, hasI_nat]; rfl
theorem told_size {T : ByteArray} (h : okS T = true) : T.size ≤ 1048576 := by
  rw [set_size h]
  have h1 := setT_le h
  have h2 := setR_le h
  omega
theorem small_ok {s : ByteArray} (h : smallS s = true) : okS s = true := (smallS_iff.1 h).1
theorem least_told {s t T : ByteArray} (h : MakeIs (leastOk s t) (lowF (fS s) (fS t)) T true) : leastOk s t = true ∧ smallS s = true ∧ smallS t = true ∧ okS T = true ∧ fS T = lowF (fS s) (fS t) ∧ TidyText (lowF (fS s) (fS t)) T := by
  obtain ⟨h1, h2⟩ := makeIs_told h
  exact ⟨h1, (leastOk_small h1).1, (leastOk_small h1).2, h2.told.ok, h2.told.set, h2⟩
theorem most_told {s t T : ByteArray} (h : MakeIs (mostOk s t) (mostF (fS s) (fS t)) T true) : smallS s = true ∧ smallS t = true ∧ okS T = true ∧ fS T = mostF (fS s) (fS t) ∧ TidyText (mostF (fS s) (fS t)) T := by
  obtain ⟨h1, h2⟩ := makeIs_told h
  unfold mostOk at h1
  rw [Bool.and_eq_true, Bool.and_eq_true] at h1
  exact ⟨h1.1.1, h1.1.2, h2.told.ok, h2.told.set, h2⟩
theorem most_of_low {f g : Nat → Bool} {n : Nat} (h : lowF f g n = true) : mostF f g n = true := by
  unfold mostF
  cases e : f 0
  · exact h
  · rfl
theorem most_is_low {f g : Nat → Bool} (h : f 0 = false) : mostF f g = lowF f g := by unfold mostF; rw [h]; rfl
theorem most_is_all {f g : Nat → Bool} (h : f 0 = true) : mostF f g = allF := by unfold mostF; rw [if_pos h]
/-- A set is asked, in a walk's own terms. -/
theorem ask_set {s : ByteArray} (h : okS s = true) (n : Nat) (m : Int) (W : World) (hs : s.size ≤ 1048576) (hn : n ≤ 100000) (hL : LibAt m W) :
    Calls Try.prog 33 #[.string s, .int .i64 n] W fun e w' => e = .returned (.bool (fS s n)) ∧ Below W.heap.size W w' := by
  have := implSetHas s n m W hs (by omega) hL
  rw [setHas_nat h] at this
  exact this

end Go.Proofs.Ytiphooodijbhiab

set_option linter.unusedVariables false
set_option linter.unusedSimpArgs false
namespace Go.Proofs.Ytiphooodijbhiab
open Go.RowKit

theorem makeIs_size {ok : Bool} {f : Nat → Bool} {T : ByteArray} {b : Bool} (h : MakeIs ok f T b) : T.size ≤ 1048576 := by
  cases b
  · have : T = ⟨#[]⟩ := by
      cases ok
      · exact (h.2 rfl).1
      · rcases h.1 rfl with ⟨e, _⟩ | ⟨_, e, _⟩
        · cases e
        · exact e
    rw [this]; decide
  · have := set_size (makeIs_told h).2.told.ok
    have h1 := setT_le (makeIs_told h).2.told.ok
    have h2 := setR_le (makeIs_told h).2.told.ok
    omega

set_option maxHeartbeats 1000000 in
theorem specLeast (s t : ByteArray) (w : World) (hs : s.size ≤ 1048576) (ht : t.size ≤ 1048576) :
    Calls Try.prog 23 #[.string s, .string t] w fun e w' => MakeEnd (leastOk s t) (lowF (fS s) (fS t)) e ∧ Below w.heap.size w w' := by
  go_enter Try.func23, Try.ntmps23
  go_wp2_with fail
  refine (l4Small_any s _ hs).mono ?_
  rintro e w1 ⟨a1, n1, c1, a2, n2, c2, rfl, hb1, _⟩
  go_wp2_with fail
  refine (l4Small_any t _ ht).mono ?_
  rintro e w2 ⟨b1, m1, d1, b2, m2, d2, rfl, hb2, _⟩
  have hb3 := below_step (hb1.alloc hb1.size (.cells #[.slice a1 n1 c1, .slice a2 n2 c2] 77)) hb2
  have HB2 := Lib.hid (hb3.alloc hb3.size (.cells #[.slice b1 m1 d1, .slice b2 m2 d2] 77))
  clear hb1 hb2 hb3
  cases hp : smallS s
  · have HO : Hid (leastOk s t = false) := Lib.hid (by unfold leastOk; rw [hp]; rfl)
    clear hp
    cases hq : smallS t
    all_goals
      clear hq
      go_wp2
      go_ret2
      exact ⟨makeEnd_off HO.out, HB2.out⟩
  · cases hq : smallS t
    · have HO : Hid (leastOk s t = false) := Lib.hid (by unfold leastOk; rw [hq, Bool.and_false])
      clear hp hq
      go_wp2
      go_ret2
      exact ⟨makeEnd_off HO.out, HB2.out⟩
    · clear hp hq
      go_wp2_with fail
      refine (specStar s _ hs).mono ?_
      rintro e w3 ⟨⟨T, b, rfl, hm⟩, hb3⟩
      have HM := Lib.hid hm
      have HB3 := Lib.hid (below_step HB2.out hb3)
      have hsz := makeIs_size hm
      clear hm hb3
      cases b
      · have HO := Lib.hid (least_off (t := t) HM.out rfl)
        go_wp2
        go_ret2
        exact ⟨makeEnd_off HO.out, HB3.out⟩
      · go_wp2_with fail
        refine (specSum T t _ hsz ht).mono ?_
        rintro e w4 ⟨⟨U, c, rfl, hm4⟩, hb4⟩
        have HM4 := Lib.hid (least_is HM.out hm4)
        have HB4 := Lib.hid (below_step HB3.out hb4)
        clear hm4 hb4
        go_wp2
        go_ret2
        exact ⟨⟨U, c, rfl, HM4.out⟩, HB4.out⟩

set_option maxHeartbeats 1000000 in
theorem specMost (s t : ByteArray) (w : World) (hs : s.size ≤ 1048576) (ht : t.size ≤ 1048576) :
    Calls Try.prog 35 #[.string s, .string t] w fun e w' => MakeEnd (mostOk s t) (mostF (fS s) (fS t)) e ∧ Below w.heap.size w w' := by
  go_enter Try.func35, Try.ntmps35
  go_wp2_with fail
  refine (l4Small_any s _ hs).mono ?_
  rintro e w1 ⟨a1, n1, c1, a2, n2, c2, rfl, hb1, hA⟩
  have hA2 := fun h => (hA h).alloc (.cells #[.slice a1 n1 c1, .slice a2 n2 c2] 77)
  go_wp2_with fail
  refine (l4Small_any t _ ht).mono ?_
  rintro e w2 ⟨b1, m1, d1, b2, m2, d2, rfl, hb2, _⟩
  have hb3 := below_step (hb1.alloc hb1.size (.cells #[.slice a1 n1 c1, .slice a2 n2 c2] 77)) hb2
  have HB2 := Lib.hid (hb3.alloc hb3.size (.cells #[.slice b1 m1 d1, .slice b2 m2 d2] 77))
  have hA3 := fun h => ((hA2 h).below hb2 (Nat.le_refl _)).alloc (.cells #[.slice b1 m1 d1, .slice b2 m2 d2] 77)
  obtain ⟨q0, q1⟩ := box_later (hb2.alloc hb2.size (.cells #[.slice b1 m1 d1, .slice b2 m2 d2] 77))
  clear hb1 hb2 hb3 hA hA2
  cases hp : smallS s
  · have HO : Hid (mostOk s t = false) := Lib.hid (by unfold mostOk; rw [hp]; rfl)
    clear hp hA3
    cases hq : smallS t
    all_goals
      clear hq
      go_wp2
      go_ret2
      exact ⟨makeEnd_off HO.out, HB2.out⟩
  · have HA := Lib.hid (hA3 hp)
    cases hq : smallS t
    · have HO : Hid (mostOk s t = false) := Lib.hid (by unfold mostOk; rw [hp, hq]; rfl)
      clear hp hq hA3
      go_wp2
      go_ret2
      exact ⟨makeEnd_off HO.out, HB2.out⟩
    · have HP := Lib.hid hp
      have HQ := Lib.hid hq
      clear hp hq hA3
      have hcall := small_has (c1 := c1) (c2 := c2) 0 HA.out (by omega)
      cases h0 : fS s 0
      · rw [h0] at hcall
        have HZ := Lib.hid h0
        clear h0
        go_wp2_with fail
        refine hcall.mono ?_
        rintro e w3 ⟨rfl, hb3⟩
        have HB3 := Lib.hid (below_step HB2.out hb3)
        clear hb3 hcall
        go_wp2_with fail
        refine (specLeast s t _ hs ht).mono ?_
        rintro e w4 ⟨⟨U, c, rfl, hm4⟩, hb4⟩
        have HM4 := Lib.hid (most_low (fun _ _ => HZ.out) hm4)
        have HB4 := Lib.hid (below_step HB3.out hb4)
        clear hm4 hb4
        go_wp2
        go_ret2
        exact ⟨⟨U, c, rfl, HM4.out⟩, HB4.out⟩
      · rw [h0] at hcall
        have HM := Lib.hid (most_all HP.out HQ.out h0)
        clear h0
        go_wp2_with fail
        refine hcall.mono ?_
        rintro e w3 ⟨rfl, hb3⟩
        have HB3 := Lib.hid (below_step HB2.out hb3)
        clear hb3 hcall
        go_wp2
        go_ret2
        exact ⟨⟨_, _, rfl, HM.out⟩, HB3.out⟩

end Go.Proofs.Ytiphooodijbhiab

set_option linter.unusedVariables false
set_option linter.unusedSimpArgs false
namespace Go.Proofs.Ytiphooodijbhiab
open Go.RowKit

theorem made_told {f : Nat → Bool} {T : ByteArray} {b : Bool} (h : Made f T b) (ht : ∃ m q, Tidy f m q ∧ m ≤ 60 ∧ q ≤ 60) : b = true ∧ TidyText f T := by
  rcases h with ⟨h1, h2⟩ | ⟨_, _, m, q, h3, h4⟩
  · exact ⟨h1, h2⟩
  · obtain ⟨m', q', k1, k2, k3⟩ := ht
    obtain ⟨rfl, rfl⟩ := tidy_unique h3 k1
    exact absurd ⟨k2, k3⟩ h4
theorem is_empty : okS ⟨#[]⟩ = false := by decide
/-- What SolveIs holds against each other tells whether a set solves. -/
theorem is_same {s t x U V : ByteArray} {b c : Bool} (h1 : smallS s = true) (h2 : smallS t = true) (hU : MakeIs (smallS s && smallS x) (sumG false (fS s) (fS x)) U b)
    (hV : MakeIs (okS t && okS U) (fun n => fS t n || fS U n) V c) : isW s t x = (okS V && (okS x && agreeB (fS V) (fS x))) := by
  obtain ⟨o1, m1⟩ := smallS_iff.1 h1
  obtain ⟨o2, m2⟩ := smallS_iff.1 h2
  have keyV : okS V = true → smallS x = true ∧ fS V = dueF (fS s) (fS t) (fS x) ∧ ∃ m q, Tidy (fS V) m q ∧ m ≤ 60 ∧ q ≤ 60 := fun hv => by
    cases c
    · have : V = ⟨#[]⟩ := by
        cases k : (okS t && okS U)
        · exact (hV.2 k).1
        · rcases hV.1 k with ⟨e, _⟩ | ⟨_, e, _⟩
          · cases e
          · exact e
      rw [this, is_empty] at hv; cases hv
    · obtain ⟨k1, k2⟩ := makeIs_told hV
      rw [Bool.and_eq_true] at k1
      have hu := k1.2
      cases b
      · have : U = ⟨#[]⟩ := by
          cases k : (smallS s && smallS x)
          · exact (hU.2 k).1
          · rcases hU.1 k with ⟨e, _⟩ | ⟨_, e, _⟩
            · cases e
            · exact e
        rw [this, is_empty] at hu; cases hu
      · obtain ⟨k3, k4⟩ := makeIs_told hU
        rw [Bool.and_eq_true] at k3
        refine ⟨k3.2, ?_, tidy_there hv⟩
        rw [k2.told.set, k4.told.set]; rfl
  apply bool_iff
  constructor
  · intro h
    unfold isW at h
    rw [Bool.and_eq_true, Bool.and_eq_true] at h
    have hx := h.1.2
    have hd := isV_iff.1 h.2
    obtain ⟨ox, mx⟩ := smallS_iff.1 hx
    have k1 := hU.1 (by rw [h1, hx]; rfl)
    obtain ⟨_, k2⟩ := made_told k1 (is_told m1 mx hd)
    have k3 := hV.1 (by rw [o2, k2.told.ok]; rfl)
    have e : (fun n => fS t n || fS U n) = fS x := by rw [k2.told.set]; exact hd
    rw [e] at k3
    obtain ⟨m, q, hm, e1, e2⟩ := mx
    obtain ⟨_, k4⟩ := made_told k3 ⟨m, q, hm, by omega, by omega⟩
    rw [k4.told.ok, ox, k4.told.set, agree_eq rfl]; rfl
  · intro h
    rw [Bool.and_eq_true, Bool.and_eq_true] at h
    obtain ⟨k1, k2, m, q, k3, k4, k5⟩ := keyV h.1
    obtain ⟨m', q', k6, k7, k8⟩ := tidy_there h.2.1
    have := agree_all k3 k6 k4 k5 k7 k8 h.2.2
    unfold isW
    rw [h1, h2, k1, Bool.true_and, Bool.true_and, Bool.true_and, isV_iff, ← k2]
    exact this

set_option maxRecDepth 100000 in
set_option maxHeartbeats 2000000 in
theorem implSolveIs (s t x : ByteArray) (m : Int) (w : World) (hs : s.size ≤ 1048576) (ht : t.size ≤ 1048576) (hx : x.size ≤ 1048576) (hL : LibAt m w) :
    Calls Try.prog 27 #[.string s, .string t, .string x] w fun e w' => e = .returned (.bool (isW s t x)) ∧ Below w.heap.size w w' := by
  go_enter Try.func27, Try.ntmps27
  go_wp2_with fail
  refine (equation_any s t m _ hs ht hL).mono ?_
  rintro e w1 ⟨⟨T, R, T2, R2, rfl, _⟩, hb1⟩
  have hb1' := hb1.alloc hb1.size (.cells #[.string T, .string R, .string T2, .string R2] 83)
  have HB1 := Lib.hid hb1'
  have HL1 := Lib.hid (hL.below hb1')
  clear hb1 hb1' hL
  go_wp2_with fail
  refine (implSum s x m _ hs hx HL1.out).mono ?_
  rintro e w2 ⟨⟨U, b, rfl, hU⟩, hb2⟩
  have HB2 := Lib.hid (below_step HB1.out hb2)
  have HL2 := Lib.hid (HL1.out.below hb2)
  have HU := Lib.hid hU
  have hUs := makeIs_sizeI hU
  clear hb2 hU
  go_wp2_with fail
  refine (implEither t U m _ ht hUs HL2.out).mono ?_
  rintro e w3 ⟨⟨V, c, rfl, hV⟩, hb3⟩
  have HB3 := Lib.hid (below_step HB2.out hb3)
  have HL3 := Lib.hid (HL2.out.below hb3)
  have HV := Lib.hid hV
  have hVs := makeIs_sizeI hV
  clear hb3 hV
  cases hp : (smallS s && smallS t)
  · have HO : Hid (isW s t x = false) := Lib.hid (by unfold isW; rw [hp]; rfl)
    clear hp
    go_wp2
    go_ret
    exact ⟨ret_bool HO.out.symm, HB3.out⟩
  · rw [Bool.and_eq_true] at hp
    have HO := Lib.hid (is_same hp.1 hp.2 HU.out HV.out)
    clear hp
    cases h1 : okS V
    · have HO2 : Hid (isW s t x = false) := Lib.hid (by rw [HO.out, h1]; rfl)
      have HC := Lib.hid (fun W hL => implSame_off V x m W hVs hx hL (.inl h1))
      clear h1
      go_wp2_with fail
      refine (HC.out _ HL3.out).mono ?_
      rintro e w4 ⟨rfl, hb4⟩
      have HB4 := Lib.hid (below_step HB3.out hb4)
      clear hb4
      go_wp2
      go_ret
      exact ⟨ret_bool HO2.out.symm, HB4.out⟩
    · cases h2 : okS x
      · have HO2 : Hid (isW s t x = false) := Lib.hid (by rw [HO.out, h1, h2]; rfl)
        have HC := Lib.hid (fun W hL => implSame_off V x m W hVs hx hL (.inr h2))
        clear h1 h2
        go_wp2_with fail
        refine (HC.out _ HL3.out).mono ?_
        rintro e w4 ⟨rfl, hb4⟩
        have HB4 := Lib.hid (below_step HB3.out hb4)
        clear hb4
        go_wp2
        go_ret
        exact ⟨ret_bool HO2.out.symm, HB4.out⟩
      · have HO2 : Hid (isW s t x = agreeB (fS V) (fS x)) := Lib.hid (by rw [HO.out, h1, h2]; rfl)
        have HC := Lib.hid (fun W hL => implSame_on V x m W hVs hx hL h1 h2)
        clear h1 h2
        go_wp2_with fail
        refine (HC.out _ HL3.out).mono ?_
        rintro e w4 ⟨rfl, hb4⟩
        have HB4 := Lib.hid (below_step HB3.out hb4)
        clear hb4
        go_wp2
        go_ret
        exact ⟨ret_bool HO2.out.symm, HB4.out⟩

end Go.Proofs.Ytiphooodijbhiab

namespace Go.Proofs.Ytiphooodijbhiab
open Go.RowKit

/-- n is in the first set and not in the second. -/
def cex (s t : ByteArray) (n : Nat) : Bool := hasB (setT s) (setR s) n && !hasB (setT t) (setR t) n

structure LeastCex (s t : ByteArray) (x : Nat) : Prop where
  is : cex s t x = true
  least : ∀ y, y < x → cex s t y = false

theorem leastCex_of (s t : ByteArray) : ∀ d, cex s t d = true → ∃ x, LeastCex s t x := by
  intro d
  induction d using Nat.strongRecOn with
  | ind d ih =>
    intro h
    by_cases hx : ∃ e, e < d ∧ cex s t e = true
    · obtain ⟨e, he, h2⟩ := hx; exact ih e he h2
    · refine ⟨d, h, fun y hy => ?_⟩
      rw [Bool.eq_false_iff]
      exact fun h3 => hx ⟨y, hy, h3⟩

theorem cex_cases (s t : ByteArray) : (∃ x, LeastCex s t x) ∨ ∀ n, cex s t n = false := by
  by_cases h : ∃ d, cex s t d = true
  · obtain ⟨d, hd⟩ := h; exact .inl (leastCex_of s t d hd)
  · refine .inr fun y => ?_
    rw [Bool.eq_false_iff]
    exact fun h2 => h ⟨y, h2⟩

/-- The least one is less than tails and a common round. -/
theorem leastCex_lt {s t : ByteArray} {x p q : Nat} (h : LeastCex s t x) (hp : 0 < p) (h1 : ∃ k, p = k * (setR s).length) (h2 : ∃ k, p = k * (setR t).length) (hq1 : (setT s).length ≤ q) (hq2 : (setT t).length ≤ q) : x < q + p := by
  rcases Nat.lt_or_ge x (q + p) with k | k
  · exact k
  · obtain ⟨k1, e1⟩ := h1
    obtain ⟨k2, e2⟩ := h2
    have hh := h.is
    have hl := h.least (x - p) (by omega)
    have a1 : hasB (setT s) (setR s) x = hasB (setT s) (setR s) (x - p) := by
      have := hasB_rounds (setT s) (setR s) (x - p) k1 (by omega)
      rw [← e1, show x - p + p = x from by omega] at this
      exact this
    have a2 : hasB (setT t) (setR t) x = hasB (setT t) (setR t) (x - p) := by
      have := hasB_rounds (setT t) (setR t) (x - p) k2 (by omega)
      rw [← e2, show x - p + p = x from by omega] at this
      exact this
    unfold cex at hh hl
    rw [a1, a2, hl] at hh
    cases hh

/-- What SetBelow answers. -/
inductive BelowIs (s t : ByteArray) : Bool → Prop where
  | off : okS s = false ∨ okS t = false → BelowIs s t false
  | no (x : Nat) : okS s = true → okS t = true → LeastCex s t x → BelowIs s t false
  | yes : okS s = true → okS t = true → (∀ n, cex s t n = false) → BelowIs s t true

theorem below_form (s t : ByteArray) : ∃ b, BelowIs s t b := by
  cases h1 : okS s
  · exact ⟨_, .off (.inl h1)⟩
  · cases h2 : okS t
    · exact ⟨_, .off (.inr h2)⟩
    · rcases cex_cases s t with ⟨x, hx⟩ | hx
      · exact ⟨_, .no x h1 h2 hx⟩
      · exact ⟨_, .yes h1 h2 hx⟩

theorem cex_first {s t : ByteArray} {k : Nat} (h : cex s t k = true) : hasI (setT s) (setR s) (k : Int) = true ∧ hasI (setT t) (setR t) (k : Int) = false := by
  unfold cex at h
  rw [hasI_nat, hasI_nat]
  simpa using h

theorem cex_second {s t : ByteArray} {k : Nat} (h : cex s t k = false) : hasI (setT s) (setR s) (k : Int) = false ∨ (hasI (setT s) (setR s) (k : Int) = true ∧ hasI (setT t) (setR t) (k : Int) = true) := by
  unfold cex at h
  rw [hasI_nat, hasI_nat]
  cases h1 : hasB (setT s) (setR s) k
  · exact .inl rfl
  · right; rw [h1] at h; simpa using h

set_option maxHeartbeats 400000 in
theorem implBelow_off (s t : ByteArray) (m : Int) (w : World) (hs : s.size ≤ 1048576) (ht : t.size ≤ 1048576) (hL : LibAt m w) (h : okS s = false ∨ okS t = false) :
    Calls Try.prog 26 #[.string s, .string t] w fun e w' => e = .returned (.bool false) ∧ Below w.heap.size w w' := by
  cases h1 : okS s
  · cases h2 : okS t
    · go_enter Try.func26, Try.ntmps26
      go_wp2_with fail
      refine (split_off s m _ hs hL h1).mono ?_
      rintro e w1 ⟨rfl, hb⟩
      go_wp2_with fail
      refine (split_off t m _ ht (hL.below (hb.alloc hb.size _)) h2).mono ?_
      rintro e w2 ⟨rfl, hb2⟩
      go_wp2
      go_ret
      exact ⟨rfl, below_second hb hb2 _⟩
    · go_enter Try.func26, Try.ntmps26
      go_wp2_with fail
      refine (split_off s m _ hs hL h1).mono ?_
      rintro e w1 ⟨rfl, hb⟩
      go_wp2_with fail
      refine (split_on t m _ ht (hL.below (hb.alloc hb.size _)) h2).mono ?_
      rintro e w2 ⟨T, R, rfl, hb2, _⟩
      go_wp2
      go_ret
      exact ⟨rfl, below_second hb hb2 _⟩
  · have h2 : okS t = false := by rcases h with h | h; rw [h1] at h; cases h; exact h
    go_enter Try.func26, Try.ntmps26
    go_wp2_with fail
    refine (split_on s m _ hs hL h1).mono ?_
    rintro e w1 ⟨T, R, rfl, hb, _⟩
    go_wp2_with fail
    refine (split_off t m _ ht (hL.below (hb.alloc hb.size _)) h2).mono ?_
    rintro e w2 ⟨rfl, hb2⟩
    go_wp2
    go_ret
    exact ⟨rfl, below_second hb hb2 _⟩

/-- The world of the program's loop: two boxes. -/
structure BelowLoopI (T R T2 R2 : ByteArray) (B1 B2 : Nat) (w wr : World) : Prop where
  q0 : wr.cell? ⟨B1, 0, none⟩ = some (.string T)
  q1 : wr.cell? ⟨B1, 1, none⟩ = some (.string R)
  q2 : wr.cell? ⟨B2, 0, none⟩ = some (.string T2)
  q3 : wr.cell? ⟨B2, 1, none⟩ = some (.string R2)
  l1 : B1 < wr.heap.size
  l2 : B2 < wr.heap.size
  below : Below w.heap.size w wr

theorem BelowLoopI.step {T R T2 R2 : ByteArray} {B1 B2 : Nat} {w wr w' : World} (h : BelowLoopI T R T2 R2 B1 B2 w wr) (hb : Below wr.heap.size wr w') : BelowLoopI T R T2 R2 B1 B2 w w' := by
  have hs := hb.size
  exact ⟨(hb.cell (p := ⟨B1, 0, none⟩) h.l1).trans h.q0, (hb.cell (p := ⟨B1, 1, none⟩) h.l1).trans h.q1, (hb.cell (p := ⟨B2, 0, none⟩) h.l2).trans h.q2, (hb.cell (p := ⟨B2, 1, none⟩) h.l2).trans h.q3,
    Nat.lt_of_lt_of_le h.l1 hs, Nat.lt_of_lt_of_le h.l2 hs, h.below.trans (hb.mono h.below.size)⟩

theorem belowLoopI_start {T R T2 R2 : ByteArray} {w w1 w2 : World} (hb : Below w.heap.size w w1)
    (hb2 : Below (w1.alloc (.cells #[.string T, .string R] 81)).heap.size (w1.alloc (.cells #[.string T, .string R] 81)) w2) :
    BelowLoopI T R T2 R2 w1.heap.size w2.heap.size w (w2.alloc (.cells #[.string T2, .string R2] 81)) := by
  obtain ⟨⟨q0, q1⟩, q2, q3⟩ := boxes_later hb2 (Below.refl _ (w2.alloc (.cells #[.string T2, .string R2] 81)))
  have hs := hb2.size
  simp at hs
  exact ⟨q0, q1, q2, q3, by simp; omega, by simp, below_second hb hb2 _⟩

set_option maxRecDepth 100000 in
set_option maxHeartbeats 1000000 in
theorem implBelow_no (s t : ByteArray) (x : Nat) (m : Int) (w : World) (hs : s.size ≤ 1048576) (ht : t.size ≤ 1048576) (hL : LibAt m w) (h1 : okS s = true) (h2 : okS t = true) (hx : LeastCex s t x) :
    Calls Try.prog 26 #[.string s, .string t] w fun e w' => e = .returned (.bool false) ∧ Below w.heap.size w w' := by
  have HX := Lib.hid hx
  clear hx
  go_enter Try.func26, Try.ntmps26
  go_wp2_with fail
  refine (split_on s m _ hs hL h1).mono ?_
  rintro e w1 ⟨T, R, rfl, hb, hsp⟩
  go_wp2_with fail
  refine (split_on t m _ ht (hL.below (hb.alloc hb.size _)) h2).mono ?_
  rintro e w2 ⟨T2, R2, rfl, hb2, hsp2⟩
  have HL := belowLoopI_start (T2 := T2) (R2 := R2) hb hb2
  have q0 := HL.q0; have q1 := HL.q1; have q2 := HL.q2; have q3 := HL.q3
  have hlt := leastCex_lt (q := 60) HX.out (p := R.size * R2.size) (Nat.mul_pos hsp.ringPos hsp2.ringPos) ⟨R2.size, by rw [hsp.ringLen, Nat.mul_comm]⟩ ⟨R.size, by rw [hsp2.ringLen]⟩ (by rw [hsp.tailLen]; exact hsp.tailLe) (by rw [hsp2.tailLen]; exact hsp2.tailLe)
  have hm1 : R.size * R2.size ≤ 60 * 60 := Nat.mul_le_mul hsp.ringLe hsp2.ringLe
  obtain ⟨p, hp⟩ : ∃ p, p = R.size * R2.size := ⟨_, rfl⟩
  have hpi : (R.size : Int) * (R2.size : Int) = (p : Int) := by rw [hp, Int.natCast_mul]
  rw [← hp] at hlt hm1
  have HH := Lib.hid HL
  have HS := Lib.hid hsp
  have HS2 := Lib.hid hsp2
  clear hb hb2 HL hsp hsp2 hp
  go_wp2
  go_loopw [34] (fun i wr => ∃ k : Nat, k ≤ x ∧ i = .int .i64 k ∧ BelowLoopI T R T2 R2 w1.heap.size w2.heap.size w wr) (fun i _ => x + 1 - (intOf i).toNat)
  case atStart => exact ⟨0, Nat.zero_le _, rfl, HH.out⟩
  case round =>
    obtain ⟨k, hk, rfl, HL⟩ := hrel
    clear q0 q1 q2 q3
    have q0 := HL.q0; have q1 := HL.q1
    have hkl : (k : Int) < 60 + (p : Int) := by omega
    have HB := Lib.hid HL
    clear HL
    by_cases hlt : k < x
    · rcases cex_second (HX.out.least k hlt) with hv | ⟨hv, hv2⟩
      · go_wp2_with fail
        refine (has_on s T R k _ HS.out (by omega)).mono ?_
        rintro e w4 ⟨rfl, hb4⟩
        have HB4 := Lib.hid (HB.out.step hb4)
        clear hb4
        go_wp2
        go_roundw
        case rel => exact ⟨k + 1, by omega, by go_num, HB4.out⟩
        case measure => simp [intOf]; omega
      · go_wp2_with fail
        refine (has_on s T R k _ HS.out (by omega)).mono ?_
        rintro e w4 ⟨rfl, hb4⟩
        have HB4 := Lib.hid (HB.out.step hb4)
        clear hb4 q0 q1
        have q2 := HB4.out.q2; have q3 := HB4.out.q3
        go_wp2_with fail
        refine (has_on t T2 R2 k _ HS2.out (by omega)).mono ?_
        rintro e w5 ⟨rfl, hb5⟩
        have HB5 := Lib.hid (HB4.out.step hb5)
        clear hb5
        go_wp2
        go_roundw
        case rel => exact ⟨k + 1, by omega, by go_num, HB5.out⟩
        case measure => simp [intOf]; omega
    · obtain rfl : k = x := by omega
      obtain ⟨hv, hv2⟩ := cex_first HX.out.is
      go_wp2_with fail
      refine (has_on s T R k _ HS.out (by omega)).mono ?_
      rintro e w4 ⟨rfl, hb4⟩
      have HB4 := Lib.hid (HB.out.step hb4)
      clear hb4 q0 q1
      have q2 := HB4.out.q2; have q3 := HB4.out.q3
      go_wp2_with fail
      refine (has_on t T2 R2 k _ HS2.out (by omega)).mono ?_
      rintro e w5 ⟨rfl, hb5⟩
      have HB5 := Lib.hid (HB4.out.step hb5)
      clear hb5
      go_wp2
      go_ret
      exact ⟨rfl, HB5.out.below⟩

set_option maxRecDepth 100000 in
set_option maxHeartbeats 1000000 in
theorem implBelow_yes (s t : ByteArray) (m : Int) (w : World) (hs : s.size ≤ 1048576) (ht : t.size ≤ 1048576) (hL : LibAt m w) (h1 : okS s = true) (h2 : okS t = true) (hx : ∀ n, cex s t n = false) :
    Calls Try.prog 26 #[.string s, .string t] w fun e w' => e = .returned (.bool true) ∧ Below w.heap.size w w' := by
  have HX := Lib.hid hx
  clear hx
  go_enter Try.func26, Try.ntmps26
  go_wp2_with fail
  refine (split_on s m _ hs hL h1).mono ?_
  rintro e w1 ⟨T, R, rfl, hb, hsp⟩
  go_wp2_with fail
  refine (split_on t m _ ht (hL.below (hb.alloc hb.size _)) h2).mono ?_
  rintro e w2 ⟨T2, R2, rfl, hb2, hsp2⟩
  have HL := belowLoopI_start (T2 := T2) (R2 := R2) hb hb2
  have q0 := HL.q0; have q1 := HL.q1; have q2 := HL.q2; have q3 := HL.q3
  have hm1 : R.size * R2.size ≤ 60 * 60 := Nat.mul_le_mul hsp.ringLe hsp2.ringLe
  obtain ⟨p, hp⟩ : ∃ p, p = R.size * R2.size := ⟨_, rfl⟩
  have hpi : (R.size : Int) * (R2.size : Int) = (p : Int) := by rw [hp, Int.natCast_mul]
  rw [← hp] at hm1
  have HH := Lib.hid HL
  have HS := Lib.hid hsp
  have HS2 := Lib.hid hsp2
  clear hb hb2 HL hsp hsp2 hp
  go_wp2
  go_loopw [34] (fun i wr => ∃ k : Nat, k ≤ 60 + p ∧ i = .int .i64 k ∧ BelowLoopI T R T2 R2 w1.heap.size w2.heap.size w wr) (fun i _ => 61 + p - (intOf i).toNat)
  case atStart => exact ⟨0, Nat.zero_le _, rfl, HH.out⟩
  case round =>
    obtain ⟨k, hk, rfl, HL⟩ := hrel
    clear q0 q1 q2 q3
    have q0 := HL.q0; have q1 := HL.q1
    have HB := Lib.hid HL
    clear HL
    by_cases hlt : k < 60 + p
    · have hkl : (k : Int) < 60 + (p : Int) := by omega
      rcases cex_second (HX.out k) with hv | ⟨hv, hv2⟩
      · go_wp2_with fail
        refine (has_on s T R k _ HS.out (by omega)).mono ?_
        rintro e w4 ⟨rfl, hb4⟩
        have HB4 := Lib.hid (HB.out.step hb4)
        clear hb4
        go_wp2
        go_roundw
        case rel => exact ⟨k + 1, by omega, by go_num, HB4.out⟩
        case measure => simp [intOf]; omega
      · go_wp2_with fail
        refine (has_on s T R k _ HS.out (by omega)).mono ?_
        rintro e w4 ⟨rfl, hb4⟩
        have HB4 := Lib.hid (HB.out.step hb4)
        clear hb4 q0 q1
        have q2 := HB4.out.q2; have q3 := HB4.out.q3
        go_wp2_with fail
        refine (has_on t T2 R2 k _ HS2.out (by omega)).mono ?_
        rintro e w5 ⟨rfl, hb5⟩
        have HB5 := Lib.hid (HB4.out.step hb5)
        clear hb5
        go_wp2
        go_roundw
        case rel => exact ⟨k + 1, by omega, by go_num, HB5.out⟩
        case measure => simp [intOf]; omega
    · have hkl : 60 + (p : Int) ≤ (k : Int) := by omega
      go_wp2
      go_ret
      exact ⟨rfl, HB.out.below⟩

theorem implBelow (s t : ByteArray) (m : Int) (b : Bool) (w : World) (hs : s.size ≤ 1048576) (ht : t.size ≤ 1048576) (hL : LibAt m w) (h : BelowIs s t b) :
    Calls Try.prog 26 #[.string s, .string t] w fun e w' => e = .returned (.bool b) ∧ Below w.heap.size w w' := by
  cases h with
  | off h => exact implBelow_off s t m w hs ht hL h
  | no x h1 h2 hx => exact implBelow_no s t x m w hs ht hL h1 h2 hx
  | yes h1 h2 hx => exact implBelow_yes s t m w hs ht hL h1 h2 hx

end Go.Proofs.Ytiphooodijbhiab

namespace Go.Proofs.Ytiphooodijbhiab
open Go.RowKit

/-- The sizes of the tidy tail and ring of a set text. -/
def SizesOf (s : ByteArray) (m q : Nat) : Prop := Tidy (fS s) m q ∧ m ≤ 60 ∧ q ≤ 60

theorem sizes_of {s : ByteArray} {m q : Nat} (h : okS s = true) (ht : Tidy (fS s) m q) : SizesOf s m q := by
  obtain ⟨a, b⟩ := tidy_le_any (t := setT s) (r := setR s) (setR_pos h) ht
  have h1 := setT_le h
  have h2 := setR_le h
  exact ⟨ht, by omega, by omega⟩

set_option maxHeartbeats 400000 in
theorem implSizes_off (s : ByteArray) (m : Int) (w : World) (hs : s.size ≤ 1048576) (hL : LibAt m w) (h : okS s = false) :
    Calls Try.prog 25 #[.string s] w fun e w' => e = .returned (.tuple #[.int .i64 0, .int .i64 0, .bool false]) ∧ Below w.heap.size w w' := by
  go_enter Try.func25, Try.ntmps25
  go_wp2_with fail
  refine (split_off s m _ hs hL h).mono ?_
  rintro e w1 ⟨rfl, hb⟩
  go_wp2
  go_ret3
  exact ⟨rfl, hb.alloc hb.size _⟩

set_option maxRecDepth 100000 in
set_option maxHeartbeats 1000000 in
theorem implSizes_on (s : ByteArray) (m q : Nat) (g : Int) (w : World) (hs : s.size ≤ 1048576) (hL : LibAt g w) (h : okS s = true) (hT : SizesOf s m q) :
    Calls Try.prog 25 #[.string s] w fun e w' => e = .returned (.tuple #[.int .i64 m, .int .i64 q, .bool true]) ∧ Below w.heap.size w w' := by
  have H := Lib.hid hT
  clear hT
  go_enter Try.func25, Try.ntmps25
  go_wp2_with fail
  refine (split_on s g _ hs hL h).mono ?_
  rintro e w1 ⟨T, R, rfl, hb, hsp⟩
  go_wp2_with fail
  refine (first_any s T R _ hsp).mono ?_
  rintro e w2 ⟨rfl, hb2⟩
  have HB := Lib.hid (box_below hb hb2)
  clear hb hb2
  go_wp2_with (first
    | (refine wpList_store_row rfl 90 _ _ rfl w2.heap.size (firstV (fS s)) rfl rfl 90 Try.zeroCells90 (heap_alloc_new w2 _) (by rw [firstV_size]; exact Try.infoFirst) (by rw [firstV_size]; exact zeroFirst_size) (firstV_one _) ?_; rw [World.setRow_alloc_new])
    | (refine wpList_load_row rfl 90 _ rfl w2.heap.size rfl 90 (firstV (fS s)) (0, 0) _ (heap_alloc_new w2 _) Try.underlying90 rfl (by rw [firstV_size]; exact Try.infoFirst) ?_))
  refine (ringSize_any (fS s) m q _ H.out.1 H.out.2.1 H.out.2.2).mono ?_
  rintro e w3 ⟨rfl, hb3⟩
  have HR : Hid (w3.heap[w2.heap.size]? = some (.cells (firstV (fS s)) 90 (0, 0))) := Lib.hid ((hb3.block w2.heap.size (by simp)).trans (heap_alloc_new w2 _))
  have HB3 := Lib.hid ((HB.out.alloc HB.out.size _).trans (hb3.mono (by have := HB.out.size; simp; omega)))
  clear hb3
  go_wp2_with (refine wpList_load_row rfl 90 _ rfl w2.heap.size rfl 90 (firstV (fS s)) (0, 0) _ HR.out Try.underlying90 rfl (by rw [firstV_size]; exact Try.infoFirst) ?_)
  refine (tailSize_any (fS s) m q _ H.out.1 H.out.2.1 H.out.2.2).mono ?_
  rintro e w4 ⟨rfl, hb4⟩
  go_wp2
  go_ret3
  exact ⟨rfl, HB3.out.trans (hb4.mono HB3.out.size)⟩

end Go.Proofs.Ytiphooodijbhiab

set_option linter.unusedVariables false
set_option linter.unusedSimpArgs false
namespace Go.Proofs.Ytiphooodijbhiab
open Go.RowKit

theorem low_above {s t T : ByteArray} (h2 : smallS t = true) (hT : okS T = true) (hF : fS T = lowF (fS s) (fS t)) : BelowIs t T true :=
  .yes (small_ok h2) hT fun n => by
    show (fS t n && !fS T n) = false
    rw [hF]
    cases e : fS t n
    · rfl
    · rw [low_base e]; rfl
theorem most_above {s t T V : ByteArray} (hT : okS T = true) (hF : fS T = lowF (fS s) (fS t)) (hV : okS V = true) (hVf : fS V = mostF (fS s) (fS t)) : BelowIs T V true :=
  .yes hT hV fun n => by
    show (fS T n && !fS V n) = false
    rw [hF, hVf]
    cases e : lowF (fS s) (fS t) n
    · rfl
    · rw [most_of_low e]; rfl
theorem low_solves {s t T : ByteArray} {x y : Nat} (h1 : smallS s = true) (h2 : smallS t = true) (hT : okS T = true) (hF : fS T = lowF (fS s) (fS t)) (hz : Tidy (fS T) x y) (hx : x ≤ 8) (hy : y ≤ 8) : isW s t T = true := by
  have h3 : smallS T = true := smallS_iff.2 ⟨hT, x, y, hz, hx, hy⟩
  unfold isW
  rw [h1, h2, h3, Bool.true_and, Bool.true_and, Bool.true_and, isV_iff, hF, low_due]

set_option maxRecDepth 100000 in
set_option maxHeartbeats 4000000 in
theorem pSolveLeast (a : Option Addr) (n c : Nat) (zs : List Int) (w : World) (hr : IsRow .u8 w a n c zs) (m : Int) (hg : 0 < w.heap.size) (hm : w.cell? ⟨0, 0, none⟩ = some (.int .i64 m)) :
    Calls Try.prog 5 #[.slice a n c] w fun e w' => e = .returned (.bool true) ∧ Below w.heap.size w w' := by
  by_cases hn : n ≤ 1048576
  · have hL : LibAt m w := ⟨hg, hm⟩
    clear hg hm
    have hB := Lib.hid hr.bytes
    have hC := Lib.hid hr.cap
    clear hr
    go_enter Try.func5, Try.ntmps5
    go_wp2_with fail
    refine (drawSolveLeast a n c _ hB.out hn hC.out).mono ?_
    rintro e w1 ⟨s, t, rfl, hs, ht, hb1⟩
    have HB1 := Lib.hid hb1
    have HL1 := Lib.hid (hL.below hb1)
    clear hb1
    go_wp2_with fail
    refine (implLeast s t m _ (by omega) (by omega) HL1.out).mono ?_
    rintro e w2 ⟨⟨T, b, rfl, hm2⟩, hx2⟩
    have HB2 := Lib.hid (below_step HB1.out hx2)
    have HL2 := Lib.hid (HL1.out.below hx2)
    have HM := Lib.hid hm2
    clear hm2
    clear hx2
    go_wp2_with fail
    refine (specLeast s t _ (by omega) (by omega)).mono ?_
    rintro e w3 ⟨⟨U, c, rfl, hm3⟩, hx3⟩
    have HB3 := Lib.hid (below_step HB2.out hx3)
    have HL3 := Lib.hid (HL2.out.below hx3)
    obtain ⟨rfl, rfl⟩ := makeIs_unique HM.out hm3
    clear hm3
    clear hx3
    cases b
    · go_wp2
      go_ret
      exact ⟨ret_bool (by simp), HB3.out⟩
    · obtain ⟨_, h1, h2, hT, hTf, _⟩ := least_told HM.out
      have hTs := told_size hT
      have HS1 := Lib.hid h1
      have HS2 := Lib.hid h2
      have HT := Lib.hid hT
      have HF := Lib.hid hTf
      obtain ⟨x, y, hxy, hx6, hy6⟩ := tidy_there hT
      have HZ := Lib.hid hxy
      clear h1 h2 hT hTf hxy
      go_wp2_with fail
      refine (implMost s t m _ (by omega) (by omega) HL3.out).mono ?_
      rintro e w4 ⟨⟨V, p, rfl, hm4⟩, hx4⟩
      have HB4 := Lib.hid (below_step HB3.out hx4)
      have HL4 := Lib.hid (HL3.out.below hx4)
      have HV := Lib.hid hm4
      have hVs := makeIs_sizeI hm4
      clear hm4
      clear hx4
      go_wp2_with fail
      refine (implSizes_on T x y m _ hTs HL4.out HT.out ⟨HZ.out, hx6, hy6⟩).mono ?_
      rintro e w5 ⟨rfl, hx5⟩
      have HB5 := Lib.hid (below_step HB4.out hx5)
      have HL5 := Lib.hid (HL4.out.below hx5)
      clear hx5
      go_wp2_with fail
      refine (implBelow t T m true _ (by omega) hTs HL5.out (low_above HS2.out HT.out HF.out)).mono ?_
      rintro e w6 ⟨rfl, hx6⟩
      have HB6 := Lib.hid (below_step HB5.out hx6)
      have HL6 := Lib.hid (HL5.out.below hx6)
      clear hx6
      cases p
      · by_cases hx8 : x ≤ 8
        · have i1 : ¬ (8 : Int) < (x : Int) := by omega
          by_cases hy8 : y ≤ 8
          · have i2 : ¬ (8 : Int) < (y : Int) := by omega
            have HI := Lib.hid (low_solves HS1.out HS2.out HT.out HF.out HZ.out hx8 hy8)
            have HC := Lib.hid (fun W hL => implSolveIs s t T m W (by omega) (by omega) hTs hL)
            rw [HI.out] at HC
            go_wp2_with fail
            refine (HC.out _ HL6.out).mono ?_
            rintro e w7 ⟨rfl, hx7⟩
            have HB7 := Lib.hid (below_step HB6.out hx7)
            have HL7 := Lib.hid (HL6.out.below hx7)
            clear hx7
            go_wp2
            go_ret
            exact ⟨ret_bool (by simp), HB7.out⟩
          · have i2 : (8 : Int) < (y : Int) := by omega
            go_wp2
            go_ret
            exact ⟨ret_bool (by simp), HB6.out⟩
        · have i1 : (8 : Int) < (x : Int) := by omega
          go_wp2
          go_ret
          exact ⟨ret_bool (by simp), HB6.out⟩
      · obtain ⟨_, _, hV, hVf, _⟩ := most_told HV.out
        have HV2 := Lib.hid hV
        have HVf := Lib.hid hVf
        clear hV hVf
        go_wp2_with fail
        refine (implBelow T V m true _ hTs hVs HL6.out (most_above HT.out HF.out HV2.out HVf.out)).mono ?_
        rintro e w7 ⟨rfl, hx7⟩
        have HB7 := Lib.hid (below_step HB6.out hx7)
        have HL7 := Lib.hid (HL6.out.below hx7)
        clear hx7
        by_cases hx8 : x ≤ 8
        · have i1 : ¬ (8 : Int) < (x : Int) := by omega
          by_cases hy8 : y ≤ 8
          · have i2 : ¬ (8 : Int) < (y : Int) := by omega
            have HI := Lib.hid (low_solves HS1.out HS2.out HT.out HF.out HZ.out hx8 hy8)
            have HC := Lib.hid (fun W hL => implSolveIs s t T m W (by omega) (by omega) hTs hL)
            rw [HI.out] at HC
            go_wp2_with fail
            refine (HC.out _ HL7.out).mono ?_
            rintro e w8 ⟨rfl, hx8⟩
            have HB8 := Lib.hid (below_step HB7.out hx8)
            have HL8 := Lib.hid (HL7.out.below hx8)
            clear hx8
            go_wp2
            go_ret
            exact ⟨ret_bool (by simp), HB8.out⟩
          · have i2 : (8 : Int) < (y : Int) := by omega
            go_wp2
            go_ret
            exact ⟨ret_bool (by simp), HB7.out⟩
        · have i1 : (8 : Int) < (x : Int) := by omega
          go_wp2
          go_ret
          exact ⟨ret_bool (by simp), HB7.out⟩
  · have hd : (1048576 : Int) < (n : Int) := by omega
    go_enter Try.func5, Try.ntmps5
    go_wp2
    go_ret
    exact ⟨rfl, Below.refl _ _⟩

end Go.Proofs.Ytiphooodijbhiab
