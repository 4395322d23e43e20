/-
  The walk of spec.l91Term: a term that is drawn.
-/
import Derived.Test.YtiphooodijbhiaaDrawOpen
import Derived.Deep.RegionWith
namespace Go.Proofs.Ytiphooodijbhiaa
open Go.RowKit
set_option linter.unusedVariables false

namespace DrawnTerm
theorem ralloc {R : Nat} {a : Option Addr} {n c p : Nat} {w : World} (h : Rd R a n c p w) (o : Obj) : Rd R a n c p (w.alloc o) := h.below ((Below.refl w.heap.size w).alloc (Nat.le_refl _) o) h.lt
theorem rdrew {R : Nat} {a : Option Addr} {n c p : Nat} {w : World} (h : Rd R a n c p w) : Rd R a n c p w.drew := h.below ((Below.refl w.heap.size w).drew) h.lt
theorem rdrewN {R : Nat} {a : Option Addr} {n c p : Nat} {w : World} (h : Rd R a n c p w) (j : Nat) : Rd R a n c p (w.drewN j) := h.below (below_drewN (Below.refl w.heap.size w) j) h.lt
theorem aalloc {R : Nat} {w w1 : World} (hR : R < w.heap.size) (h : Apart R w w1) (o : Obj) : Apart R w (w1.alloc o) := h.step (by have := h.below.size; omega) ((Below.refl _ _).alloc (Nat.le_refl _) o)
theorem adrewN {R : Nat} {w w1 : World} (h : Apart R w w1) (j : Nat) : Apart R w (w1.drewN j) := ⟨below_drewN h.below j, fun k hk hr => ((below_drewN (Below.refl w1.heap.size w1) j).block k (Nat.lt_of_lt_of_le hk h.below.size)).trans (h.block k hk hr)⟩
theorem adrew {R : Nat} {w w1 : World} (h : Apart R w w1) : Apart R w w1.drew := ⟨h.below.drew, h.block⟩
end DrawnTerm

macro "rdt " h:ident : tactic => `(tactic| with_reducible (repeat (first | exact (Hid.out $h) | refine DrawnTerm.rdrewN ?_ _ | refine DrawnTerm.rdrew ?_ | refine DrawnTerm.ralloc ?_ _ | fail "up")))
macro "apt " h:ident : tactic => `(tactic| with_reducible (repeat (first | exact (Hid.out $h) | refine DrawnTerm.adrewN ?_ _ | refine DrawnTerm.adrew ?_ | (refine DrawnTerm.aalloc ?_ ?_ _; omega) | fail "up")))

/-- A table's block. -/
def TableIs (D : Nat) (cs : Array Value) (T : TypeId) (w : World) : Prop := w.heap[D]? = some (.cells cs T (0, 0)) 
theorem table_later {R D : Nat} {cs : Array Value} {T : TypeId} {w w' : World} (h : TableIs D cs T w) (hap : Apart R w w') (hD : D ≠ R) : TableIs D cs T w' := by
  have : D < w.heap.size := by
    rcases Nat.lt_or_ge D w.heap.size with k | k
    · exact k
    · unfold TableIs at h; rw [Array.getElem?_eq_none k] at h; cases h
  exact (hap.block D this hD).trans h

def TermEnds (R : Nat) (a : Option Addr) (n c p B : Nat) (w : World) (e : Ending) (w' : World) : Prop :=
  ∃ (s : ByteArray) (p' : Nat), e = .returned (.string s) ∧ 1 ≤ s.size ∧ s.size ≤ B ∧ p' ≤ p + B ∧ Rd R a n c p' w' ∧ Apart R w w'

/-- A term that is drawn, d deep. -/
def TermAt (d B : Nat) : Prop := ∀ {R : Nat} {a : Option Addr} {n c p : Nat} {w : World}, Rd R a n c p w → p + 2 * B ≤ 50000 →
  Calls Try.prog 109 #[.pointer (some ⟨R, 0, none⟩), .int .i64 d] w (TermEnds R a n c p B w)

/-- One of four signs. -/
theorem four_at (c0 c1 c2 c3 : UInt8) (v : Nat) (hv : v < 4) : ∃ s : ByteArray, s.size = 1 ∧ (#[Value.string ⟨#[c0]⟩, Value.string ⟨#[c1]⟩, Value.string ⟨#[c2]⟩, Value.string ⟨#[c3]⟩] : Array Value)[v]? = some (.string s) := by
  have : v = 0 ∨ v = 1 ∨ v = 2 ∨ v = 3 := by omega
  rcases this with rfl | rfl | rfl | rfl <;> exact ⟨_, rfl, rfl⟩

set_option maxRecDepth 100000 in
set_option maxHeartbeats 4000000 in
theorem term_zero : TermAt 0 1 := by
  intro R a n c p w h hp
  have hR := h.lt
  have H := Lib.hid h
  clear h
  go_enter Try.func109, Try.ntmps109
  go_wp2_with fail
  refine (pick_rd (H.out.below ((Below.refl _ _).alloc (Nat.le_refl _) _) hR) 4 (by omega) (by omega) (by omega)).mono ?_
  rintro e w4 ⟨y, rfl, hy, hrd4, hap4, hsz4⟩
  obtain ⟨t, ht, htc⟩ := four_at _ _ _ _ y hy
  have hc := (table_cell hap4 hR y).trans htc
  have HA4 := Lib.hid ((Apart.of_below (Nat.le_of_lt hR) ((Below.refl _ _).alloc (Nat.le_refl _) _)).trans hap4)
  have HR4 := Lib.hid hrd4
  have hy4 : (y : Int) < 4 := by omega
  clear hap4 hrd4 hsz4 htc
  go_wp2
  go_ret
  exact ⟨t, _, rfl, by omega, by omega, by omega, HR4.out, HA4.out⟩

theorem term_call {d B : Nat} (IH : TermAt d B) {R : Nat} {a : Option Addr} {n c p : Nat} {w : World} (h : Rd R a n c p w) (X : Int) (hX : X = (d : Int)) (hp : p + 2 * B ≤ 50000) :
    Calls Try.prog 109 #[.pointer (some ⟨R, 0, none⟩), .int .i64 X] w (TermEnds R a n c p B w) := by subst hX; exact IH h hp

/-- One of the table's signs, at once or later on. -/
theorem four_new {cs : Array Value} {T : TypeId} {v : Nat} {s : ByteArray} (h : cs[v]? = some (.string s)) (W : World) : (W.alloc (.cells cs T)).cell? ⟨W.heap.size, v, none⟩ = some (.string s) := by
  rw [World.cell?_alloc_at _ _ _ _ rfl]; exact h
theorem table_new {cs : Array Value} {T : TypeId} {R : Nat} {W w' : World} (hap : Apart R (W.alloc (.cells cs T)) w') (hR : R < W.heap.size) : TableIs W.heap.size cs T w' := by
  have h := hap.block W.heap.size (by simp) (by omega)
  exact h.trans (heap_alloc_new W _)
theorem table_newN {cs : Array Value} {T : TypeId} {R : Nat} {W w' : World} {j : Nat} (hap : Apart R ((W.drewN j).alloc (.cells cs T)) w') (hR : R < W.heap.size) : TableIs W.heap.size cs T w' := table_new (W := W.drewN j) hap hR
theorem table_newM {cs : Array Value} {T : TypeId} {R : Nat} {W w' : World} {j : Nat} (hap : Apart R ((W.alloc (.cells cs T)).drewN j) w') (hR : R < W.heap.size) : TableIs W.heap.size cs T w' :=
  table_later (table_later (table_new (Apart.refl R _) hR) (DrawnTerm.adrewN (Apart.refl R _) j) (by omega)) hap (by omega)
theorem table_newD {cs : Array Value} {T : TypeId} {R : Nat} {W w' : World} (hap : Apart R ((W.alloc (.cells cs T)).drew) w') (hR : R < W.heap.size) : TableIs W.heap.size cs T w' :=
  table_later (table_later (table_new (Apart.refl R _) hR) (DrawnTerm.adrew (Apart.refl R _)) (by omega)) hap (by omega)
theorem table_at {D : Nat} {cs : Array Value} {T : TypeId} {w : World} {v : Nat} {s : ByteArray} (h : TableIs D cs T w) (hs : cs[v]? = some (.string s)) : w.cell? ⟨D, v, none⟩ = some (.string s) := by
  have h1 : w.heap[D]? = some (.cells cs T (0, 0)) := h
  unfold World.cell?
  simp [h1, hs]

set_option maxRecDepth 100000 in
set_option maxHeartbeats 8000000 in
theorem term_step {d B m : Nat} (hd : d ≤ 2) (hB : B ≤ 13) (hm : m = d + 1) (IH : TermAt d B) : TermAt m (2 * B + 3) := by
  intro R a n c p w h hp
  have hR := h.lt
  have H := Lib.hid h
  have b0 : ((m : Int) == 0) = false := by rw [beq_eq_false_iff_ne]; omega
  clear h
  go_enter Try.func109, Try.ntmps109
  go_wp2_with fail
  refine (pick_rd H.out 5 (by omega) (by omega) (by omega)).mono ?_
  rintro e w1 ⟨v, rfl, hv, hrd1, hap1, hsz1⟩
  have hR1 := hrd1.lt
  have HR1 := Lib.hid hrd1
  have HA1 := Lib.hid hap1
  clear hrd1 hap1 hsz1
  by_cases h0 : v = 0
  · subst h0
    go_wp2_with fail
    refine (pick_rd (HR1.out.below ((Below.refl _ _).alloc (Nat.le_refl _) _) hR1) 4 (by omega) (by omega) (by omega)).mono ?_
    rintro e w4 ⟨y, rfl, hy, hrd4, hap4, hsz4⟩
    obtain ⟨t, ht, htc⟩ := four_at _ _ _ _ y hy
    have hc := (table_cell hap4 hR1 y).trans htc
    have HA4 := Lib.hid (HA1.out.trans ((Apart.of_below (Nat.le_of_lt hR1) ((Below.refl _ _).alloc (Nat.le_refl _) _)).trans hap4))
    have HR4 := Lib.hid hrd4
    have hy4 : (y : Int) < 4 := by omega
    clear hap4 hrd4 hsz4 htc
    go_wp2
    go_ret
    exact ⟨t, _, rfl, by omega, by omega, by omega, HR4.out, HA4.out⟩
  · have v0 : ((v : Int) == 0) = false := by rw [beq_eq_false_iff_ne]; omega
    go_wp2_with fail
    refine (pick_rd HR1.out 6 (by omega) (by omega) (by omega)).mono ?_
    rintro e w2 ⟨k, rfl, hk, hrd2, hap2, hsz2⟩
    have hR2 := hrd2.lt
    have HR2 := Lib.hid hrd2
    have HA2 := Lib.hid (HA1.out.trans hap2)
    clear hrd2 hap2 hsz2 HR1 HA1
    by_cases k0 : k = 0
    · subst k0
      go_wp2_with fail
      refine (term_call IH HR2.out _ (by first | omega | (rw [IntWalk.i64_in _ (by omega)]; omega)) (by omega)).mono ?_
      rintro e w3 ⟨t, p3, rfl, ht1, ht2, hp3, hrd3, hap3⟩
      have HR3 := Lib.hid hrd3
      have HA3 := Lib.hid (HA2.out.trans hap3)
      clear hrd3 hap3
      go_wp2
      go_ret
      refine ⟨_, _, rfl, ?_, ?_, by omega, HR3.out, HA3.out⟩ <;> (rw [ByteArray.size_append]; have e1 : ({ data := #[42] } : ByteArray).size = 1 := rfl; omega)
    · by_cases k1 : k = 1
      · subst k1
        have HID := Lib.hid (Apart.refl R w2)
        obtain ⟨IHH⟩ : Nonempty (Hid (TermAt d B)) := ⟨Lib.hid IH⟩
        go_wp2_with fail
        go_region_with (first
          | (go_at_call 60; (with_reducible refine (pick_rdi (a := a) (n := n) (c := c) (p := p + 1 + 1) ?_ (4 : Int) 4 rfl (by omega) (by omega) (by omega)).mono ?_); rdt HR2; rintro e w3 ⟨y, rfl, hy, hrd3, hap3, hsz3⟩; have hR3 := hrd3.lt; have HR3 := Lib.hid hrd3; have HA3 := Lib.hid (show Apart R w w3 from (by refine Apart.trans ?_ hap3; apt HA2)); obtain ⟨s, hs1, hs⟩ := four_at 50 51 52 53 y hy; have hs2 := fun T W => four_new (T := T) hs W; have hy4 : (y : Int) < 4 := (by omega); (first | (with_reducible have htab3 := table_new hap3 hR2) | (with_reducible have htab3 := table_newD hap3 hR2) | (with_reducible have htab3 := table_newM hap3 hR2) | (with_reducible have htab3 := table_newN hap3 hR2) | skip); (first | have hcell3 := table_at htab3 hs | skip); clear hrd3 hsz3)
          | (go_at_call 109; (with_reducible refine (term_call IHH.out (a := a) (n := n) (c := c) (p := p + 1 + 1 + 1) ?_ _ ?_ ?_).mono ?_); rdt HR3; (first | omega | exact IntWalk.i64_in _ (by omega) | (rw [IntWalk.i64_in _ (by omega)]; done) | (rw [IntWalk.i64_in _ (by omega)]; omega)); omega; rintro e w4 ⟨t, p4, rfl, ht1, ht2, hp4, hrd4, hap4⟩; have HR4 := Lib.hid hrd4; have HA4 := Lib.hid (show Apart R w w4 from (by refine Apart.trans ?_ hap4; apt HA3)); (first | (with_reducible have htab4 := table_later htab3 hap4 (by omega)) | (with_reducible have htab4 := table_new hap4 hR3) | (with_reducible have htab4 := table_newD hap4 hR3) | (with_reducible have htab4 := table_newM hap4 hR3) | (with_reducible have htab4 := table_newN hap4 hR3) | skip); (first | have hcell4 := table_at htab4 hs | skip); clear hrd4 hap4))
        all_goals
          go_wp2
          go_ret
          refine ⟨s ++ t, p4, rfl, ?_, ?_, ?_, ?_, ?_⟩
          · rw [ByteArray.size_append]; omega
          · rw [ByteArray.size_append]; omega
          · omega
          · rdt HR4
          · apt HA4
      · have k0' : ((k : Int) == 0) = false := by rw [beq_eq_false_iff_ne]; omega
        have k1' : ((k : Int) == 1) = false := by rw [beq_eq_false_iff_ne]; omega
        obtain ⟨IHH⟩ : Nonempty (Hid (TermAt d B)) := ⟨Lib.hid IH⟩
        clear H IH
        go_wp2_with fail
        go_region_with (first
          | (go_at_call 109; (with_reducible refine (term_call IHH.out (a := a) (n := n) (c := c) (p := p + 1 + 1) ?_ _ ?_ ?_).mono ?_); rdt HR2; (first | omega | exact IntWalk.i64_in _ (by omega) | (rw [IntWalk.i64_in _ (by omega)]; done) | (rw [IntWalk.i64_in _ (by omega)]; omega)); omega; rintro e w3 ⟨t1, p3, rfl, hta1, hta2, hp3, hrd3, hap3⟩; have hR3 := hrd3.lt; have HR3 := Lib.hid hrd3; have HA3 := Lib.hid (show Apart R w w3 from (by refine Apart.trans ?_ hap3; apt HA2)); (first | (with_reducible have htab3 := table_new hap3 hR2) | (with_reducible have htab3 := table_newD hap3 hR2) | (with_reducible have htab3 := table_newM hap3 hR2) | (with_reducible have htab3 := table_newN hap3 hR2) | skip); clear hrd3)
          | (go_at_call 60; (with_reducible refine (pick_rdi (a := a) (n := n) (c := c) (p := p3) ?_ (4 : Int) 4 rfl (by omega) (by omega) (by omega)).mono ?_); rdt HR3; rintro e w4 ⟨y, rfl, hy, hrd4, hap4, hsz4⟩; have hR4 := hrd4.lt; have HR4 := Lib.hid hrd4; have HA4 := Lib.hid (show Apart R w w4 from (by refine Apart.trans ?_ hap4; apt HA3)); obtain ⟨s, hs1, hs⟩ := four_at 43 43 46 38 y hy; have hs2 := fun T W => four_new (T := T) hs W; have hy4 : (y : Int) < 4 := (by omega); (first | (with_reducible have htab4 := table_later htab3 hap4 (by omega)) | (with_reducible have htab4 := table_new hap4 hR3) | (with_reducible have htab4 := table_newD hap4 hR3) | (with_reducible have htab4 := table_newM hap4 hR3) | (with_reducible have htab4 := table_newN hap4 hR3) | skip); (first | have hcell4 := table_at htab4 hs | skip); clear hrd4 hsz4)
          | (go_at_call 109; (with_reducible refine (term_call IHH.out (a := a) (n := n) (c := c) (p := p3 + 1) ?_ _ ?_ ?_).mono ?_); rdt HR4; (first | omega | exact IntWalk.i64_in _ (by omega) | (rw [IntWalk.i64_in _ (by omega)]; done) | (rw [IntWalk.i64_in _ (by omega)]; omega)); omega; rintro e w5 ⟨t2, p5, rfl, htb1, htb2, hp5, hrd5, hap5⟩; have HR5 := Lib.hid hrd5; have HA5 := Lib.hid (show Apart R w w5 from (by refine Apart.trans ?_ hap5; apt HA4)); (first | (with_reducible have htab5 := table_later htab4 hap5 (by omega)) | (with_reducible have htab5 := table_new hap5 hR4) | (with_reducible have htab5 := table_newD hap5 hR4) | (with_reducible have htab5 := table_newM hap5 hR4) | (with_reducible have htab5 := table_newN hap5 hR4) | skip); (first | have hcell5 := table_at htab5 hs | skip); clear hrd5))
        all_goals
          go_wp2
          go_ret
          refine ⟨(⟨#[40]⟩ : ByteArray) ++ t1 ++ s ++ t2 ++ (⟨#[41]⟩ : ByteArray), p5, rfl, ?_, ?_, ?_, ?_, ?_⟩
          · simp only [ByteArray.size_append]; have e1 : ({ data := #[40] } : ByteArray).size = 1 := rfl; have e2 : ({ data := #[41] } : ByteArray).size = 1 := rfl; omega
          · simp only [ByteArray.size_append]; have e1 : ({ data := #[40] } : ByteArray).size = 1 := rfl; have e2 : ({ data := #[41] } : ByteArray).size = 1 := rfl; omega
          · omega
          · rdt HR5
          · apt HA5

end Go.Proofs.Ytiphooodijbhiaa
