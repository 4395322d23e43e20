/-
  The walks of the model's own drawing: l6Open, pick, l91Signs, l91Set, l91Number. What is drawn is small; which value it is does not matter. A reader is opened; what is laid while it is read stays.
-/
import Derived.Test.YtojjfkabepkhdaaHasMath
import Derived.Deep.QuietTactic
import Derived.BigQuiet
import Derived.IntWalk
import Derived.Lib.MinMax
namespace Go.Proofs.Ytojjfkabepkhdaa
open Go.RowKit

/-- A slice of bytes that is read: some bytes, whichever. -/
def Bytes (w : World) (a : Option Addr) (n : Nat) : Prop :=
  n = 0 ∨ ∃ g o, a = some ⟨g, o, none⟩ ∧ g < w.heap.size ∧ ∀ i, i < n → ∃ z : Int, w.cell? ⟨g, o + i, none⟩ = some (.int .u8 z) ∧ 0 ≤ z ∧ z ≤ 255

theorem xor64 (X : Nat) (hX : X < 4611686018427387904) : ∃ Y : Nat, Go.bits .xor .i64 (X : Int) ((X : Int) / 64) = (Y : Int) := by
  refine ⟨X ^^^ X / 64, ?_⟩
  have d : ((X : Int) / 64) = ((X / 64 : Nat) : Int) := (Int.natCast_ediv X 64).symm
  have hx : X ^^^ X / 64 < 2 ^ 62 := Nat.xor_lt_two_pow (by omega) (by omega)
  have h1 : (BitVec.ofInt 64 (X : Int)).toNat = X := by
    rw [BitVec.ofInt_natCast, BitVec.toNat_ofNat]; exact Nat.mod_eq_of_lt (by omega)
  have h2 : (BitVec.ofInt 64 ((X / 64 : Nat) : Int)).toNat = X / 64 := by
    rw [BitVec.ofInt_natCast, BitVec.toNat_ofNat]; exact Nat.mod_eq_of_lt (by omega)
  rw [d]
  show IntKind.i64.wrap ((BitVec.ofInt 64 (X : Int) ^^^ BitVec.ofInt 64 ((X / 64 : Nat) : Int)).toNat : Int) = _
  rw [BitVec.toNat_xor, h1, h2]
  exact IntWalk.i64_in _ (by omega)

set_option maxRecDepth 100000 in
set_option maxHeartbeats 1000000 in
theorem pick_core (R : Nat) (a : Option Addr) (n c p m : Nat) (w : World) (hB : Bytes w a n) (hn : n ≤ 2000) (hp : p ≤ 100000) (hm0 : 0 < m) (hm : m ≤ 1000000) (q0 : w.cell? ⟨R, 0, none⟩ = some (.slice a n c)) (q1 : w.cell? ⟨R, 1, none⟩ = some (.int .i64 p)) (f1 : w.frozen? ⟨R, 1, none⟩ = false) (hR : ∀ g o, a = some ⟨g, o, none⟩ → n = 0 ∨ g ≠ R) :
    Calls Try.prog 44 #[.pointer (some ⟨R, 0, none⟩), .int .i64 m] w fun e w' =>
      ∃ v : Nat, v < m ∧ e = .returned (.int .i64 v) ∧ ∃ j, w' = (w.setCell ⟨R, 1, none⟩ (.int .i64 ((p : Int) + 1))).drewN j := by
  have q0' : (w.setCell ⟨R, 1, none⟩ (.int .i64 ((p : Int) + 1))).cell? ⟨R, 0, none⟩ = some (.slice a n c) := (World.cell?_setCell_other _ _ _ _ (by simp)).trans q0
  have q1' : (w.setCell ⟨R, 1, none⟩ (.int .i64 ((p : Int) + 1))).cell? ⟨R, 1, none⟩ = some (.int .i64 ((p : Int) + 1)) := World.cell?_setCell_same _ _ _ q1
  by_cases h0 : n = 0
  · subst h0
    go_enter Try.func44, Try.ntmps44
    go_wp2
    go_ret
    exact ⟨0, hm0, rfl, 0, rfl⟩
  · rcases hB with h | ⟨g, o, rfl, hg, hc⟩
    · omega
    have hc' : ∀ i, i < n → ∃ z : Int, (w.setCell ⟨R, 1, none⟩ (.int .i64 ((p : Int) + 1))).cell? ⟨g, o + i, none⟩ = some (.int .u8 z) ∧ 0 ≤ z ∧ z ≤ 255 := fun i hi => by
      obtain ⟨z, h1, h2⟩ := hc i hi
      exact ⟨z, (World.cell?_setCell_other _ _ _ _ (by simp; intro e; exact absurd e.symm ((hR g o rfl).resolve_left h0))).trans h1, h2⟩
    by_cases hpn : p < n
    · obtain ⟨z, hz, hz0, hz1⟩ := hc' p hpn
      clear hc hc'
      have hm1 : (1 : Int) ≤ (m : Int) := by omega
      have hn0 : ((n : Int) == 0) = false := by rw [beq_eq_false_iff_ne]; omega
      have hpi : (p : Int) < (n : Int) := by omega
      go_enter Try.func44, Try.ntmps44
      go_wp2
      go_ret
      have h3 : (z % (m : Int)) = (((z % (m : Int)).toNat : Nat) : Int) := by have := Int.emod_nonneg z (show (m : Int) ≠ 0 by omega); omega
      exact ⟨(z % (m : Int)).toNat, by have := Int.emod_lt_of_pos z (show 0 < (m : Int) by omega); omega, congrArg (fun x => Ending.returned (Value.int IntKind.i64 x)) h3, 0, rfl⟩
    · obtain ⟨z1, hz1, hz10, hz11⟩ := hc' (p % n) (Nat.mod_lt _ (by omega))
      obtain ⟨z2, hz2, hz20, hz21⟩ := hc' ((p * 7 + 3) % n) (Nat.mod_lt _ (by omega))
      obtain ⟨y1, rfl⟩ := Int.eq_ofNat_of_zero_le hz10
      obtain ⟨y2, rfl⟩ := Int.eq_ofNat_of_zero_le hz20
      clear hc hc'
      have hm1 : (1 : Int) ≤ (m : Int) := by omega
      have hn0 : ((n : Int) == 0) = false := by rw [beq_eq_false_iff_ne]; omega
      have hpi : (n : Int) ≤ (p : Int) := by omega
      have t1 : (p : Int).tmod (n : Int) = (p : Int) % (n : Int) := Int.tmod_eq_emod_of_nonneg (by omega)
      have u1 : 0 ≤ (p : Int) % (n : Int) := Int.emod_nonneg _ (by omega)
      have l1 : (p : Int) % (n : Int) < (n : Int) := Int.emod_lt_of_pos _ (by omega)
      have n1 : ((p : Int) % (n : Int)).toNat = p % n := rfl
      have t2 : ((p : Int) * 7 + 3).tmod (n : Int) = ((p : Int) * 7 + 3) % (n : Int) := Int.tmod_eq_emod_of_nonneg (by omega)
      have u2 : 0 ≤ ((p : Int) * 7 + 3) % (n : Int) := Int.emod_nonneg _ (by omega)
      have l2 : ((p : Int) * 7 + 3) % (n : Int) < (n : Int) := Int.emod_lt_of_pos _ (by omega)
      have n2 : (((p : Int) * 7 + 3) % (n : Int)).toNat = (p * 7 + 3) % n := rfl
      have t3 : (p : Int).tdiv (n : Int) = (p : Int) / (n : Int) := Int.tdiv_eq_ediv_of_nonneg (by omega)
      have u3 : 0 ≤ (p : Int) / (n : Int) := Int.ediv_nonneg (by omega) (by omega)
      have l3 : (p : Int) / (n : Int) ≤ (p : Int) := Int.ediv_le_self _ (by omega)
      have w7 : IntKind.i64.wrap ((p : Int) * 7) = (p : Int) * 7 := IntWalk.i64_in _ (by omega)
      have w73 : IntKind.i64.wrap ((p : Int) * 7 + 3) = (p : Int) * 7 + 3 := IntWalk.i64_in _ (by omega)
      have w1 : IntKind.i64.wrap ((y1 : Int) * 131) = (y1 : Int) * 131 := IntWalk.i64_in _ (by omega)
      have w2 : IntKind.i64.wrap ((y2 : Int) * 1117) = (y2 : Int) * 1117 := IntWalk.i64_in _ (by omega)
      have w12 : IntKind.i64.wrap ((y1 : Int) * 131 + (y2 : Int) * 1117) = (y1 : Int) * 131 + (y2 : Int) * 1117 := IntWalk.i64_in _ (by omega)
      have w3 : IntKind.i64.wrap ((p : Int) * 29) = (p : Int) * 29 := IntWalk.i64_in _ (by omega)
      have w123 : IntKind.i64.wrap ((y1 : Int) * 131 + (y2 : Int) * 1117 + (p : Int) * 29) = (y1 : Int) * 131 + (y2 : Int) * 1117 + (p : Int) * 29 := IntWalk.i64_in _ (by omega)
      have w4 : IntKind.i64.wrap ((p : Int) / (n : Int)) = (p : Int) / (n : Int) := IntWalk.i64_in _ (by omega)
      have w5 : IntKind.i64.wrap ((p : Int) / (n : Int) * 53) = (p : Int) / (n : Int) * 53 := IntWalk.i64_in _ (by omega)
      have w6 : IntKind.i64.wrap ((y1 : Int) * 131 + (y2 : Int) * 1117 + (p : Int) * 29 + (p : Int) / (n : Int) * 53) = (y1 : Int) * 131 + (y2 : Int) * 1117 + (p : Int) * 29 + (p : Int) / (n : Int) * 53 := IntWalk.i64_in _ (by omega)
      go_enter Try.func44, Try.ntmps44
      go_wp2
      go_quiet (fail)
      generalize hx : (y1 : Int) * 131 + (y2 : Int) * 1117 + (p : Int) * 29 + (p : Int) / (n : Int) * 53 = x
      go_wp2
      go_ret
      obtain ⟨X, rfl⟩ := Int.eq_ofNat_of_zero_le (show 0 ≤ x by omega)
      obtain ⟨Y, hY⟩ := xor64 X (by omega)
      have h3 : (Go.bits .xor .i64 (X : Int) ((X : Int) / 64)).tmod (m : Int) = ((Y % m : Nat) : Int) := by rw [hY]; exact (Int.ofNat_tmod Y m).symm
      exact ⟨Y % m, Nat.mod_lt _ hm0, congrArg (fun x => Ending.returned (Value.int IntKind.i64 x)) h3, _, rfl⟩

/-- The reader lies in block R: a slice of bytes that are older, and the place. -/
structure Rd (R : Nat) (a : Option Addr) (n c p : Nat) (w : World) : Prop where
  code : Bytes w a n
  old : ∀ g o, a = some ⟨g, o, none⟩ → n = 0 ∨ g < R
  lt : R < w.heap.size
  q0 : w.cell? ⟨R, 0, none⟩ = some (.slice a n c)
  q1 : w.cell? ⟨R, 1, none⟩ = some (.int .i64 p)
  f1 : w.frozen? ⟨R, 1, none⟩ = false
  few : n ≤ 2000

/-- Of what was there nothing turns but block R. -/
structure Apart (R : Nat) (w w' : World) : Prop where
  below : Below R w w'
  block : ∀ k, k < w.heap.size → k ≠ R → w'.heap[k]? = w.heap[k]?

theorem Apart.refl (R : Nat) (w : World) : Apart R w w := ⟨Below.refl _ _, fun _ _ _ => rfl⟩
theorem Apart.trans {R : Nat} {a b c : World} (h : Apart R a b) (k : Apart R b c) : Apart R a c :=
  ⟨h.below.trans k.below, fun i hi hr => (k.block i (Nat.lt_of_lt_of_le hi h.below.size) hr).trans (h.block i hi hr)⟩
theorem Apart.of_below {R : Nat} {w w' : World} (hR : R ≤ w.heap.size) (h : Below w.heap.size w w') : Apart R w w' := ⟨h.mono hR, fun k hk _ => h.block k hk⟩
theorem Apart.step {R : Nat} {a w w' : World} (h : Apart R a w) (hR : R ≤ w.heap.size) (k : Below w.heap.size w w') : Apart R a w' := h.trans (Apart.of_below hR k)
theorem Apart.later {R : Nat} {w w2 w4 : World} (h : Apart R w w2) (hR : R ≤ w.heap.size) (k : Below w.heap.size w2 w4) : Apart R w w4 :=
  ⟨h.below.trans (k.mono hR), fun i hi hr => (k.block i hi).trans (h.block i hi hr)⟩
/-- A row of the call's own behind the reader stays. -/
theorem own_apart {R : Nat} {w w' : World} {base size n : Nat} {e : TypeId} {v : Value} {xs : List Value} (h : w.ownsRow base e size v n xs) (hb : Apart R w w') (hR : R < base) : w'.ownsRow base e size v n xs := by
  obtain ⟨h1, h2⟩ := h
  refine ⟨h1, ?_⟩
  rcases h2 with h2 | ⟨g, cap, cur, hv, hg, hh, hr⟩
  · exact .inl h2
  · refine .inr ⟨g, cap, cur, hv, hg, ?_, hr⟩
    have hlt : g < w.heap.size := by
      rcases Nat.lt_or_ge g w.heap.size with h | h
      · exact h
      · rw [Array.getElem?_eq_none h] at hh; cases hh
    rw [hb.block g hlt (by omega)]; exact hh
theorem Rd.below {R : Nat} {a : Option Addr} {n c p B : Nat} {w w' : World} (h : Rd R a n c p w) (hb : Below B w w') (hB : R < B) : Rd R a n c p w' := by
  obtain ⟨h1, h2, h3, h4, h5, h6, h7⟩ := h
  refine ⟨?_, h2, Nat.lt_of_lt_of_le h3 hb.size, (hb.cell (p := ⟨R, 0, none⟩) hB).trans h4, (hb.cell (p := ⟨R, 1, none⟩) hB).trans h5, (hb.frozen (p := ⟨R, 1, none⟩) hB).trans h6, h7⟩
  rcases h1 with h | ⟨g, o, ha, hg, hc⟩
  · exact .inl h
  · have hgR' := h2 g o ha
    exact .inr ⟨g, o, ha, Nat.lt_of_lt_of_le hg hb.size, fun i hi => by
      have hgR := hgR'.resolve_left (by omega)
      obtain ⟨z, hz, hz2⟩ := hc i hi
      exact ⟨z, (hb.cell (p := ⟨g, o + i, none⟩) (by show g < B; omega)).trans hz, hz2⟩⟩
theorem Rd.step {R : Nat} {a : Option Addr} {n c p : Nat} {w : World} (h : Rd R a n c p w) : Rd R a n c (p + 1) (w.setCell ⟨R, 1, none⟩ (.int .i64 ((p : Int) + 1))) := by
  obtain ⟨h1, h2, h3, h4, h5, h6, h7⟩ := h
  refine ⟨?_, h2, by simpa [World.setCell] using h3, (World.cell?_setCell_other _ _ _ _ (by simp)).trans h4, ?_, ?_, h7⟩
  · rcases h1 with h | ⟨g, o, ha, hg, hc⟩
    · exact .inl h
    · have hgR' := h2 g o ha
      exact .inr ⟨g, o, ha, by simpa [World.setCell] using hg, fun i hi => by
        have hgR := hgR'.resolve_left (by omega)
        obtain ⟨z, hz, hz2⟩ := hc i hi
        exact ⟨z, (World.cell?_setCell_other _ _ _ _ (by simp <;> omega)).trans hz, hz2⟩⟩
  · exact World.cell?_setCell_same _ _ _ h5
  · exact (World.frozen?_setCell _ _ _ _).trans h6

theorem pick_rd {R : Nat} {a : Option Addr} {n c p : Nat} {w : World} (h : Rd R a n c p w) (m : Nat) (hp : p ≤ 100000) (hm0 : 0 < m) (hm : m ≤ 1000000) :
    Calls Try.prog 44 #[.pointer (some ⟨R, 0, none⟩), .int .i64 m] w fun e w' =>
      ∃ v : Nat, e = .returned (.int .i64 v) ∧ v < m ∧ Rd R a n c (p + 1) w' ∧ Apart R w w' ∧ w'.heap.size = w.heap.size := by
  refine (pick_core R a n c p m w h.code h.few hp hm0 hm h.q0 h.q1 h.f1 (fun g o e => by have := h.old g o e; omega)).mono ?_
  rintro e w' ⟨v, hv, rfl, j, rfl⟩
  have hA : Apart R w (w.setCell ⟨R, 1, none⟩ (.int .i64 ((p : Int) + 1))) := ⟨(Below.refl _ _).setCell (p := ⟨R, 1, none⟩) (Nat.le_refl _) _, fun k hk hr => Below.heap_setCell _ _ _ _ hr⟩
  have hB : ∀ B, Below B (w.setCell ⟨R, 1, none⟩ (.int .i64 ((p : Int) + 1))) ((w.setCell ⟨R, 1, none⟩ (.int .i64 ((p : Int) + 1))).drewN j) := fun B => below_drewN (Below.refl _ _) j
  have hsz : (w.setCell ⟨R, 1, none⟩ (.int .i64 ((p : Int) + 1))).heap.size = w.heap.size := by simp [World.setCell]
  have hlt := h.lt
  refine ⟨v, rfl, hv, h.step.below (hB (R + 1)) (by omega), hA.step (by omega) (hB _), ?_⟩
  exact hsz

theorem own_some {w : World} {base size n : Nat} {e : TypeId} {v : Value} {xs : List Value} (h : w.ownsRow base e size v n xs) (hn : 0 < n) : ∃ g cap, v = .slice (some ⟨g, 0, none⟩) n cap := by
  rcases h.2 with ⟨_, h0⟩ | ⟨g, cap, cur, hv, _⟩
  · omega
  · exact ⟨g, cap, hv⟩

/-- What is laid at the end of the memory reads on where nothing but block R turns. -/
theorem table_cell {R : Nat} {w w4 : World} {cs : Array Value} {T : TypeId} (hap : Apart R (w.alloc (.cells cs T)) w4) (hR : R < w.heap.size) (i : Nat) : w4.cell? ⟨w.heap.size, i, none⟩ = cs[i]? := by
  have h := hap.block w.heap.size (by simp) (by omega)
  rw [World.cell?_of_block (w := w.alloc (.cells cs T)) h]
  rw [World.cell?_alloc_at _ _ _ _ rfl]
theorem pick_rdi {R : Nat} {a : Option Addr} {n c p : Nat} {w : World} (h : Rd R a n c p w) (M : Int) (m : Nat) (hM : M = (m : Int)) (hp : p ≤ 100000) (hm0 : 0 < m) (hm : m ≤ 1000000) :
    Calls Try.prog 44 #[.pointer (some ⟨R, 0, none⟩), .int .i64 M] w fun e w' =>
      ∃ v : Nat, e = .returned (.int .i64 v) ∧ v < m ∧ Rd R a n c (p + 1) w' ∧ Apart R w w' ∧ w'.heap.size = w.heap.size := by
  subst hM; exact pick_rd h m hp hm0 hm

theorem rd_new {w : World} {a : Option Addr} {n n' : Nat} (h : Bytes w a n) (hn : n' ≤ n) (hn2 : n' ≤ 2000) (c : Nat) {T : TypeId} : Rd w.heap.size a n' c 0 (w.alloc (.cells #[.slice a n' c, .int .i64 0] T)) := by
  refine ⟨?_, ?_, by simp, ?_, ?_, ?_, hn2⟩
  · rcases h with h | ⟨g, o, ha, hg, hc⟩
    · exact .inl (by omega)
    · refine .inr ⟨g, o, ha, by simp; omega, fun i hi => ?_⟩
      obtain ⟨z, hz, hz2⟩ := hc i (by omega)
      exact ⟨z, (Below.cell (p := ⟨g, o + i, none⟩) ((Below.refl w.heap.size w).alloc (Nat.le_refl _) _) hg).trans hz, hz2⟩
  · intro g o ha
    rcases h with h | ⟨g', o', ha', hg, hc⟩
    · exact .inl (by omega)
    · rw [ha] at ha'
      cases ha'
      exact .inr hg
  · rw [World.cell?_alloc_at _ _ _ _ rfl]; rfl
  · rw [World.cell?_alloc_at _ _ _ _ rfl]; rfl
  · rw [World.frozen?_alloc_at _ _ _ _ rfl]

/-- A reader is opened: a block of its own. -/
theorem open_rd (a : Option Addr) (n c : Nat) (w : World) (h : Bytes w a n) (hn : n ≤ 1048576) (hc : n ≤ c) :
    Calls Try.prog 42 #[.slice a n c] w fun e w' =>
      ∃ n', e = .returned (.pointer (some ⟨w.heap.size, 0, none⟩)) ∧ Rd w.heap.size a n' c 0 w' ∧ Apart w.heap.size w w' := by
  have H := Lib.hid h
  clear h
  by_cases h2 : n ≤ 2000
  · have g1 : (n : Int) ≤ 2000 := by omega
    go_enter Try.func42, Try.ntmps42
    go_wp2
    go_ret
    exact ⟨n, rfl, rd_new H.out (Nat.le_refl _) h2 _, Apart.of_below (Nat.le_refl _) ((Below.refl _ _).alloc (Nat.le_refl _) _)⟩
  · have g1 : (2000 : Int) < (n : Int) := by omega
    have g2 : (2000 : Int) ≤ (c : Int) := by omega
    go_enter Try.func42, Try.ntmps42
    go_wp2
    go_ret
    exact ⟨2000, rfl, rd_new H.out (by omega) (by omega) _, Apart.of_below (Nat.le_refl _) ((Below.refl _ _).alloc (Nat.le_refl _) _)⟩

end Go.Proofs.Ytojjfkabepkhdaa
