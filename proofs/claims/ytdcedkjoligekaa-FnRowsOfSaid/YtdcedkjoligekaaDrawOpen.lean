/-
  A reader is opened; what is laid while it is read stays.
-/
import Derived.Test.YtdcedkjoligekaaDraw
import Derived.Lib.MinMax
namespace Go.Proofs.Ytdcedkjoligekaa
open Go.RowKit

theorem own_some {w : World} {base size n : Nat} {e : TypeId} {v : Value} {xs : List Value} (h : w.ownsRow base e size v n xs) (hn : 0 < n) : ∃ g cap, v = .slice (some ⟨g, 0, none⟩) n cap := by
  rcases h.2 with ⟨_, h0⟩ | ⟨g, cap, cur, hv, _⟩
  · omega
  · exact ⟨g, cap, hv⟩

/-- What is laid at the end of the memory reads on where nothing but block R turns. -/
theorem table_cell {R : Nat} {w w4 : World} {cs : Array Value} {T : TypeId} (hap : Apart R (w.alloc (.cells cs T)) w4) (hR : R < w.heap.size) (i : Nat) : w4.cell? ⟨w.heap.size, i, none⟩ = cs[i]? := by
  have h := hap.block w.heap.size (by simp) (by omega)
  rw [World.cell?_of_block (w := w.alloc (.cells cs T)) h]
  rw [World.cell?_alloc_at _ _ _ _ rfl]
theorem pick_rdi {R : Nat} {a : Option Addr} {n c p : Nat} {w : World} (h : Rd R a n c p w) (M : Int) (m : Nat) (hM : M = (m : Int)) (hp : p ≤ 100000) (hm0 : 0 < m) (hm : m ≤ 1000000) :
    Calls Try.prog 74 #[.pointer (some ⟨R, 0, none⟩), .int .i64 M] w fun e w' =>
      ∃ v : Nat, e = .returned (.int .i64 v) ∧ v < m ∧ Rd R a n c (p + 1) w' ∧ Apart R w w' ∧ w'.heap.size = w.heap.size := by
  subst hM; exact pick_rd h m hp hm0 hm

theorem rd_new {w : World} {a : Option Addr} {n n' : Nat} (h : Bytes w a n) (hn : n' ≤ n) (hn2 : n' ≤ 2000) (c : Nat) {T : TypeId} : Rd w.heap.size a n' c 0 (w.alloc (.cells #[.slice a n' c, .int .i64 0] T)) := by
  refine ⟨?_, ?_, by simp, ?_, ?_, ?_, hn2⟩
  · rcases h with h | ⟨g, o, ha, hg, hc⟩
    · exact .inl (by omega)
    · refine .inr ⟨g, o, ha, by simp; omega, fun i hi => ?_⟩
      obtain ⟨z, hz, hz2⟩ := hc i (by omega)
      exact ⟨z, (Below.cell (p := ⟨g, o + i, none⟩) ((Below.refl w.heap.size w).alloc (Nat.le_refl _) _) hg).trans hz, hz2⟩
  · intro g o ha
    rcases h with h | ⟨g', o', ha', hg, hc⟩
    · exact .inl (by omega)
    · rw [ha] at ha'
      cases ha'
      exact .inr hg
  · rw [World.cell?_alloc_at _ _ _ _ rfl]; rfl
  · rw [World.cell?_alloc_at _ _ _ _ rfl]; rfl
  · rw [World.frozen?_alloc_at _ _ _ _ rfl]

/-- A reader is opened: a block of its own. -/
theorem open_rd (a : Option Addr) (n c : Nat) (w : World) (h : Bytes w a n) (hn : n ≤ 1048576) (hc : n ≤ c) :
    Calls Try.prog 51 #[.slice a n c] w fun e w' =>
      ∃ n', e = .returned (.pointer (some ⟨w.heap.size, 0, none⟩)) ∧ Rd w.heap.size a n' c 0 w' ∧ Apart w.heap.size w w' := by
  have H := Lib.hid h
  clear h
  by_cases h2 : n ≤ 2000
  · have g1 : (n : Int) ≤ 2000 := by omega
    go_enter Try.func51, Try.ntmps51
    go_wp2
    go_ret
    exact ⟨n, rfl, rd_new H.out (Nat.le_refl _) h2 _, Apart.of_below (Nat.le_refl _) ((Below.refl _ _).alloc (Nat.le_refl _) _)⟩
  · have g1 : (2000 : Int) < (n : Int) := by omega
    have g2 : (2000 : Int) ≤ (c : Int) := by omega
    go_enter Try.func51, Try.ntmps51
    go_wp2
    go_ret
    exact ⟨2000, rfl, rd_new H.out (by omega) (by omega) _, Apart.of_below (Nat.le_refl _) ((Below.refl _ _).alloc (Nat.le_refl _) _)⟩
end Go.Proofs.Ytdcedkjoligekaa
