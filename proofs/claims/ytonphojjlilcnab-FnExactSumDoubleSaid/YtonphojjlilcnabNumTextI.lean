/-
  The walk of impl.numbers.text and of its closure.
-/
import Derived.Test.YtonphojjlilcnabSmallI
set_option linter.unusedVariables false
set_option linter.unusedSimpArgs false
namespace Go.Proofs.Ytonphojjlilcnab
open Go.RowKit

set_option maxHeartbeats 400000 in
theorem clo_num (G o M N c B n : Nat) (F f : Nat → Bool) (W : World) (hn : n < N) (hM : o + N ≤ M) (hM2 : M ≤ 100000) (hF : F (o + n) = f n) (hB : W.cell? ⟨B, 0, none⟩ = some (.slice (some ⟨G, o, none⟩) N c)) (hr : BRow W G M F) :
    Calls Try.prog 48 #[.int .i64 n, .pointer (some ⟨B, 0, none⟩)] W fun e w' => e = .returned (.bool (f n)) ∧ Below W.heap.size W w' := by
  have hc := hr.cell (i := o + n) (by omega)
  rw [hF] at hc
  clear hr
  go_enter Try.func48, Try.ntmps48
  go_wp2
  go_ret
  exact ⟨rfl, Below.refl _ _⟩

set_option maxHeartbeats 400000 in
theorem numText_at (G o M N : Nat) (F f : Nat → Bool) (t r : Nat) (m : Int) (w : World) (h : BRow w G M F) (hM : o + N ≤ M) (hM2 : M ≤ 100000) (hF : ∀ n, n < N → F (o + n) = f n) (hN : max 180 (max 60 t + 60 + r) ≤ N) (hr : 0 < r) (ht : t ≤ 2000) (hr2 : r ≤ 4000) (hper : ∀ n, t ≤ n → f (n + r) = f n) (hL : LibAt m w) :
    Calls Try.prog 31 #[.slice (some ⟨G, o, none⟩) N N, .int .i64 t, .int .i64 r] w fun e w' => MakeEnd true f e ∧ Below w.heap.size w w' := by
  have HP := Lib.hid hper
  have HF := Lib.hid hF
  have HB := Lib.hid ((Below.refl w.heap.size w).alloc (Nat.le_refl _) (.cells #[.slice (some ⟨G, o, none⟩) N N] 43))
  have HR := Lib.hid (h.step HB.out)
  have HC : Hid ((w.alloc (.cells #[.slice (some ⟨G, o, none⟩) N N] 43)).cell? ⟨w.heap.size, 0, none⟩ = some (.slice (some ⟨G, o, none⟩) N N)) := Lib.hid (by rw [World.cell?_alloc_at _ _ _ _ rfl]; rfl)
  have HLT := Lib.hid h.lt
  clear h hper hF
  go_enter Try.func31, Try.ntmps31
  go_wp2_with fail
  refine (made_upto N 48 #[.pointer (some ⟨w.heap.size, 0, none⟩)] f t r m _ hN ?_ hr ht hr2 HP.out (hL.alloc _)).mono ?_
  · exact ⟨enters_of Try.func48 (by kernel_rfl) rfl, fun W n hW hn => by
      have e1 := (hW.cell (p := ⟨w.heap.size, 0, none⟩) (by show w.heap.size < _; simp)).trans HC.out
      exact clo_num G o M N N w.heap.size n F f W hn hM hM2 (HF.out n hn) e1 (HR.out.step hW)⟩
  rintro e w3 ⟨⟨U, b, rfl, hm⟩, hb3⟩
  have HM := Lib.hid hm
  have HB3 := Lib.hid (HB.out.trans (hb3.mono HB.out.size))
  clear hm hb3
  go_wp2
  go_ret2
  exact ⟨⟨U, b, rfl, HM.out⟩, HB3.out⟩

theorem numText_any (G N : Nat) (f : Nat → Bool) (t r : Nat) (m : Int) (w : World) (h : BRow w G N f) (hN : max 180 (max 60 t + 60 + r) ≤ N) (hN2 : N ≤ 100000) (hr : 0 < r) (ht : t ≤ 2000) (hr2 : r ≤ 4000) (hper : ∀ n, t ≤ n → f (n + r) = f n) (hL : LibAt m w) :
    Calls Try.prog 31 #[.slice (some ⟨G, 0, none⟩) N N, .int .i64 t, .int .i64 r] w fun e w' => MakeEnd true f e ∧ Below w.heap.size w w' :=
  numText_at G 0 N N f f t r m w h (by omega) hN2 (fun n _ => by rw [Nat.zero_add]) hN hr ht hr2 hper hL

end Go.Proofs.Ytonphojjlilcnab
