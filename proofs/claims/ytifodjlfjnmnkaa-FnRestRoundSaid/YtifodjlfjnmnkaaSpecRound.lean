/-
  What the model's RestRound answers.
-/
import Derived.Test.YtifodjlfjnmnkaaRestDownS
import Derived.Deep.RegionHeld3
set_option linter.unusedVariables false
set_option linter.unusedSimpArgs false
namespace Go.Proofs.Ytifodjlfjnmnkaa
open Go.RowKit

theorem round_back {f : Nat → Bool} {m q : Nat} (h : Tidy f m q) {n : Nat} (hn : m ≤ n) : downF f (n + q) = downF f n := by
  funext x
  unfold downF
  rw [show x + (n + q) = x + n + q from by omega]
  exact h.per _ (by omega)
theorem round_least {f : Nat → Bool} {m q : Nat} (h : Tidy f m q) {n d : Nat} (h0 : 0 < d) (hd : d < q) : downF f (n + d) ≠ downF f n := by
  intro e
  have := h.ring d ⟨h0, n, fun x hx => by
    have := congrFun e (x - n)
    unfold downF at this
    rw [show x - n + (n + d) = x + d from by omega, show x - n + n = x from by omega] at this
    exact this⟩
  omega

set_option maxRecDepth 100000 in
set_option maxHeartbeats 4000000 in
theorem specRound (s : ByteArray) (w : World) (hs : s.size ≤ 1048576) :
    Calls Try.prog 38 #[.string s] w fun e w' => NumIs (okS s) (RoundIs (fS s)) e ∧ Below w.heap.size w w' := by
  cases ho : okS s
  · go_enter Try.func38, Try.ntmps38
    go_wp2_with fail
    refine (read_off s w hs ho).mono ?_
    rintro e w1 ⟨a1, n1, c1, a2, n2, c2, rfl, hb⟩
    have HB := Lib.hid (hb.alloc hb.size (.cells #[.slice a1 n1 c1, .slice a2 n2 c2] 66))
    clear hb
    go_wp2
    go_ret2
    exact ⟨⟨0, rfl, And.intro (fun h => by cases h) (fun _ => rfl)⟩, HB.out⟩
  · obtain ⟨m, q, ht, hm, hq⟩ := tidy_there ho
    have hsh := tidy_short ho ht
    have HT := Lib.hid ht
    go_enter Try.func38, Try.ntmps38
    go_wp2_with fail
    refine (read_on s w hs ho).mono ?_
    rintro e w1 ⟨a1, n1, c1, a2, n2, c2, rfl, hb, hr⟩
    have hn1 : m ≤ n1 := by have := hr.tail.len; omega
    have hn2 := hr.tailLe
    have hq0 := ht.pos
    have HB := Lib.hid (hb.alloc hb.size (.cells #[.slice a1 n1 c1, .slice a2 n2 c2] 66))
    have hR := hr.alloc (.cells #[.slice a1 n1 c1, .slice a2 n2 c2] 66)
    have KEEP : Hid (∀ {W W' : World}, (W.cell? ⟨w1.heap.size, 0, none⟩ = some (.slice a1 n1 c1) ∧ W.cell? ⟨w1.heap.size, 1, none⟩ = some (.slice a2 n2 c2) ∧ IsRead W s a1 n1 a2 n2 ∧ Below w.heap.size w W) → Below W.heap.size W W' → (W'.cell? ⟨w1.heap.size, 0, none⟩ = some (.slice a1 n1 c1) ∧ W'.cell? ⟨w1.heap.size, 1, none⟩ = some (.slice a2 n2 c2) ∧ IsRead W' s a1 n1 a2 n2 ∧ Below w.heap.size w W')) := Lib.hid fun h hb => ⟨(hb.cell (p := ⟨w1.heap.size, 0, none⟩) (lt_of_some h.1)).trans h.1, (hb.cell (p := ⟨w1.heap.size, 1, none⟩) (lt_of_some h.1)).trans h.2.1, h.2.2.1.below hb (Nat.le_refl _), h.2.2.2.trans (hb.mono h.2.2.2.size)⟩
    have HS0 : Hid ((w1.alloc (.cells #[.slice a1 n1 c1, .slice a2 n2 c2] 66)).cell? ⟨w1.heap.size, 0, none⟩ = some (.slice a1 n1 c1) ∧ (w1.alloc (.cells #[.slice a1 n1 c1, .slice a2 n2 c2] 66)).cell? ⟨w1.heap.size, 1, none⟩ = some (.slice a2 n2 c2) ∧ IsRead (w1.alloc (.cells #[.slice a1 n1 c1, .slice a2 n2 c2] 66)) s a1 n1 a2 n2 ∧ Below w.heap.size w (w1.alloc (.cells #[.slice a1 n1 c1, .slice a2 n2 c2] 66))) := Lib.hid ⟨by rw [World.cell?_alloc_at _ _ _ _ rfl]; rfl, by rw [World.cell?_alloc_at _ _ _ _ rfl]; rfl, hR, HB.out⟩
    clear hb hr hR ho hsh ht
    go_wp2
    go_loopw [7] (fun i wr => ∃ d : Nat, i = .int .i64 d ∧ 1 ≤ d ∧ d ≤ q ∧ (wr.cell? ⟨w1.heap.size, 0, none⟩ = some (.slice a1 n1 c1) ∧ wr.cell? ⟨w1.heap.size, 1, none⟩ = some (.slice a2 n2 c2) ∧ IsRead wr s a1 n1 a2 n2 ∧ Below w.heap.size w wr)) (fun i _ => q + 1 - (intOf i).toNat)
    case atStart => exact ⟨1, rfl, Nat.le_refl _, hq0, HS0.out⟩
    case round =>
      obtain ⟨d, rfl, hd1, hdq, hS⟩ := hrel
      have HV := Lib.hid (downT_beq HT.out hm hq (n1 + d) n1)
      obtain ⟨X, hX⟩ : ∃ X, X = downT (fS s) m q (n1 + d) := ⟨_, rfl⟩
      obtain ⟨Y, hY⟩ : ∃ Y, Y = downT (fS s) m q n1 := ⟨_, rfl⟩
      have HSD := KEEP.out hS (Below.refl _ _).drew
      have HK1 : Hid (∀ W : World, (W.cell? ⟨w1.heap.size, 0, none⟩ = some (.slice a1 n1 c1) ∧ W.cell? ⟨w1.heap.size, 1, none⟩ = some (.slice a2 n2 c2) ∧ IsRead W s a1 n1 a2 n2 ∧ Below w.heap.size w W) → Calls Try.prog 54 #[.agg #[.slice a1 n1 c1, .slice a2 n2 c2], .int .i64 (IntKind.i64.wrap ((n1 : Int) + (d : Int)))] W fun e w' => e = .returned (.string X) ∧ (w'.cell? ⟨w1.heap.size, 0, none⟩ = some (.slice a1 n1 c1) ∧ w'.cell? ⟨w1.heap.size, 1, none⟩ = some (.slice a2 n2 c2) ∧ IsRead w' s a1 n1 a2 n2 ∧ Below w.heap.size w w')) := Lib.hid fun W h => by rw [hX, show IntKind.i64.wrap ((n1 : Int) + (d : Int)) = ((n1 + d : Nat) : Int) from by rw [IntWalk.i64_in _ (by omega)]; omega]; exact (l5Down_any s a1 a2 n1 c1 n2 c2 (n1 + d) m q W h.2.2.1 HT.out (by omega)).mono fun e w' he => ⟨he.1, KEEP.out h he.2⟩
      have HK2 : Hid (∀ W : World, (W.cell? ⟨w1.heap.size, 0, none⟩ = some (.slice a1 n1 c1) ∧ W.cell? ⟨w1.heap.size, 1, none⟩ = some (.slice a2 n2 c2) ∧ IsRead W s a1 n1 a2 n2 ∧ Below w.heap.size w W) → Calls Try.prog 54 #[.agg #[.slice a1 n1 c1, .slice a2 n2 c2], .int .i64 n1] W fun e w' => e = .returned (.string Y) ∧ (w'.cell? ⟨w1.heap.size, 0, none⟩ = some (.slice a1 n1 c1) ∧ w'.cell? ⟨w1.heap.size, 1, none⟩ = some (.slice a2 n2 c2) ∧ IsRead w' s a1 n1 a2 n2 ∧ Below w.heap.size w w')) := Lib.hid fun W h => by rw [hY]; exact (l5Down_any s a1 a2 n1 c1 n2 c2 n1 m q W h.2.2.1 HT.out (by omega)).mono fun e w' he => ⟨he.1, KEEP.out h he.2⟩
      rw [← hX, ← hY] at HV
      clear hX hY hS
      by_cases he : d = q
      · have hXY : X.toList = Y.toList := eq_of_beq (HV.out.2 (by rw [he]; exact round_back HT.out hn1))
        have HE : Hid (RoundIs (fS s) d) := Lib.hid (by rw [he]; exact ⟨m, HT.out⟩)
        have hXb : (X.toList != Y.toList) = false := by rw [hXY]; simp
        clear he
        go_wp2
        go_region_held3 (fun w' => w'.cell? ⟨w1.heap.size, 0, none⟩ = some (.slice a1 n1 c1) ∧ w'.cell? ⟨w1.heap.size, 1, none⟩ = some (.slice a2 n2 c2) ∧ IsRead w' s a1 n1 a2 n2 ∧ Below w.heap.size w w') (first | assumption | (constructor <;> assumption))
          (first
            | (go_at_call 54; (with_reducible refine (HK1.out _ ?_).mono ?_); assumption; rintro e w5 ⟨rfl, hb5⟩)
            | (go_at_call 54; (with_reducible refine (HK2.out _ ?_).mono ?_); assumption; rintro e w5 ⟨rfl, hb5⟩))
        all_goals
          have HS5 := Lib.hid hb5.2.2.2
          clear hb5 HSD
          go_wp2
          go_ret2
          exact ⟨⟨d, rfl, And.intro (fun _ => HE.out) (fun h => by cases h)⟩, HS5.out⟩
      · have hXY : ¬ X.toList = Y.toList := fun e => round_least HT.out (n := n1) hd1 (show d < q by omega) (HV.out.1 (by rw [e]; simp))
        have hXb : (X.toList == Y.toList) = false := by simpa using hXY
        go_wp2
        go_region_held3 (fun w' => w'.cell? ⟨w1.heap.size, 0, none⟩ = some (.slice a1 n1 c1) ∧ w'.cell? ⟨w1.heap.size, 1, none⟩ = some (.slice a2 n2 c2) ∧ IsRead w' s a1 n1 a2 n2 ∧ Below w.heap.size w w') (first | assumption | (constructor <;> assumption))
          (first
            | (go_at_call 54; (with_reducible refine (HK1.out _ ?_).mono ?_); assumption; rintro e w5 ⟨rfl, hb5⟩)
            | (go_at_call 54; (with_reducible refine (HK2.out _ ?_).mono ?_); assumption; rintro e w5 ⟨rfl, hb5⟩))
        all_goals
          have HS5 := Lib.hid hb5
          clear hb5 HSD
          go_wp2
          go_roundw
          case rel => exact ⟨d + 1, by go_num, by omega, by omega, HS5.out⟩
          case measure => simp [intOf]; omega
end Go.Proofs.Ytifodjlfjnmnkaa
