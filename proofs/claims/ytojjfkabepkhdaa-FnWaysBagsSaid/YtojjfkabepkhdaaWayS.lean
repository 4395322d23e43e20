/-
  Ways, of the model: what may be asked, and how many ways lead to each number (l9Given, l9Ways).
-/
import Derived.Test.YtojjfkabepkhdaaSmallS
import Derived.Test.YtojjfkabepkhdaaInS
import Derived.Test.YtojjfkabepkhdaaWayRow
set_option linter.unusedVariables false
set_option linter.unusedSimpArgs false
namespace Go.Proofs.Ytojjfkabepkhdaa
open Go.RowKit

theorem in_is (n a b : Int) (hab : a ≤ b) (w : World) :
    Calls Try.prog 59 #[.int .i64 n, .int .i64 a, .int .i64 b] w fun e w' => e = .returned (.bool (inR n a b)) ∧ w' = w := by
  rcases inR_cases n a b with ⟨h, h1, h2⟩ | ⟨h, h1⟩
  · rw [h]
    refine (l6In_yes n a b w h1 h2).mono ?_
    rintro e w' ⟨rfl, rfl⟩
    exact ⟨rfl, rfl⟩
  · rw [h]
    refine (l6In_no n a b w h1 hab).mono ?_
    rintro e w' ⟨rfl, rfl⟩
    exact ⟨rfl, rfl⟩
set_option maxHeartbeats 400000 in
theorem bit_is (b : Bool) (w : World) : Calls Try.prog 67 #[.bool b] w fun e w' => e = .returned (.int .i64 (if b then 1 else 0)) ∧ w' = w := by
  cases b
  · go_enter Try.func67, Try.ntmps67
    go_wp2
    go_ret
    exact ⟨rfl, rfl⟩
  · go_enter Try.func67, Try.ntmps67
    go_wp2
    go_ret
    exact ⟨rfl, rfl⟩

theorem SmallIn.set2 {w : World} {f : Nat → Bool} {a1 a2 : Option Addr} {n1 n2 g : Nat} {p p' : Option Addr} {k k' c c' : Nat} {x y : Value} (h : SmallIn w f a1 n1 a2 n2)
    (h0 : w.cell? ⟨g, 0, none⟩ = some (.slice p k c)) (h1 : w.cell? ⟨g, 1, none⟩ = some (.slice p' k' c')) : SmallIn ((w.setCell ⟨g, 0, none⟩ x).setCell ⟨g, 1, none⟩ y) f a1 n1 a2 n2 :=
  ⟨h.tidy, h.tail.set h0 h1, h.ring.set h0 h1, h.le1, h.le2⟩
def GivenEnd (s : ByteArray) (n N : Int) (e : Ending) (w' : World) : Prop := ∃ a1 n1 c1 a2 n2 c2, e = .returned (.tuple #[.agg #[.slice a1 n1 c1, .slice a2 n2 c2], .bool (smallS s && inR n 0 N)]) ∧ (smallS s = true → SmallIn w' (fS s) a1 n1 a2 n2)

set_option maxRecDepth 100000 in
set_option maxHeartbeats 1000000 in
theorem given9_any (s : ByteArray) (n N : Int) (w : World) (hs : s.size ≤ 1048576) (hN : 0 ≤ N) :
    Calls Try.prog 47 #[.string s, .int .i64 n, .int .i64 N] w fun e w' => GivenEnd s n N e w' ∧ Below w.heap.size w w' := by
  go_enter Try.func47, Try.ntmps47
  go_wp2_with fail
  refine (l4Small_any s _ hs).mono ?_
  rintro e w1 ⟨a1, n1, c1, a2, n2, c2, rfl, hb, hA⟩
  have hb1 := hb.alloc hb.size (.cells #[.slice a1 n1 c1, .slice a2 n2 c2] 48)
  obtain ⟨⟨q0, q1⟩, hf, hsz⟩ := result_box hb1
  have HB := Lib.hid (result_set hb1 (.slice a1 n1 c1) (.slice a2 n2 c2))
  have HF := Lib.hid (set_cells (x := .slice a1 n1 c1) (y := .slice a2 n2 c2) q0 q1)
  have HA := Lib.hid (fun h => (((hA h).alloc (.cells #[.slice a1 n1 c1, .slice a2 n2 c2] 48))))
  have hne : w.heap.size ≠ w1.heap.size := by have := hb.size; simp at this; omega
  obtain ⟨y0, y1⟩ := box_later (w1 := w1) (u := .slice a1 n1 c1) (v := .slice a2 n2 c2) (T := 48) (Below.refl _ _)
  obtain ⟨b, hbb⟩ : ∃ b, b = inR n 0 N := ⟨_, rfl⟩
  have HN : ∀ W, Hid (Calls Try.prog 59 #[.int .i64 n, .int .i64 0, .int .i64 N] W fun e w' => e = .returned (.bool b) ∧ w' = W) := fun W => by rw [hbb]; exact Lib.hid (in_is n 0 N hN W)
  have HQ := Lib.hid hbb
  have HSet := Lib.hid (fun h => (HA.out h).set2 (x := .slice a1 n1 c1) (y := .slice a2 n2 c2) q0 q1)
  clear hb hb1 hA hbb hN
  cases hp : smallS s
  · have HP := Lib.hid hp
    clear hp
    go_wp2
    go_region
    go_wp2
    generalize ((w1.alloc _).setCell ⟨w.heap.size, 0, none⟩ _).setCell ⟨w.heap.size, 1, none⟩ _ = wF at HB HF ⊢
    obtain ⟨f0, f1⟩ := HF.out
    have g0 : wF.drew.cell? ⟨w.heap.size, 0, none⟩ = some (.slice a1 n1 c1) := f0
    have g1 : wF.drew.cell? ⟨w.heap.size, 1, none⟩ = some (.slice a2 n2 c2) := f1
    exact bodyPost_ret (v := .tuple #[.agg #[.slice a1 n1 c1, .slice a2 n2 c2], .bool false]) (by simp [results, Try.results47, go_sem, g0, g1]) rfl ⟨⟨a1, n1, c1, a2, n2, c2, by rw [HP.out, Bool.false_and], fun h => by rw [HP.out] at h; cases h⟩, HB.out.drew⟩
  · have HP := Lib.hid hp
    clear hp
    go_wp2
    go_region_with (go_at_call 59; refine (HN _).out.mono ?_; rintro e w3 ⟨rfl, rfl⟩)
    all_goals
      go_wp2
      generalize ((w1.alloc _).setCell ⟨w.heap.size, 0, none⟩ _).setCell ⟨w.heap.size, 1, none⟩ _ = wF at HB HF HSet ⊢
      obtain ⟨f0, f1⟩ := HF.out
      have g0 : wF.drew.cell? ⟨w.heap.size, 0, none⟩ = some (.slice a1 n1 c1) := f0
      have g1 : wF.drew.cell? ⟨w.heap.size, 1, none⟩ = some (.slice a2 n2 c2) := f1
      exact bodyPost_ret (v := .tuple #[.agg #[.slice a1 n1 c1, .slice a2 n2 c2], .bool b]) (by simp [results, Try.results47, go_sem, g0, g1]) rfl ⟨⟨a1, n1, c1, a2, n2, c2, by rw [HP.out, Bool.true_and, ← HQ.out], fun h => (HSet.out h).drew⟩, HB.out.drew⟩

end Go.Proofs.Ytojjfkabepkhdaa
