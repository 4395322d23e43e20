/-
  What the model's RestSame answers.
-/
import Derived.Test.YtifodjlfjnmnkaaSpecRest
import Derived.Test.YtifodjlfjnmnkaaRestMath
import Derived.Deep.RegionHeld3
set_option linter.unusedVariables false
set_option linter.unusedSimpArgs false
namespace Go.Proofs.Ytifodjlfjnmnkaa
open Go.RowKit

set_option maxRecDepth 100000 in
set_option maxHeartbeats 2000000 in
theorem specSameRest_off (s : ByteArray) (i k : Int) (w : World) (hs : s.size ≤ 1048576) (ho : (okS s && inR i 0 1000) = false) :
    Calls Try.prog 28 #[.string s, .int .i64 i, .int .i64 k] w fun e w' => e = .returned (.bool false) ∧ Below w.heap.size w w' := by
  have hg := given_any s i w hs
  rw [ho] at hg
  clear ho
  go_enter Try.func28, Try.ntmps28
  go_wp2_with fail
  refine hg.mono ?_
  rintro e w1 ⟨⟨a1, n1, c1, a2, n2, c2, rfl, _⟩, hb⟩
  have HB := Lib.hid (hb.alloc hb.size (.cells #[.slice a1 n1 c1, .slice a2 n2 c2] 66))
  clear hb
  go_wp2
  refine wp_region_noPanic ?_
  refine wp_region_held_drew (S := fun w' => Below w.heap.size w w') (by kernel_rfl) (HB.out.drew) (fun HS => ?_)
  refine' doH 0 (v := ?v0) rfl (by kernel_rfl) (by kernel_rfl) (by kernel_rfl) (fun _ _ _ h => h) rfl HS ?hy0 ?rest0
  case hy0 => (rintro w _; go_simp; try with_reducible rfl)
  try simp only [Act.put, List.setIfInBounds_toArray, List.set_cons_zero, List.set_cons_succ]
  refine' doH 1 (v := ?v1) rfl (by kernel_rfl) (by kernel_rfl) (by kernel_rfl) (fun _ _ _ h => h) rfl HS ?hy1 ?rest1
  case hy1 => (rintro w _; go_simp; try with_reducible rfl)
  try simp only [Act.put, List.setIfInBounds_toArray, List.set_cons_zero, List.set_cons_succ]
  refine skipH 2 rfl (by kernel_rfl) (by kernel_rfl) (by kernel_rfl) (fun _ _ _ h => h) rfl HS ?_
  try simp only [Act.put, List.setIfInBounds_toArray, List.set_cons_zero, List.set_cons_succ]
  refine skipH 3 rfl (by kernel_rfl) (by kernel_rfl) (by kernel_rfl) (fun _ _ _ h => h) rfl HS ?_
  try simp only [Act.put, List.setIfInBounds_toArray, List.set_cons_zero, List.set_cons_succ]
  refine' doH 4 (v := ?v4) rfl (by kernel_rfl) (by kernel_rfl) (by kernel_rfl) (fun _ _ _ h => h) rfl HS ?hy4 ?rest4
  case hy4 => (rintro w _; go_simp; try with_reducible rfl)
  try simp only [Act.put, List.setIfInBounds_toArray, List.set_cons_zero, List.set_cons_succ]
  refine' doH 5 (v := ?v5) rfl (by kernel_rfl) (by kernel_rfl) (by kernel_rfl) (fun _ _ _ h => h) rfl HS ?hy5 ?rest5
  case hy5 => (rintro w _; go_simp; try with_reducible rfl)
  try simp only [Act.put, List.setIfInBounds_toArray, List.set_cons_zero, List.set_cons_succ]
  refine skipH 6 rfl (by kernel_rfl) (by kernel_rfl) (by kernel_rfl) (fun _ _ _ h => h) rfl HS ?_
  try simp only [Act.put, List.setIfInBounds_toArray, List.set_cons_zero, List.set_cons_succ]
  refine skipH 7 rfl (by kernel_rfl) (by kernel_rfl) (by kernel_rfl) (fun _ _ _ h => h) rfl HS ?_
  try simp only [Act.put, List.setIfInBounds_toArray, List.set_cons_zero, List.set_cons_succ]
  refine skipH 8 rfl (by kernel_rfl) (by kernel_rfl) (by kernel_rfl) (fun _ _ _ h => h) rfl HS ?_
  try simp only [Act.put, List.setIfInBounds_toArray, List.set_cons_zero, List.set_cons_succ]
  refine skipH 9 rfl (by kernel_rfl) (by kernel_rfl) (by kernel_rfl) (fun _ _ _ h => h) rfl HS ?_
  try simp only [Act.put, List.setIfInBounds_toArray, List.set_cons_zero, List.set_cons_succ]
  refine skipH 10 rfl (by kernel_rfl) (by kernel_rfl) (by kernel_rfl) (fun _ _ _ h => h) rfl HS ?_
  try simp only [Act.put, List.setIfInBounds_toArray, List.set_cons_zero, List.set_cons_succ]
  refine skipH 11 rfl (by kernel_rfl) (by kernel_rfl) (by kernel_rfl) (fun _ _ _ h => h) rfl HS ?_
  try simp only [Act.put, List.setIfInBounds_toArray, List.set_cons_zero, List.set_cons_succ]
  refine skipH 12 rfl (by kernel_rfl) (by kernel_rfl) (by kernel_rfl) (fun _ _ _ h => h) rfl HS ?_
  try simp only [Act.put, List.setIfInBounds_toArray, List.set_cons_zero, List.set_cons_succ]
  refine' doH 13 (v := ?v13) rfl (by kernel_rfl) (by kernel_rfl) (by kernel_rfl) (fun _ _ _ h => h) rfl HS ?hy13 ?rest13
  case hy13 => (rintro w _; go_simp; try with_reducible rfl)
  try simp only [Act.put, List.setIfInBounds_toArray, List.set_cons_zero, List.set_cons_succ]
  refine' doH 14 (v := ?v14) rfl (by kernel_rfl) (by kernel_rfl) (by kernel_rfl) (fun _ _ _ h => h) rfl HS ?hy14 ?rest14
  case hy14 => (rintro w _; go_simp; try with_reducible rfl)
  try simp only [Act.put, List.setIfInBounds_toArray, List.set_cons_zero, List.set_cons_succ]
  refine wpAnyH_done (by kernel_rfl) ?_ _
  refine NoPanic.normal ?_
  go_wp2
  go_ret
  exact ⟨rfl, HS⟩

set_option maxRecDepth 100000 in
set_option maxHeartbeats 2000000 in
theorem specSameRest_second (s : ByteArray) (i k : Int) (w : World) (hs : s.size ≤ 1048576) (ho : (okS s && inR i 0 1000) = true) (hk : k < 0 ∨ 1000 < k) :
    Calls Try.prog 28 #[.string s, .int .i64 i, .int .i64 k] w fun e w' => e = .returned (.bool false) ∧ Below w.heap.size w w' := by
  have hg := given_any s i w hs
  rw [ho] at hg
  clear ho
  go_enter Try.func28, Try.ntmps28
  go_wp2_with fail
  refine hg.mono ?_
  rintro e w1 ⟨⟨a1, n1, c1, a2, n2, c2, rfl, _⟩, hb⟩
  have HB := Lib.hid (hb.alloc hb.size (.cells #[.slice a1 n1 c1, .slice a2 n2 c2] 66))
  clear hb
  go_wp2
  refine wp_region_noPanic ?_
  refine wp_region_held_drew (S := fun w' => Below w.heap.size w w') (by kernel_rfl) (HB.out.drew) (fun HS => ?_)
  refine' doH 0 (v := ?v0) rfl (by kernel_rfl) (by kernel_rfl) (by kernel_rfl) (fun _ _ _ h => h) rfl HS ?hy0 ?rest0
  case hy0 => (rintro w _; go_simp; try with_reducible rfl)
  try simp only [Act.put, List.setIfInBounds_toArray, List.set_cons_zero, List.set_cons_succ]
  refine' doH 1 (v := ?v1) rfl (by kernel_rfl) (by kernel_rfl) (by kernel_rfl) (fun _ _ _ h => h) rfl HS ?hy1 ?rest1
  case hy1 => (rintro w _; go_simp; try with_reducible rfl)
  try simp only [Act.put, List.setIfInBounds_toArray, List.set_cons_zero, List.set_cons_succ]
  refine' doH 2 (v := ?v2) rfl (by kernel_rfl) (by kernel_rfl) (by kernel_rfl) (fun _ _ _ h => h) rfl HS ?hy2 ?rest2
  case hy2 => (rintro w _; go_simp; try with_reducible rfl)
  try simp only [Act.put, List.setIfInBounds_toArray, List.set_cons_zero, List.set_cons_succ]
  refine oneH 3 (by kernel_rfl) rfl (fun K3 hK3 => ?_)
  go_simp
  refine (l6In_no k 0 1000 _ hk (by decide)).mono ?_
  rintro e w5 ⟨rfl, rfl⟩
  refine hK3.out _ _ (HS) (fun HS => ?_)
  clear hK3 K3
  try simp only [Act.put, List.setIfInBounds_toArray, List.set_cons_zero, List.set_cons_succ]
  refine' doH 4 (v := ?v4) rfl (by kernel_rfl) (by kernel_rfl) (by kernel_rfl) (fun _ _ _ h => h) rfl HS ?hy4 ?rest4
  case hy4 => (rintro w _; go_simp; try with_reducible rfl)
  try simp only [Act.put, List.setIfInBounds_toArray, List.set_cons_zero, List.set_cons_succ]
  refine' doH 5 (v := ?v5) rfl (by kernel_rfl) (by kernel_rfl) (by kernel_rfl) (fun _ _ _ h => h) rfl HS ?hy5 ?rest5
  case hy5 => (rintro w _; go_simp; try with_reducible rfl)
  try simp only [Act.put, List.setIfInBounds_toArray, List.set_cons_zero, List.set_cons_succ]
  refine skipH 6 rfl (by kernel_rfl) (by kernel_rfl) (by kernel_rfl) (fun _ _ _ h => h) rfl HS ?_
  try simp only [Act.put, List.setIfInBounds_toArray, List.set_cons_zero, List.set_cons_succ]
  refine skipH 7 rfl (by kernel_rfl) (by kernel_rfl) (by kernel_rfl) (fun _ _ _ h => h) rfl HS ?_
  try simp only [Act.put, List.setIfInBounds_toArray, List.set_cons_zero, List.set_cons_succ]
  refine skipH 8 rfl (by kernel_rfl) (by kernel_rfl) (by kernel_rfl) (fun _ _ _ h => h) rfl HS ?_
  try simp only [Act.put, List.setIfInBounds_toArray, List.set_cons_zero, List.set_cons_succ]
  refine skipH 9 rfl (by kernel_rfl) (by kernel_rfl) (by kernel_rfl) (fun _ _ _ h => h) rfl HS ?_
  try simp only [Act.put, List.setIfInBounds_toArray, List.set_cons_zero, List.set_cons_succ]
  refine skipH 10 rfl (by kernel_rfl) (by kernel_rfl) (by kernel_rfl) (fun _ _ _ h => h) rfl HS ?_
  try simp only [Act.put, List.setIfInBounds_toArray, List.set_cons_zero, List.set_cons_succ]
  refine skipH 11 rfl (by kernel_rfl) (by kernel_rfl) (by kernel_rfl) (fun _ _ _ h => h) rfl HS ?_
  try simp only [Act.put, List.setIfInBounds_toArray, List.set_cons_zero, List.set_cons_succ]
  refine skipH 12 rfl (by kernel_rfl) (by kernel_rfl) (by kernel_rfl) (fun _ _ _ h => h) rfl HS ?_
  try simp only [Act.put, List.setIfInBounds_toArray, List.set_cons_zero, List.set_cons_succ]
  refine' doH 13 (v := ?v13) rfl (by kernel_rfl) (by kernel_rfl) (by kernel_rfl) (fun _ _ _ h => h) rfl HS ?hy13 ?rest13
  case hy13 => (rintro w _; go_simp; try with_reducible rfl)
  try simp only [Act.put, List.setIfInBounds_toArray, List.set_cons_zero, List.set_cons_succ]
  refine' doH 14 (v := ?v14) rfl (by kernel_rfl) (by kernel_rfl) (by kernel_rfl) (fun _ _ _ h => h) rfl HS ?hy14 ?rest14
  case hy14 => (rintro w _; go_simp; try with_reducible rfl)
  try simp only [Act.put, List.setIfInBounds_toArray, List.set_cons_zero, List.set_cons_succ]
  refine wpAnyH_done (by kernel_rfl) ?_ _
  refine NoPanic.normal ?_
  go_wp2
  go_ret
  exact ⟨rfl, HS⟩

set_option maxRecDepth 100000 in
set_option maxHeartbeats 2000000 in
theorem specSameRest_on (s : ByteArray) (i k m q : Nat) (w : World) (hs : s.size ≤ 1048576) (ho : okS s = true) (ht : Tidy (fS s) m q) (hm : m ≤ 60) (hq : q ≤ 60) (hi : i ≤ 1000) (hk : k ≤ 1000) :
    Calls Try.prog 28 #[.string s, .int .i64 i, .int .i64 k] w fun e w' => (∃ b, e = .returned (.bool b) ∧ (b = true ↔ downF (fS s) i = downF (fS s) k)) ∧ Below w.heap.size w w' := by
  have hg := given_any s i w hs
  have hIi : inR (i : Int) 0 1000 = true := by unfold inR; rw [decide_eq_true (by omega), decide_eq_true (by omega)]; rfl
  rw [ho, hIi] at hg
  have HV := Lib.hid (downT_beq ht hm hq i k)
  have HIN := Lib.hid (fun W : World => l6In_yes (k : Int) 0 1000 W (by omega) (by omega))
  have HT := Lib.hid ht
  clear ho hIi ht
  obtain ⟨X, hX⟩ : ∃ X, X = downT (fS s) m q i := ⟨_, rfl⟩
  obtain ⟨Y, hY⟩ : ∃ Y, Y = downT (fS s) m q k := ⟨_, rfl⟩
  go_enter Try.func28, Try.ntmps28
  go_wp2_with fail
  refine hg.mono ?_
  rintro e w1 ⟨⟨a1, n1, c1, a2, n2, c2, rfl, hr⟩, hb⟩
  have HB := Lib.hid (hb.alloc hb.size (.cells #[.slice a1 n1 c1, .slice a2 n2 c2] 66))
  have hR := (hr rfl).alloc (.cells #[.slice a1 n1 c1, .slice a2 n2 c2] 66)
  have keep : ∀ {W W' : World}, (W.cell? ⟨w1.heap.size, 0, none⟩ = some (.slice a1 n1 c1) ∧ W.cell? ⟨w1.heap.size, 1, none⟩ = some (.slice a2 n2 c2) ∧ IsRead W s a1 n1 a2 n2 ∧ Below w.heap.size w W) → Below W.heap.size W W' → (W'.cell? ⟨w1.heap.size, 0, none⟩ = some (.slice a1 n1 c1) ∧ W'.cell? ⟨w1.heap.size, 1, none⟩ = some (.slice a2 n2 c2) ∧ IsRead W' s a1 n1 a2 n2 ∧ Below w.heap.size w W') := fun h hb => ⟨(hb.cell (p := ⟨w1.heap.size, 0, none⟩) (lt_of_some h.1)).trans h.1, (hb.cell (p := ⟨w1.heap.size, 1, none⟩) (lt_of_some h.1)).trans h.2.1, h.2.2.1.below hb (Nat.le_refl _), h.2.2.2.trans (hb.mono h.2.2.2.size)⟩
  have HSD := keep (W := w1.alloc (.cells #[.slice a1 n1 c1, .slice a2 n2 c2] 66)) ⟨by rw [World.cell?_alloc_at _ _ _ _ rfl]; rfl, by rw [World.cell?_alloc_at _ _ _ _ rfl]; rfl, hR, HB.out⟩ (Below.refl _ _).drew
  have HK0 : Hid (∀ W : World, (W.cell? ⟨w1.heap.size, 0, none⟩ = some (.slice a1 n1 c1) ∧ W.cell? ⟨w1.heap.size, 1, none⟩ = some (.slice a2 n2 c2) ∧ IsRead W s a1 n1 a2 n2 ∧ Below w.heap.size w W) → Calls Try.prog 61 #[.int .i64 k, .int .i64 0, .int .i64 1000] W fun e w' => e = .returned (.bool true) ∧ (w'.cell? ⟨w1.heap.size, 0, none⟩ = some (.slice a1 n1 c1) ∧ w'.cell? ⟨w1.heap.size, 1, none⟩ = some (.slice a2 n2 c2) ∧ IsRead w' s a1 n1 a2 n2 ∧ Below w.heap.size w w')) := Lib.hid fun W h => (HIN.out W).mono fun e w' he => ⟨he.1, he.2 ▸ h⟩
  have HK1 : Hid (∀ W : World, (W.cell? ⟨w1.heap.size, 0, none⟩ = some (.slice a1 n1 c1) ∧ W.cell? ⟨w1.heap.size, 1, none⟩ = some (.slice a2 n2 c2) ∧ IsRead W s a1 n1 a2 n2 ∧ Below w.heap.size w W) → Calls Try.prog 54 #[.agg #[.slice a1 n1 c1, .slice a2 n2 c2], .int .i64 i] W fun e w' => e = .returned (.string X) ∧ (w'.cell? ⟨w1.heap.size, 0, none⟩ = some (.slice a1 n1 c1) ∧ w'.cell? ⟨w1.heap.size, 1, none⟩ = some (.slice a2 n2 c2) ∧ IsRead w' s a1 n1 a2 n2 ∧ Below w.heap.size w w')) := Lib.hid fun W h => by rw [hX]; exact (l5Down_any s a1 a2 n1 c1 n2 c2 i m q W h.2.2.1 HT.out (by omega)).mono fun e w' he => ⟨he.1, keep h he.2⟩
  have HK2 : Hid (∀ W : World, (W.cell? ⟨w1.heap.size, 0, none⟩ = some (.slice a1 n1 c1) ∧ W.cell? ⟨w1.heap.size, 1, none⟩ = some (.slice a2 n2 c2) ∧ IsRead W s a1 n1 a2 n2 ∧ Below w.heap.size w W) → Calls Try.prog 54 #[.agg #[.slice a1 n1 c1, .slice a2 n2 c2], .int .i64 k] W fun e w' => e = .returned (.string Y) ∧ (w'.cell? ⟨w1.heap.size, 0, none⟩ = some (.slice a1 n1 c1) ∧ w'.cell? ⟨w1.heap.size, 1, none⟩ = some (.slice a2 n2 c2) ∧ IsRead w' s a1 n1 a2 n2 ∧ Below w.heap.size w w')) := Lib.hid fun W h => by rw [hY]; exact (l5Down_any s a1 a2 n1 c1 n2 c2 k m q W h.2.2.1 HT.out (by omega)).mono fun e w' he => ⟨he.1, keep h he.2⟩
  rw [← hX, ← hY] at HV
  clear hb hr hR keep hX hY
  go_wp2
  go_region_held3 (fun w' => w'.cell? ⟨w1.heap.size, 0, none⟩ = some (.slice a1 n1 c1) ∧ w'.cell? ⟨w1.heap.size, 1, none⟩ = some (.slice a2 n2 c2) ∧ IsRead w' s a1 n1 a2 n2 ∧ Below w.heap.size w w') (first | assumption | (constructor <;> assumption))
    (first
      | (go_at_call 61; (with_reducible refine (HK0.out _ ?_).mono ?_); assumption; rintro e w5 ⟨rfl, hb5⟩)
      | (go_at_call 54; (with_reducible refine (HK1.out _ ?_).mono ?_); assumption; rintro e w5 ⟨rfl, hb5⟩)
      | (go_at_call 54; (with_reducible refine (HK2.out _ ?_).mono ?_); assumption; rintro e w5 ⟨rfl, hb5⟩))
  all_goals
    go_wp2
    go_ret
    exact ⟨⟨_, rfl, HV.out⟩, hb5.2.2.2⟩

theorem specSameRest (s : ByteArray) (i k : Int) (w : World) (hs : s.size ≤ 1048576) :
    Calls Try.prog 28 #[.string s, .int .i64 i, .int .i64 k] w fun e w' => TwinIs (okS s && inR i 0 1000 && inR k 0 1000) (fS s) i.toNat k.toNat e ∧ Below w.heap.size w w' := by
  cases h1 : (okS s && inR i 0 1000)
  · exact (specSameRest_off s i k w hs h1).mono fun e w' ⟨he, hb⟩ => ⟨twinIs_off rfl he, hb⟩
  · rcases inR_cases k 0 1000 with ⟨hk, k1, k2⟩ | ⟨hk, hk2⟩
    · rw [hk]
      rw [Bool.and_eq_true] at h1
      obtain ⟨ho, hi⟩ := h1
      rcases inR_cases i 0 1000 with ⟨_, i1, i2⟩ | ⟨h, _⟩
      · obtain ⟨i, rfl⟩ := Int.eq_ofNat_of_zero_le i1
        obtain ⟨k, rfl⟩ := Int.eq_ofNat_of_zero_le k1
        obtain ⟨m, q, ht, hm, hq⟩ := tidy_there ho
        exact (specSameRest_on s i k m q w hs ho ht hm hq (by omega) (by omega)).mono fun e w' ⟨⟨b, he, hb1⟩, hb⟩ => ⟨⟨b, he, And.intro (fun _ => hb1) (fun h => by cases h)⟩, hb⟩
      · rw [h] at hi; cases hi
    · rw [hk]
      exact (specSameRest_second s i k w hs h1 hk2).mono fun e w' ⟨he, hb⟩ => ⟨twinIs_off rfl he, hb⟩
end Go.Proofs.Ytifodjlfjnmnkaa
