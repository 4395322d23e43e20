/-
  The walk of spec.MakeUp.
-/
import Derived.Test.YtcljchngjaodgaaMarks
import Derived.Test.YtcljchngjaodgaaMakeMath
import Derived.Test.YtcljchngjaodgaaReadS
import Derived.Test.YtcljchngjaodgaaHasS
import Derived.Test.YtcljchngjaodgaaInS
import Derived.Test.YtcljchngjaodgaaSteps
namespace Go.Proofs.Ytcljchngjaodgaa
open Go.RowKit

set_option maxHeartbeats 400000 in
theorem specUp_off (s : ByteArray) (k : Int) (w : World) (hs : s.size ≤ 1048576) (h : (okS s && inR k 0 60) = false) :
    Calls Try.prog 31 #[.string s, .int .i64 k] w fun e w' => e = .returned (.tuple #[.string ⟨#[]⟩, .bool false]) ∧ Below w.heap.size w w' := by
  cases hok : okS s
  · go_enter Try.func31, Try.ntmps31
    go_wp2_with fail
    refine (read_off s _ hs hok).mono ?_
    rintro e w1 ⟨a1, n1, c1, a2, n2, c2, rfl, hb⟩
    go_wp2
    go_ret2
    exact ⟨rfl, hb.alloc hb.size _⟩
  · have h' : k < 0 ∨ 60 < k := by
      rw [hok, Bool.true_and] at h
      rcases inR_cases k 0 60 with ⟨h2, _⟩ | ⟨_, h2⟩
      · rw [h2] at h; cases h
      · exact h2
    go_enter Try.func31, Try.ntmps31
    go_wp2_with fail
    refine (read_on s _ hs hok).mono ?_
    rintro e w1 ⟨a1, n1, c1, a2, n2, c2, rfl, hb, _⟩
    go_wp2_with fail
    refine (l6In_no k 0 60 _ h' (by decide)).mono ?_
    rintro e w2 ⟨rfl, rfl⟩
    go_wp2
    go_ret2
    exact ⟨rfl, hb.alloc hb.size _⟩

set_option maxRecDepth 100000 in
set_option maxHeartbeats 1000000 in
theorem specUp_on (s : ByteArray) (k : Nat) (w : World) (hs : s.size ≤ 1048576) (hok : okS s = true) (hk : k ≤ 60) :
    Calls Try.prog 31 #[.string s, .int .i64 k] w fun e w' => MadeEnd (upF (fS s) k) e ∧ Below w.heap.size w w' := by
  obtain ⟨i0, hi, hz0, hz1, hz2⟩ := info_parts Try.infoBool
  go_enter Try.func31, Try.ntmps31
  go_wp2_with fail
  refine (read_room s _ hs hok).mono ?_
  rintro e w1 ⟨a1, n1, c1, a2, n2, c2, rfl, hb, hr, hz, k1, k2, k3, k4⟩
  go_wp2_with fail
  refine (l6In_yes k 0 60 _ (by omega) (by omega)).mono ?_
  rintro e w2 ⟨rfl, rfl⟩
  have l1 := hr.tailLe
  have l2 := hr.ringLe
  have l3 := hr.ringPos
  obtain ⟨W0, hW0⟩ : ∃ W0, W0 = w1.alloc (.cells #[.slice a1 n1 c1, .slice a2 n2 c2] 61) := ⟨_, rfl⟩
  have hR : IsRead W0 s a1 n1 a2 n2 := by rw [hW0]; exact hr.alloc _
  have hb0 : Below w.heap.size w W0 := by rw [hW0]; exact hb.alloc hb.size _
  have hq : W0.cell? ⟨w1.heap.size, 0, none⟩ = some (.slice a1 n1 c1) ∧ W0.cell? ⟨w1.heap.size, 1, none⟩ = some (.slice a2 n2 c2) := by rw [hW0]; exact box_later (Below.refl _ _)
  have hlt : w1.heap.size < W0.heap.size := by rw [hW0]; simp
  have HR := Lib.hid hR
  have HB0 := Lib.hid hb0
  have hkeep : ∀ W', Below W0.heap.size W0 W' → W'.cell? ⟨w1.heap.size, 0, none⟩ = some (.slice a1 n1 c1) ∧ W'.cell? ⟨w1.heap.size, 1, none⟩ = some (.slice a2 n2 c2) :=
    fun W' hB => ⟨(hB.cell (p := ⟨w1.heap.size, 0, none⟩) hlt).trans hq.1, (hB.cell (p := ⟨w1.heap.size, 1, none⟩) hlt).trans hq.2⟩
  have HK := Lib.hid hkeep
  have HZ := Lib.hid hz
  go_wp2
  rw [← hW0]
  clear hW0 hR hb0 hq hkeep hz hr hb
  refine wp_region_noPanic ?_
  refine wp_region_held_drew (S := fun w' => w'.cell? ⟨w1.heap.size, 0, none⟩ = some (.slice a1 n1 c1) ∧ w'.cell? ⟨w1.heap.size, 1, none⟩ = some (.slice a2 n2 c2)) (by kernel_rfl) (HK.out _ (Below.refl _ _).drew) (fun HS => ?_)
  refine' doH 0 (v := ?v0) rfl (by kernel_rfl) (by kernel_rfl) (by kernel_rfl) (fun _ _ _ h => h) rfl HS ?hy0 ?rest0
  case hy0 => (rintro w ⟨hS0, hS1⟩; go_simp; try with_reducible rfl)
  try simp only [Act.put, List.setIfInBounds_toArray, List.set_cons_zero, List.set_cons_succ]
  refine' doH 2 (v := ?v2) rfl (by kernel_rfl) (by kernel_rfl) (by kernel_rfl) (fun _ _ _ h => h) rfl HS ?hy2 ?rest2
  case hy2 => (rintro w ⟨hS0, hS1⟩; go_simp; try with_reducible rfl)
  try simp only [Act.put, List.setIfInBounds_toArray, List.set_cons_zero, List.set_cons_succ]
  refine' doH 3 (v := ?v3) rfl (by kernel_rfl) (by kernel_rfl) (by kernel_rfl) (fun _ _ _ h => h) rfl HS ?hy3 ?rest3
  case hy3 => (rintro w ⟨hS0, hS1⟩; go_simp; try with_reducible rfl)
  try simp only [Act.put, List.setIfInBounds_toArray, List.set_cons_zero, List.set_cons_succ]
  refine' doH 5 (v := ?v5) rfl (by kernel_rfl) (by kernel_rfl) (by kernel_rfl) (fun _ _ _ h => h) rfl HS ?hy5 ?rest5
  case hy5 => (rintro w ⟨hS0, hS1⟩; go_simp; try with_reducible rfl)
  try simp only [Act.put, List.setIfInBounds_toArray, List.set_cons_zero, List.set_cons_succ]
  refine' doH 6 (v := ?v6) rfl (by kernel_rfl) (by kernel_rfl) (by kernel_rfl) (fun _ _ _ h => h) rfl HS ?hy6 ?rest6
  case hy6 => (rintro w ⟨hS0, hS1⟩; go_simp; try with_reducible rfl)
  try simp only [Act.put, List.setIfInBounds_toArray, List.set_cons_zero, List.set_cons_succ]
  refine oneH 1 (by kernel_rfl) rfl (fun K1 hK1 => ?_)
  refine step_make rfl _ _ rfl k W0.heap.size rfl rfl (by omega) (Nat.le_refl _) (fun wa ha hga => ?_)
  have HBa : Below W0.heap.size W0 wa := (Below.refl _ _).drew.grown hga (Nat.le_refl _) (fun j hj => by cases hj)
  refine hK1.out _ _ (HK.out _ HBa) (fun HS => ?_)
  clear hK1 K1
  try simp only [Act.put, List.setIfInBounds_toArray, List.set_cons_zero, List.set_cons_succ]
  refine oneH 4 (by kernel_rfl) rfl (fun K4 hK4 => ?_)
  refine step_bools rfl _ _ rfl W0.heap.size _ k _ rfl ha a1 n1 c1 (setT s) rfl (HR.out.tail.below HBa (Nat.le_refl _)) HZ.out (by omega) HBa.size (fun va wb hown hgb => ?_)
  have HBb : Below W0.heap.size W0 wb := HBa.grown hgb HBa.size (fun j hj => (ha.lt j hj).1)
  obtain ⟨av, cv, rfl⟩ := own_form hown
  refine hK4.out _ _ (HK.out _ HBb) (fun HS => ?_)
  clear hK4 K4
  try simp only [Act.put, List.setIfInBounds_toArray, List.set_cons_zero, List.set_cons_succ]
  refine' doH 7 (v := ?v7) rfl (by kernel_rfl) (by kernel_rfl) (by kernel_rfl) (fun _ _ _ h => h) rfl HS ?hy7 ?rest7
  case hy7 => (rintro w ⟨hS0, hS1⟩; go_simp; try with_reducible rfl)
  try simp only [Act.put, List.setIfInBounds_toArray, List.set_cons_zero, List.set_cons_succ]
  refine oneH 8 (by kernel_rfl) rfl (fun K8 hK8 => ?_)
  have hin : LessIn wb (List.replicate k false ++ setT s) (setR s) av (k + n1) cv a2 n2 c2 :=
    ⟨reads_own2 hown (by rw [List.length_append, List.length_replicate, HR.out.tail.len]), HR.out.ring.below HBb (Nat.le_refl _), (own_cap hown).1, k3, (own_cap hown).2, k4, by omega, by omega, l3⟩
  go_simp
  refine (done_gen _ _ _ _ _ _ _ _ wb hin).mono ?_
  rintro e w4 ⟨⟨T, b, rfl, hmade⟩, hb4⟩
  rw [upF_eq] at hmade
  have HMd : Hid (Made (upF (fS s) k) T b) := Lib.hid hmade
  have HB4 := Lib.hid (HB0.out.trans ((HBb.trans (hb4.mono HBb.size)).mono HB0.out.size))
  refine hK8.out _ _ (HK.out _ (HBb.trans (hb4.mono HBb.size))) (fun HS => ?_)
  clear hK8 K8 hin hmade hb4 ha hown hga hgb HBa HBb
  try simp only [Act.put, List.setIfInBounds_toArray, List.set_cons_zero, List.set_cons_succ]
  refine' doH 9 (v := ?v9) rfl (by kernel_rfl) (by kernel_rfl) (by kernel_rfl) (fun _ _ _ h => h) rfl HS ?hy9 ?rest9
  case hy9 => (rintro w ⟨hS0, hS1⟩; go_simp; try with_reducible rfl)
  try simp only [Act.put, List.setIfInBounds_toArray, List.set_cons_zero, List.set_cons_succ]
  refine' doH 10 (v := ?v10) rfl (by kernel_rfl) (by kernel_rfl) (by kernel_rfl) (fun _ _ _ h => h) rfl HS ?hy10 ?rest10
  case hy10 => (rintro w ⟨hS0, hS1⟩; go_simp; try with_reducible rfl)
  try simp only [Act.put, List.setIfInBounds_toArray, List.set_cons_zero, List.set_cons_succ]
  refine' doH 11 (v := ?v11) rfl (by kernel_rfl) (by kernel_rfl) (by kernel_rfl) (fun _ _ _ h => h) rfl HS ?hy11 ?rest11
  case hy11 => (rintro w ⟨hS0, hS1⟩; go_simp; try with_reducible rfl)
  try simp only [Act.put, List.setIfInBounds_toArray, List.set_cons_zero, List.set_cons_succ]
  refine' doH 12 (v := ?v12) rfl (by kernel_rfl) (by kernel_rfl) (by kernel_rfl) (fun _ _ _ h => h) rfl HS ?hy12 ?rest12
  case hy12 => (rintro w ⟨hS0, hS1⟩; go_simp; try with_reducible rfl)
  try simp only [Act.put, List.setIfInBounds_toArray, List.set_cons_zero, List.set_cons_succ]
  refine wpAnyH_done (by kernel_rfl) ?_ _
  refine NoPanic.normal ?_
  go_wp2
  go_ret2
  exact ⟨⟨T, b, rfl, HMd.out⟩, HB4.out⟩
end Go.Proofs.Ytcljchngjaodgaa
