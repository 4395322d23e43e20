/-
  The walk of the model's MachTakes.
-/
import Derived.Test.YtiphooodijbhiaaMachAtS
namespace Go.Proofs.Ytiphooodijbhiaa
open Go.RowKit
set_option linter.unusedVariables false

set_option maxHeartbeats 2000000 in
theorem specTakes (a : Option Addr) (n c : Nat) (zs : List Int) (b e k : Int) (w : World) (h : ReadsI w a n zs) (hn : n ≤ 1048576) :
    Calls Try.prog 17 #[.agg #[.slice a n c, .int .i64 b, .int .i64 e], .int .i64 k] w fun e1 w' => e1 = .returned (.bool (takesV zs b e k)) ∧ Below w.heap.size w w' := by
  have hbx := (boxM_start a n c b e w 25).step (Below.refl _ _).drew
  have hrd : ∀ W : World, BoxM a n c b e w.heap.size w W → ReadsI W a n zs := fun W hW => h.below hW.below (Nat.le_refl _)
  have KI : ∀ W : World, BoxM a n c b e w.heap.size w W → Calls Try.prog 61 #[.agg #[.slice a n c, .int .i64 b, .int .i64 e]] W fun e1 w' => e1 = .returned (.bool (okM zs b e)) ∧ Below W.heap.size W w' := fun W hW => specIn a n c zs b e W (hrd W hW) hn
  cases ho : okM zs b e
  · rw [ho] at KI
    have HKI := Lib.hid KI
    have HBX := Lib.hid hbx
    have hv : takesV zs b e k = false := by unfold takesV okAt; rw [ho]; rfl
    rw [hv]
    clear hv ho KI hrd h hbx
    go_enter Try.func17, Try.ntmps17
    go_wp2
    refine wp_region_noPanic ?_
    refine wp_region_held_drew (S := fun w' => w'.cell? ⟨w.heap.size, 0, none⟩ = some (.slice a n c) ∧ w'.cell? ⟨w.heap.size, 1, none⟩ = some (.int .i64 b) ∧ w'.cell? ⟨w.heap.size, 2, none⟩ = some (.int .i64 e) ∧ BoxM a n c b e w.heap.size w w') (by kernel_rfl) (⟨HBX.out.q0, HBX.out.q1, HBX.out.q2, HBX.out⟩) (fun HS => ?_)
    refine' doH 0 (v := .agg #[.slice a n c, .int .i64 b, .int .i64 e]) rfl (by kernel_rfl) (by kernel_rfl) (by kernel_rfl) (fun _ _ _ h => h) rfl HS ?hy0 ?rest0
    case hy0 => (rintro w ⟨s0, s1, s2, s3⟩; go_simp; try with_reducible rfl)
    try simp only [Act.put, List.setIfInBounds_toArray, List.set_cons_zero, List.set_cons_succ]
    refine oneH 1 (by kernel_rfl) rfl (fun K1 hK1 => ?_)
    go_simp
    refine (HKI.out _ HS.2.2.2).mono ?_
    rintro e1 w1 ⟨rfl, hb⟩
    have HB1 := Lib.hid (HS.2.2.2.step hb)
    clear hb HS
    refine hK1.out _ _ (⟨HB1.out.q0, HB1.out.q1, HB1.out.q2, HB1.out⟩) (fun HS => ?_)
    clear hK1 K1
    try simp only [Act.put, List.setIfInBounds_toArray, List.set_cons_zero, List.set_cons_succ]
    refine' doH 2 (v := .bool false) rfl (by kernel_rfl) (by kernel_rfl) (by kernel_rfl) (fun _ _ _ h => h) rfl HS ?hy2 ?rest2
    case hy2 => (rintro w ⟨s0, s1, s2, s3⟩; go_simp; try with_reducible rfl)
    try simp only [Act.put, List.setIfInBounds_toArray, List.set_cons_zero, List.set_cons_succ]
    refine skipH 3 rfl (by kernel_rfl) (by kernel_rfl) (by kernel_rfl) (fun _ _ _ h => h) rfl HS ?_
    try simp only [Act.put, List.setIfInBounds_toArray, List.set_cons_zero, List.set_cons_succ]
    refine skipH 4 rfl (by kernel_rfl) (by kernel_rfl) (by kernel_rfl) (fun _ _ _ h => h) rfl HS ?_
    try simp only [Act.put, List.setIfInBounds_toArray, List.set_cons_zero, List.set_cons_succ]
    refine' doH 5 (v := .bool false) rfl (by kernel_rfl) (by kernel_rfl) (by kernel_rfl) (fun _ _ _ h => h) rfl HS ?hy5 ?rest5
    case hy5 => (rintro w ⟨s0, s1, s2, s3⟩; go_simp; try with_reducible rfl)
    try simp only [Act.put, List.setIfInBounds_toArray, List.set_cons_zero, List.set_cons_succ]
    refine' doH 6 (v := .bool false) rfl (by kernel_rfl) (by kernel_rfl) (by kernel_rfl) (fun _ _ _ h => h) rfl HS ?hy6 ?rest6
    case hy6 => (rintro w ⟨s0, s1, s2, s3⟩; go_simp; try with_reducible rfl)
    try simp only [Act.put, List.setIfInBounds_toArray, List.set_cons_zero, List.set_cons_succ]
    refine skipH 7 rfl (by kernel_rfl) (by kernel_rfl) (by kernel_rfl) (fun _ _ _ h => h) rfl HS ?_
    try simp only [Act.put, List.setIfInBounds_toArray, List.set_cons_zero, List.set_cons_succ]
    refine skipH 8 rfl (by kernel_rfl) (by kernel_rfl) (by kernel_rfl) (fun _ _ _ h => h) rfl HS ?_
    try simp only [Act.put, List.setIfInBounds_toArray, List.set_cons_zero, List.set_cons_succ]
    refine skipH 9 rfl (by kernel_rfl) (by kernel_rfl) (by kernel_rfl) (fun _ _ _ h => h) rfl HS ?_
    try simp only [Act.put, List.setIfInBounds_toArray, List.set_cons_zero, List.set_cons_succ]
    refine skipH 10 rfl (by kernel_rfl) (by kernel_rfl) (by kernel_rfl) (fun _ _ _ h => h) rfl HS ?_
    try simp only [Act.put, List.setIfInBounds_toArray, List.set_cons_zero, List.set_cons_succ]
    refine skipH 11 rfl (by kernel_rfl) (by kernel_rfl) (by kernel_rfl) (fun _ _ _ h => h) rfl HS ?_
    try simp only [Act.put, List.setIfInBounds_toArray, List.set_cons_zero, List.set_cons_succ]
    refine skipH 12 rfl (by kernel_rfl) (by kernel_rfl) (by kernel_rfl) (fun _ _ _ h => h) rfl HS ?_
    try simp only [Act.put, List.setIfInBounds_toArray, List.set_cons_zero, List.set_cons_succ]
    refine skipH 13 rfl (by kernel_rfl) (by kernel_rfl) (by kernel_rfl) (fun _ _ _ h => h) rfl HS ?_
    try simp only [Act.put, List.setIfInBounds_toArray, List.set_cons_zero, List.set_cons_succ]
    refine' doH 14 (v := .bool false) rfl (by kernel_rfl) (by kernel_rfl) (by kernel_rfl) (fun _ _ _ h => h) rfl HS ?hy14 ?rest14
    case hy14 => (rintro w ⟨s0, s1, s2, s3⟩; go_simp; try with_reducible rfl)
    try simp only [Act.put, List.setIfInBounds_toArray, List.set_cons_zero, List.set_cons_succ]
    refine' doH 15 (v := .bool false) rfl (by kernel_rfl) (by kernel_rfl) (by kernel_rfl) (fun _ _ _ h => h) rfl HS ?hy15 ?rest15
    case hy15 => (rintro w ⟨s0, s1, s2, s3⟩; go_simp; try with_reducible rfl)
    try simp only [Act.put, List.setIfInBounds_toArray, List.set_cons_zero, List.set_cons_succ]
    refine wpAnyH_done (by kernel_rfl) ?_ _
    refine NoPanic.normal ?_
    go_wp2
    go_ret
    exact ⟨rfl, HB1.out.below⟩
  · rw [ho] at KI
    have HKI := Lib.hid KI
    have HBX := Lib.hid hbx
    cases hd : decide (0 ≤ k ∧ k ≤ 1000000)
    · have K6 := in6_is k 0 1000000
      rw [hd] at K6
      have HK6 := Lib.hid K6
      have hv : takesV zs b e k = false := by unfold takesV okAt; rw [ho, hd]; rfl
      rw [hv]
      clear hv ho KI hrd h hbx hd K6
      go_enter Try.func17, Try.ntmps17
      go_wp2
      refine wp_region_noPanic ?_
      refine wp_region_held_drew (S := fun w' => w'.cell? ⟨w.heap.size, 0, none⟩ = some (.slice a n c) ∧ w'.cell? ⟨w.heap.size, 1, none⟩ = some (.int .i64 b) ∧ w'.cell? ⟨w.heap.size, 2, none⟩ = some (.int .i64 e) ∧ BoxM a n c b e w.heap.size w w') (by kernel_rfl) (⟨HBX.out.q0, HBX.out.q1, HBX.out.q2, HBX.out⟩) (fun HS => ?_)
      refine' doH 0 (v := .agg #[.slice a n c, .int .i64 b, .int .i64 e]) rfl (by kernel_rfl) (by kernel_rfl) (by kernel_rfl) (fun _ _ _ h => h) rfl HS ?hyB0 ?restB0
      case hyB0 => (rintro w ⟨s0, s1, s2, s3⟩; go_simp; try with_reducible rfl)
      try simp only [Act.put, List.setIfInBounds_toArray, List.set_cons_zero, List.set_cons_succ]
      refine oneH 1 (by kernel_rfl) rfl (fun K1 hK1 => ?_)
      go_simp
      refine (HKI.out _ HS.2.2.2).mono ?_
      rintro e1 w1 ⟨rfl, hb⟩
      have HB1 := Lib.hid (HS.2.2.2.step hb)
      clear hb HS
      refine hK1.out _ _ (⟨HB1.out.q0, HB1.out.q1, HB1.out.q2, HB1.out⟩) (fun HS => ?_)
      clear hK1 K1
      try simp only [Act.put, List.setIfInBounds_toArray, List.set_cons_zero, List.set_cons_succ]
      refine' doH 2 (v := .bool true) rfl (by kernel_rfl) (by kernel_rfl) (by kernel_rfl) (fun _ _ _ h => h) rfl HS ?hyB2 ?restB2
      case hyB2 => (rintro w ⟨s0, s1, s2, s3⟩; go_simp; try with_reducible rfl)
      try simp only [Act.put, List.setIfInBounds_toArray, List.set_cons_zero, List.set_cons_succ]
      refine' doH 3 (v := .int .i64 k) rfl (by kernel_rfl) (by kernel_rfl) (by kernel_rfl) (fun _ _ _ h => h) rfl HS ?hyB3 ?restB3
      case hyB3 => (rintro w ⟨s0, s1, s2, s3⟩; go_simp; try with_reducible rfl)
      try simp only [Act.put, List.setIfInBounds_toArray, List.set_cons_zero, List.set_cons_succ]
      refine oneH 4 (by kernel_rfl) rfl (fun K4 hK4 => ?_)
      go_simp
      refine (HK6.out _).mono ?_
      rintro e1 w2 ⟨rfl, rfl⟩
      refine hK4.out _ _ (HS) (fun HS => ?_)
      clear hK4 K4
      try simp only [Act.put, List.setIfInBounds_toArray, List.set_cons_zero, List.set_cons_succ]
      refine' doH 5 (v := .bool false) rfl (by kernel_rfl) (by kernel_rfl) (by kernel_rfl) (fun _ _ _ h => h) rfl HS ?hyB5 ?restB5
      case hyB5 => (rintro w ⟨s0, s1, s2, s3⟩; go_simp; try with_reducible rfl)
      try simp only [Act.put, List.setIfInBounds_toArray, List.set_cons_zero, List.set_cons_succ]
      refine' doH 6 (v := .bool false) rfl (by kernel_rfl) (by kernel_rfl) (by kernel_rfl) (fun _ _ _ h => h) rfl HS ?hyB6 ?restB6
      case hyB6 => (rintro w ⟨s0, s1, s2, s3⟩; go_simp; try with_reducible rfl)
      try simp only [Act.put, List.setIfInBounds_toArray, List.set_cons_zero, List.set_cons_succ]
      refine skipH 7 rfl (by kernel_rfl) (by kernel_rfl) (by kernel_rfl) (fun _ _ _ h => h) rfl HS ?_
      try simp only [Act.put, List.setIfInBounds_toArray, List.set_cons_zero, List.set_cons_succ]
      refine skipH 8 rfl (by kernel_rfl) (by kernel_rfl) (by kernel_rfl) (fun _ _ _ h => h) rfl HS ?_
      try simp only [Act.put, List.setIfInBounds_toArray, List.set_cons_zero, List.set_cons_succ]
      refine skipH 9 rfl (by kernel_rfl) (by kernel_rfl) (by kernel_rfl) (fun _ _ _ h => h) rfl HS ?_
      try simp only [Act.put, List.setIfInBounds_toArray, List.set_cons_zero, List.set_cons_succ]
      refine skipH 10 rfl (by kernel_rfl) (by kernel_rfl) (by kernel_rfl) (fun _ _ _ h => h) rfl HS ?_
      try simp only [Act.put, List.setIfInBounds_toArray, List.set_cons_zero, List.set_cons_succ]
      refine skipH 11 rfl (by kernel_rfl) (by kernel_rfl) (by kernel_rfl) (fun _ _ _ h => h) rfl HS ?_
      try simp only [Act.put, List.setIfInBounds_toArray, List.set_cons_zero, List.set_cons_succ]
      refine skipH 12 rfl (by kernel_rfl) (by kernel_rfl) (by kernel_rfl) (fun _ _ _ h => h) rfl HS ?_
      try simp only [Act.put, List.setIfInBounds_toArray, List.set_cons_zero, List.set_cons_succ]
      refine skipH 13 rfl (by kernel_rfl) (by kernel_rfl) (by kernel_rfl) (fun _ _ _ h => h) rfl HS ?_
      try simp only [Act.put, List.setIfInBounds_toArray, List.set_cons_zero, List.set_cons_succ]
      refine' doH 14 (v := .bool false) rfl (by kernel_rfl) (by kernel_rfl) (by kernel_rfl) (fun _ _ _ h => h) rfl HS ?hyB14 ?restB14
      case hyB14 => (rintro w ⟨s0, s1, s2, s3⟩; go_simp; try with_reducible rfl)
      try simp only [Act.put, List.setIfInBounds_toArray, List.set_cons_zero, List.set_cons_succ]
      refine' doH 15 (v := .bool false) rfl (by kernel_rfl) (by kernel_rfl) (by kernel_rfl) (fun _ _ _ h => h) rfl HS ?hyB15 ?restB15
      case hyB15 => (rintro w ⟨s0, s1, s2, s3⟩; go_simp; try with_reducible rfl)
      try simp only [Act.put, List.setIfInBounds_toArray, List.set_cons_zero, List.set_cons_succ]
      refine wpAnyH_done (by kernel_rfl) ?_ _
      refine NoPanic.normal ?_
      go_wp2
      go_ret
      exact ⟨rfl, HB1.out.below⟩
    · have K6 := in6_is k 0 1000000
      rw [hd] at K6
      have HK6 := Lib.hid K6
      obtain ⟨l, n', s, t, rfl, hl, rfl, rfl, hg⟩ := okM_good ho
      obtain ⟨p, q, hc, hpq⟩ := good_comes hg
      have hnn : n' = n := by rw [← hl]; exact h.len
      subst hnn
      obtain ⟨kk, rfl⟩ := Int.eq_ofNat_of_zero_le (of_decide_eq_true hd).1
      have hk := (of_decide_eq_true hd).2
      have hk2 : kk ≤ 1000000 := by omega
      obtain ⟨V, hV⟩ : ∃ V, V = afterN l s kk := ⟨_, rfl⟩
      have KA : ∀ W : World, BoxM a n' c s t w.heap.size w W → Calls Try.prog 63 #[.agg #[.slice a n' c, .int .i64 s, .int .i64 t], .int .i64 kk] W fun e1 w' => e1 = .returned (.int .i64 V) ∧ Below W.heap.size W w' := fun W hW => by
        rw [hV]; exact at6_is a n' c l s kk t p q W (hrd W hW) hg.good hg.le hg.starts hc hpq hk2
      have hlt : V < 2 ^ 62 := by rw [hV]; exact lt62 (after_lt hg.good hg.starts _) (by have := hg.le; omega)
      have ht : t < 2 ^ 62 := lt62 hg.ends (by have := hg.le; omega)
      have hbit : (Go.bits .and .i64 (V : Nat) (t : Nat) != 0) = takesV (castM l) s t kk := by
        rw [bit_and _ _ hlt ht]
        unfold takesV okAt
        rw [ho, hd, Bool.true_and]
        unfold fM takesF
        rw [natsM_cast, toNat_cast, toNat_cast, toNat_cast, ← hV, Bool.eq_iff_iff, bne_iff_ne, Bool.true_and, bne_iff_ne]
        omega
      generalize takesV (castM l) s t kk = B at hbit ⊢
      have HKA := Lib.hid KA
      clear hV hlt ht hg hl ho hd K6 KI KA hc hrd h hbx hk
      go_enter Try.func17, Try.ntmps17
      go_wp2
      go_region_with (first
        | (go_at_call 61; (with_reducible refine (HKI.out _ HBX.out).mono ?_); rintro e1 w1 ⟨rfl, hb⟩; have HB1 := Lib.hid (HBX.out.step hb); have y0 := HB1.out.q0; have y1 := HB1.out.q1; have y2 := HB1.out.q2; clear hb)
        | (go_at_call 62; (with_reducible refine (HK6.out _).mono ?_); rintro e1 w2 ⟨rfl, rfl⟩)
        | (go_at_call 63; (with_reducible refine (HKA.out _ HB1.out).mono ?_); rintro e1 w3 ⟨rfl, hb⟩; have HB1 := Lib.hid (HB1.out.step hb); have z2 := HB1.out.q2; clear hb))
      all_goals
        go_wp2
        go_ret
        exact ⟨rfl, HB1.out.below⟩

end Go.Proofs.Ytiphooodijbhiaa
