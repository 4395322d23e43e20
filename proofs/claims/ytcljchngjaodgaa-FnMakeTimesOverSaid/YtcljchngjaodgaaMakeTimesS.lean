/-
  The walk of spec.MakeTimes.
-/
import Derived.Test.YtcljchngjaodgaaMarks
import Derived.Test.YtcljchngjaodgaaMakeMath
import Derived.Test.YtcljchngjaodgaaReadS
import Derived.Test.YtcljchngjaodgaaHasS
import Derived.Test.YtcljchngjaodgaaInS
import Derived.Test.YtcljchngjaodgaaEndsS
import Derived.Test.YtcljchngjaodgaaSteps
namespace Go.Proofs.Ytcljchngjaodgaa
open Go.RowKit

set_option maxHeartbeats 400000 in
theorem specTimes_off (s : ByteArray) (k : Int) (w : World) (hs : s.size ≤ 1048576) (h : (okS s && inR k 0 20) = false) :
    Calls Try.prog 38 #[.string s, .int .i64 k] w fun e w' => e = .returned (.tuple #[.string ⟨#[]⟩, .bool false]) ∧ Below w.heap.size w w' := by
  cases hok : okS s
  · go_enter Try.func38, Try.ntmps38
    go_wp2_with fail
    refine (read_off s _ hs hok).mono ?_
    rintro e w1 ⟨a1, n1, c1, a2, n2, c2, rfl, hb⟩
    go_wp2
    go_ret2
    exact ⟨rfl, hb.alloc hb.size _⟩
  · have h' : k < 0 ∨ 20 < k := by
      rw [hok, Bool.true_and] at h
      rcases inR_cases k 0 20 with ⟨h2, _⟩ | ⟨_, h2⟩
      · rw [h2] at h; cases h
      · exact h2
    go_enter Try.func38, Try.ntmps38
    go_wp2_with fail
    refine (read_on s _ hs hok).mono ?_
    rintro e w1 ⟨a1, n1, c1, a2, n2, c2, rfl, hb, _⟩
    go_wp2_with fail
    refine (l6In_no k 0 20 _ h' (by decide)).mono ?_
    rintro e w2 ⟨rfl, rfl⟩
    go_wp2
    go_ret2
    exact ⟨rfl, hb.alloc hb.size _⟩

set_option maxRecDepth 100000 in
set_option maxHeartbeats 4000000 in
theorem specTimes_on (s : ByteArray) (k : Nat) (w : World) (hs : s.size ≤ 1048576) (hok : okS s = true) (hk1 : 0 < k) (hk : k ≤ 20) :
    Calls Try.prog 38 #[.string s, .int .i64 k] w fun e w' => MadeEnd (timesF (fS s) k) e ∧ Below w.heap.size w w' := by
  obtain ⟨i0, hi, hz0, hz1, hz2⟩ := info_parts Try.infoBool
  have hk0 : ¬ k = 0 := by omega
  have hk0' : ¬ (k : Int) = 0 := by omega
  have hk0b : ((k : Int) == 0) = false := by rw [beq_eq_false_iff_ne]; exact hk0'
  go_enter Try.func38, Try.ntmps38
  go_wp2_with fail
  refine (read_on s _ hs hok).mono ?_
  rintro e w1 ⟨a1, n1, c1, a2, n2, c2, rfl, hb, hr⟩
  go_wp2_with fail
  refine (l6In_yes k 0 20 _ (by omega) (by omega)).mono ?_
  rintro e w2 ⟨rfl, rfl⟩
  have l1 := hr.tailLe
  have l2 := hr.ringLe
  have l3 := hr.ringPos
  obtain ⟨M, hM⟩ : ∃ M : Nat, k * n1 = M := ⟨_, rfl⟩
  obtain ⟨P, hP⟩ : ∃ P : Nat, k * n2 = P := ⟨_, rfl⟩
  have m1 : M ≤ 20 * 60 := by rw [← hM]; exact Nat.mul_le_mul hk l1
  have m2 : P ≤ 20 * 60 := by rw [← hP]; exact Nat.mul_le_mul hk l2
  have m3 : 0 < P := by rw [← hP]; exact Nat.mul_pos hk1 l3
  have i1 : (k : Int) * (n1 : Int) = (M : Int) := by rw [← hM, Int.natCast_mul]
  have i2 : (k : Int) * ((n1 : Int) + (n2 : Int)) = (M : Int) + (P : Int) := by rw [Int.mul_add, ← hM, ← hP, Int.natCast_mul, Int.natCast_mul]
  have HP : Hid (∀ n, M ≤ n → timesF (fS s) k (n + P) = timesF (fS s) k n) := Lib.hid (fun n h => by
    have := timesF_round s k n hk1 (by rw [hr.tail.len, hM]; exact h)
    rw [hr.ring.len, hP] at this
    exact this)
  have HR := Lib.hid (hr.alloc (.cells #[.slice a1 n1 c1, .slice a2 n2 c2] 61))
  have HBw := Lib.hid hb
  have hsz0 := hb.size
  clear hr hb hM hP
  go_wp2
  go_loopw [10, 11] (fun v i wr => ∃ n : Nat, n ≤ M + P ∧ i = .int .i64 n ∧ Marks (timesF (fS s) k) (w1.heap.size + 1) (w1.heap.size + 1) (w1.alloc (.cells #[.slice a1 n1 c1, .slice a2 n2 c2] 61)) wr v n)
    (fun _ i _ => M + P - (intOf i).toNat)
  case atStart => exact ⟨0, Nat.zero_le _, rfl, marks_box _ _ _⟩
  case round =>
    obtain ⟨n, hn, rfl, hM⟩ := hrel
    obtain ⟨q0, q1⟩ := box_later (by simpa using hM.below)
    have hsz := hM.below.size
    simp at hsz
    by_cases hlt : n < M + P
    · have hlt' : (n : Int) < (M : Int) + (P : Int) := by omega
      have HD := Lib.hid (HR.out.below hM.below (by simp))
      have hdl : n / k ≤ n := Nat.div_le_self _ _
      obtain ⟨d, hd⟩ : ∃ d, n / k = d := ⟨_, rfl⟩
      have hdi : (n : Int) / (k : Int) = (d : Int) := by rw [← hd]; rfl
      by_cases hmod : n % k = 0
      · have hmi : (n : Int) % (k : Int) = 0 := by rw [← Int.natCast_emod, hmod]; rfl
        obtain ⟨b, hbv⟩ : ∃ b, fS s d = b := ⟨_, rfl⟩
        have hIv : hasI (setT s) (setR s) (d : Int) = b := by rw [hasI_nat]; exact hbv
        have HV : Hid (timesF (fS s) k n = b) := Lib.hid (by unfold timesF; rw [hmod, hd, hbv]; simp)
        have HM := Lib.hid hM
        clear hbv hM hmod hd
        have HC := Lib.hid (fun W' (hW : Below wr.heap.size wr W') => l1Has_on s a1 a2 n1 c1 n2 c2 d W' (HD.out.below hW (Nat.le_refl _)) (by omega))
        rw [hIv] at HC
        have hmt : Int.tmod (n : Int) (k : Int) = 0 := by rw [Int.tmod_eq_emod_of_nonneg (by omega)]; exact hmi
        have hdt : Int.tdiv (n : Int) (k : Int) = (d : Int) := by rw [Int.tdiv_eq_ediv_of_nonneg (by omega)]; exact hdi
        have hwr0 : IntKind.i64.wrap 0 = 0 := by decide
        have hwr : IntKind.i64.wrap (d : Int) = (d : Int) := by rw [IntWalk.i64_in _ (by omega)]
        go_wp2
        go_region_held3 (fun w' => w'.cell? ⟨w1.heap.size, 0, none⟩ = some (.slice a1 n1 c1) ∧ w'.cell? ⟨w1.heap.size, 1, none⟩ = some (.slice a2 n2 c2))
          (first | go_keep | exact HM4.out.box | exact HM3.out.box)
          (first
          | (go_at_call 65; (with_reducible refine (HC.out _ ?_).mono ?_); exact below_drewN (Below.refl _ _) _; rintro e w3 ⟨rfl, hb3⟩; have HM3 := Lib.hid (HM.out.step (by omega) ((below_drewN (Below.refl _ _) _).trans hb3)); clear hb3)
          | (refine step_marks (by rfl) _ _ (by rfl) (by rfl) (by rfl) (cell_lit _ _ _) (HM3.out.step ?_ ?_) HV.out ?_ ?_ ?_ ?_
             · (have := HM3.out.below.size; simp at this; omega)
             · exact ((Below.refl _ _).alloc (Nat.le_refl _) _)
             · exact (Nat.le_refl _)
             · (have := HM3.out.below.size; simp at this ⊢; omega)
             · omega
             intro g cap w4 hM4; have HM4 := Lib.hid hM4; clear hM4))
        go_wp2
        go_roundw
        case rel => exact ⟨n + 1, by omega, by go_num, HM4.out⟩
        case measure => simp [intOf]; omega
      · have hmi : ¬ (n : Int) % (k : Int) = 0 := by rw [← Int.natCast_emod]; omega
        have HV : Hid (timesF (fS s) k n = false) := Lib.hid (by unfold timesF; rw [decide_eq_false hmod]; rfl)
        clear hmod hd
        have hmb : ((n : Int) % (k : Int) == 0) = false := by rw [beq_eq_false_iff_ne]; exact hmi
        have hmt : (Int.tmod (n : Int) (k : Int) == 0) = false := by rw [Int.tmod_eq_emod_of_nonneg (by omega)]; exact hmb
        have HM := Lib.hid hM
        clear hM
        go_wp2
        have HMs : Hid (∀ W', Below wr.heap.size wr W' → Marks (timesF (fS s) k) (w1.heap.size + 1) (w1.heap.size + 1) (w1.alloc (.cells #[.slice a1 n1 c1, .slice a2 n2 c2] 61)) W' u10 n) := Lib.hid (fun W' h => HM.out.step (by have := HM.out.below.size; simp at this; omega) h)
        have HSz : Hid (w1.heap.size + 1 ≤ wr.heap.size) := Lib.hid (by have := HM.out.below.size; simp at this; omega)
        refine wp_region_noPanic ?_
        refine wp_region_held_drew (S := fun _ => True) (by kernel_rfl) trivial (fun _ => ?_)
        refine' doH 0 (v := ?v0) rfl (by kernel_rfl) (by kernel_rfl) (by kernel_rfl) (fun _ _ _ h => h) rfl trivial ?hy0 ?rest0
        case hy0 => (intro w hSw; go_simp; try with_reducible rfl)
        try simp only [Act.put, List.setIfInBounds_toArray, List.set_cons_zero, List.set_cons_succ]
        refine' doH 1 (v := ?v1) rfl (by kernel_rfl) (by kernel_rfl) (by kernel_rfl) (fun _ _ _ h => h) rfl trivial ?hy1 ?rest1
        case hy1 => (intro w hSw; go_simp; try with_reducible rfl)
        try simp only [Act.put, List.setIfInBounds_toArray, List.set_cons_zero, List.set_cons_succ]
        refine' doH 2 (v := ?v2) rfl (by kernel_rfl) (by kernel_rfl) (by kernel_rfl) (fun _ _ _ h => h) rfl trivial ?hy2 ?rest2
        case hy2 => (intro w hSw; go_simp; try with_reducible rfl)
        try simp only [Act.put, List.setIfInBounds_toArray, List.set_cons_zero, List.set_cons_succ]
        refine' doH 3 (v := ?v3) rfl (by kernel_rfl) (by kernel_rfl) (by kernel_rfl) (fun _ _ _ h => h) rfl trivial ?hy3 ?rest3
        case hy3 => (intro w hSw; go_simp; try with_reducible rfl)
        try simp only [Act.put, List.setIfInBounds_toArray, List.set_cons_zero, List.set_cons_succ]
        refine' doH 4 (v := ?v4) rfl (by kernel_rfl) (by kernel_rfl) (by kernel_rfl) (fun _ _ _ h => h) rfl trivial ?hy4 ?rest4
        case hy4 => (intro w hSw; go_simp; try with_reducible rfl)
        try simp only [Act.put, List.setIfInBounds_toArray, List.set_cons_zero, List.set_cons_succ]
        refine' doH 5 (v := ?v5) rfl (by kernel_rfl) (by kernel_rfl) (by kernel_rfl) (fun _ _ _ h => h) rfl trivial ?hy5 ?rest5
        case hy5 => (intro w hSw; go_simp; try with_reducible rfl)
        try simp only [Act.put, List.setIfInBounds_toArray, List.set_cons_zero, List.set_cons_succ]
        refine skipH 6 rfl (by kernel_rfl) (by kernel_rfl) (by kernel_rfl) (fun _ _ _ h => h) rfl trivial ?_
        try simp only [Act.put, List.setIfInBounds_toArray, List.set_cons_zero, List.set_cons_succ]
        refine skipH 7 rfl (by kernel_rfl) (by kernel_rfl) (by kernel_rfl) (fun _ _ _ h => h) rfl trivial ?_
        try simp only [Act.put, List.setIfInBounds_toArray, List.set_cons_zero, List.set_cons_succ]
        refine skipH 8 rfl (by kernel_rfl) (by kernel_rfl) (by kernel_rfl) (fun _ _ _ h => h) rfl trivial ?_
        try simp only [Act.put, List.setIfInBounds_toArray, List.set_cons_zero, List.set_cons_succ]
        refine skipH 9 rfl (by kernel_rfl) (by kernel_rfl) (by kernel_rfl) (fun _ _ _ h => h) rfl trivial ?_
        try simp only [Act.put, List.setIfInBounds_toArray, List.set_cons_zero, List.set_cons_succ]
        refine skipH 10 rfl (by kernel_rfl) (by kernel_rfl) (by kernel_rfl) (fun _ _ _ h => h) rfl trivial ?_
        try simp only [Act.put, List.setIfInBounds_toArray, List.set_cons_zero, List.set_cons_succ]
        refine' doH 11 (v := ?v11) rfl (by kernel_rfl) (by kernel_rfl) (by kernel_rfl) (fun _ _ _ h => h) rfl trivial ?hy11 ?rest11
        case hy11 => (intro w hSw; go_simp; try with_reducible rfl)
        try simp only [Act.put, List.setIfInBounds_toArray, List.set_cons_zero, List.set_cons_succ]
        refine oneH 12 (by kernel_rfl) rfl (fun K12 hK12 => ?_)
        go_simp
        refine hK12.out _ _ trivial (fun _ => ?_)
        clear hK12 K12
        try simp only [Act.put, List.setIfInBounds_toArray, List.set_cons_zero, List.set_cons_succ]
        refine oneH 13 (by kernel_rfl) rfl (fun K13 hK13 => ?_)
        refine step_marks rfl _ _ rfl rfl rfl (cell_lit _ _ _) (HMs.out _ ((Below.refl _ _).alloc (Nat.le_refl _) _).drew) HV.out (Nat.le_refl _) (by have := HSz.out; simp; omega) (by omega) (fun g cap w4 hM4 => ?_)
        have HM4 := Lib.hid hM4
        clear hM4
        refine hK13.out _ _ trivial (fun _ => ?_)
        clear hK13 K13
        try simp only [Act.put, List.setIfInBounds_toArray, List.set_cons_zero, List.set_cons_succ]
        refine' doH 14 (v := ?v14) rfl (by kernel_rfl) (by kernel_rfl) (by kernel_rfl) (fun _ _ _ h => h) rfl trivial ?hy14 ?rest14
        case hy14 => (intro w hSw; go_simp; try with_reducible rfl)
        try simp only [Act.put, List.setIfInBounds_toArray, List.set_cons_zero, List.set_cons_succ]
        refine wpAnyH_done (by kernel_rfl) ?_ _
        refine NoPanic.normal ?_
        go_wp2
        go_roundw
        case rel => exact ⟨n + 1, by omega, by go_num, HM4.out⟩
        case measure => simp [intOf]; omega
    · obtain rfl : n = M + P := by omega
      obtain ⟨a, c, rfl⟩ := own_form hM.own
      have hcall := fill_any (timesF (fS s) k) M P c _ a wr hM.own m3 (by omega) (by omega) HP.out
      have HM := Lib.hid hM
      clear hM
      have hlt' : ¬ (M : Int) + (P : Int) < (M : Int) + (P : Int) := by omega
      go_wp2_with fail
      refine hcall.mono ?_
      rintro e w4 ⟨⟨T, b, rfl, hmade⟩, hb4⟩
      have HMd := Lib.hid hmade
      have HB4 := Lib.hid hb4
      clear hmade hb4 hcall
      go_wp2
      go_ret2
      exact ⟨⟨T, b, rfl, HMd.out⟩, (HBw.out.alloc HBw.out.size _).trans ((HM.out.below.mono (by omega)).trans (HB4.out.mono (by omega)))⟩

theorem ends_any (r : List Bool) : (!endsB r) = r.any id := by
  unfold endsB
  rw [List.all_eq_not_any_not, Bool.not_not]
  congr 1
  funext b
  simp

set_option maxRecDepth 100000 in
set_option maxHeartbeats 1000000 in
theorem specTimes_zero (s : ByteArray) (w : World) (hs : s.size ≤ 1048576) (hok : okS s = true) :
    Calls Try.prog 38 #[.string s, .int .i64 0] w fun e w' => MadeEnd (zeroF (someS s)) e ∧ Below w.heap.size w w' := by
  go_enter Try.func38, Try.ntmps38
  go_wp2_with fail
  refine (read_on s _ hs hok).mono ?_
  rintro e w1 ⟨a1, n1, c1, a2, n2, c2, rfl, hb, hr⟩
  go_wp2_with fail
  refine (l6In_yes 0 0 20 _ (by omega) (by omega)).mono ?_
  rintro e w2 ⟨rfl, rfl⟩
  have l1 := hr.tailLe
  have HR := Lib.hid (hr.alloc (.cells #[.slice a1 n1 c1, .slice a2 n2 c2] 61))
  have HBw := Lib.hid hb
  have hsz0 := hb.size
  have HE := Lib.hid (ends_any (setR s))
  clear hr hb
  go_wp2_with fail
  refine (l1Ends_any a1 a2 n1 c1 n2 c2 (setR s) _ HR.out.ring (by have := HR.out.ringLe; omega) HR.out.ringPos).mono ?_
  rintro e w3 ⟨rfl, hb3⟩
  have HB3 := Lib.hid hb3
  have hsz3 := hb3.size
  simp at hsz3
  have HR3 := Lib.hid (HR.out.below hb3 (Nat.le_refl _))
  clear hb3
  go_wp2
  go_loopw [8, 9] (fun sv i wr => ∃ j : Nat, j ≤ n1 ∧ i = .int .i64 j ∧ sv = .bool (orTo (!endsB (setR s)) (setT s) j) ∧ Below w3.heap.size w3 wr) (fun _ i _ => n1 - (intOf i).toNat)
  case atStart => exact ⟨0, Nat.zero_le _, rfl, by rw [orTo_zero], Below.refl _ _⟩
  case round =>
    obtain ⟨j, hj, rfl, rfl, hB⟩ := hrel
    obtain ⟨q0, q1⟩ := box_later (HB3.out.trans (hB.mono (by simp; omega)))
    by_cases hlt : j < n1
    · rcases (HR3.out.tail.below hB (Nat.le_refl _)).cells with h0 | ⟨g, o, rfl, hg, hc⟩
      · omega
      have qc := hc j hlt
      have HS := Lib.hid (orTo_succ (!endsB (setR s)) (setT s) j (by rw [HR3.out.tail.len]; exact hlt))
      clear hc
      obtain ⟨x, hx⟩ : ∃ x, (setT s).getD j false = x := ⟨_, rfl⟩
      rw [hx] at qc HS
      clear hx
      have HB := Lib.hid hB
      clear hB
      cases hso : orTo (!endsB (setR s)) (setT s) j
      · rw [hso, Bool.false_or] at HS
        clear hso
        go_wp2
        go_roundw
        case rel => exact ⟨j + 1, by omega, by go_num, by rw [HS.out], HB.out⟩
        case measure => simp [intOf]; omega
      · rw [hso, Bool.true_or] at HS
        clear hso
        go_wp2
        go_roundw
        case rel => exact ⟨j + 1, by omega, by go_num, by rw [HS.out], HB.out⟩
        case measure => simp [intOf]; omega
    · obtain rfl : j = n1 := by omega
      have HS : Hid (orTo (!endsB (setR s)) (setT s) j = someS s) := Lib.hid (by unfold someS; rw [HE.out, HR3.out.tail.len])
      rw [HS.out]
      obtain ⟨sb0, hsb0⟩ : ∃ sb0, someS s = sb0 := ⟨_, rfl⟩
      have HSB := Lib.hid hsb0
      rw [hsb0]
      have HB := Lib.hid hB
      clear hsb0 hB
      go_wp2_with fail
      refine (done_lit _ sb0 _ _ ?_ ?_).mono ?_
      · go_simp
      · go_simp
      rintro e w4 ⟨⟨T, b, rfl, hmade⟩, hb4⟩
      rw [zeroF_eq] at hmade
      have HMd := Lib.hid hmade
      have HB4 := Lib.hid hb4
      clear hmade hb4
      go_wp2
      go_ret2
      have h1 := HBw.out.alloc HBw.out.size (.cells #[.slice a1 j c1, .slice a2 n2 c2] 61)
      have h2 := h1.trans (HB3.out.mono (by simp; omega))
      have h3 := h2.trans (HB.out.mono (by omega))
      exact ⟨⟨T, b, rfl, by rw [HSB.out]; exact HMd.out⟩, ((h3.alloc h3.size _).alloc (by have := h3.size; simp; omega) _).trans (HB4.out.mono (by have := h3.size; simp; omega))⟩
end Go.Proofs.Ytcljchngjaodgaa
