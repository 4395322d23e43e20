/-
  The walk of spec.MakeOver.
-/
import Derived.Test.YtcljchngjaodgaaMarks
import Derived.Test.YtcljchngjaodgaaMakeMath
import Derived.Test.YtcljchngjaodgaaReadS
import Derived.Test.YtcljchngjaodgaaHasS
import Derived.Test.YtcljchngjaodgaaInS
import Derived.Lib.MinMax
namespace Go.Proofs.Ytcljchngjaodgaa
open Go.RowKit

set_option maxHeartbeats 400000 in
theorem specOver_off (s : ByteArray) (k : Int) (w : World) (hs : s.size ≤ 1048576) (h : (okS s && inR k 1 20) = false) :
    Calls Try.prog 45 #[.string s, .int .i64 k] w fun e w' => e = .returned (.tuple #[.string ⟨#[]⟩, .bool false]) ∧ Below w.heap.size w w' := by
  cases hok : okS s
  · go_enter Try.func45, Try.ntmps45
    go_wp2_with fail
    refine (read_off s _ hs hok).mono ?_
    rintro e w1 ⟨a1, n1, c1, a2, n2, c2, rfl, hb⟩
    go_wp2
    go_ret2
    exact ⟨rfl, hb.alloc hb.size _⟩
  · have h' : k < 1 ∨ 20 < k := by
      rw [hok, Bool.true_and] at h
      rcases inR_cases k 1 20 with ⟨h2, _⟩ | ⟨_, h2⟩
      · rw [h2] at h; cases h
      · exact h2
    go_enter Try.func45, Try.ntmps45
    go_wp2_with fail
    refine (read_on s _ hs hok).mono ?_
    rintro e w1 ⟨a1, n1, c1, a2, n2, c2, rfl, hb, _⟩
    go_wp2_with fail
    refine (l6In_no k 1 20 _ h' (by decide)).mono ?_
    rintro e w2 ⟨rfl, rfl⟩
    go_wp2
    go_ret2
    exact ⟨rfl, hb.alloc hb.size _⟩

set_option maxRecDepth 100000 in
set_option maxHeartbeats 1000000 in
theorem specOver_on (s : ByteArray) (k : Nat) (w : World) (hs : s.size ≤ 1048576) (hok : okS s = true) (hk1 : 1 ≤ k) (hk : k ≤ 20) :
    Calls Try.prog 45 #[.string s, .int .i64 k] w fun e w' => MadeEnd (overF (fS s) k) e ∧ Below w.heap.size w w' := by
  obtain ⟨i0, hi, hz0, hz1, hz2⟩ := info_parts Try.infoBool
  go_enter Try.func45, Try.ntmps45
  go_wp2_with fail
  refine (read_on s _ hs hok).mono ?_
  rintro e w1 ⟨a1, n1, c1, a2, n2, c2, rfl, hb, hr⟩
  go_wp2_with fail
  refine (l6In_yes k 1 20 _ (by omega) (by omega)).mono ?_
  rintro e w2 ⟨rfl, rfl⟩
  have l1 := hr.tailLe
  have l2 := hr.ringLe
  have l3 := hr.ringPos
  have HP : Hid (∀ n, n1 ≤ n → overF (fS s) k (n + n2) = overF (fS s) k n) := Lib.hid (fun n h => by
    have := overF_round s k n (by omega) (by rw [hr.tail.len]; exact h)
    rw [hr.ring.len] at this
    exact this)
  have HR := Lib.hid (hr.alloc (.cells #[.slice a1 n1 c1, .slice a2 n2 c2] 61))
  have HBw := Lib.hid hb
  have hsz0 := hb.size
  clear hr hb
  go_wp2
  go_loopw [8, 9] (fun v i wr => ∃ n : Nat, n ≤ n1 + n2 ∧ i = .int .i64 n ∧ Marks (overF (fS s) k) (w1.heap.size + 1) (w1.heap.size + 1) (w1.alloc (.cells #[.slice a1 n1 c1, .slice a2 n2 c2] 61)) wr v n)
    (fun _ i _ => n1 + n2 - (intOf i).toNat)
  case atStart => exact ⟨0, Nat.zero_le _, rfl, marks_box _ _ _⟩
  case round =>
    obtain ⟨n, hn, rfl, hM⟩ := hrel
    obtain ⟨q0, q1⟩ := box_later (by simpa using hM.below)
    have hsz := hM.below.size
    simp at hsz
    by_cases hlt : n < n1 + n2
    · have hp24 : k * n ≤ 20 * 120 := Nat.mul_le_mul hk (by omega)
      obtain ⟨p, hp⟩ : ∃ p : Nat, k * n = p := ⟨_, rfl⟩
      have hpi : (k : Int) * (n : Int) = (p : Int) := by rw [← hp, Int.natCast_mul]
      have HF : Hid (overF (fS s) k n = someF (fS s) p k) := Lib.hid (by rw [← hp]; rfl)
      rw [hp] at hp24
      clear hp
      have HM := Lib.hid hM
      clear hM
      have hlt' : (n : Int) < (n1 : Int) + (n2 : Int) := by omega
      go_wp2
      go_loopw [10, 11] (fun sv i wr => ∃ x : Nat, x ≤ k ∧ i = .int .i64 x ∧ sv = .bool (someF (fS s) p x) ∧ Marks (overF (fS s) k) (w1.heap.size + 1) (w1.heap.size + 1) (w1.alloc (.cells #[.slice a1 n1 c1, .slice a2 n2 c2] 61)) wr u8 n)
        (fun _ i _ => k - (intOf i).toNat)
      case atStart => exact ⟨0, Nat.zero_le _, rfl, rfl, HM.out⟩
      case round =>
        obtain ⟨x, hx, rfl, rfl, hMi⟩ := hrel
        clear q0 q1 hsz
        obtain ⟨q0, q1⟩ := box_later (by simpa using hMi.below)
        have hsz := hMi.below.size
        simp at hsz
        have HD := Lib.hid (HR.out.below hMi.below (by simp))
        by_cases hxk : x < k
        · cases hso : someF (fS s) p x
          · obtain ⟨b, hbv⟩ : ∃ b, fS s (p + x) = b := ⟨_, rfl⟩
            have hcall := l1Has_on s a1 a2 n1 c1 n2 c2 (p + x) wr HD.out (by omega)
            have hIv : hasI (setT s) (setR s) ((p + x : Nat) : Int) = b := by rw [hasI_nat]; exact hbv
            rw [hIv] at hcall
            have HS : Hid (someF (fS s) p (x + 1) = b) := Lib.hid (by unfold someF; rw [hso, hbv, Bool.false_or])
            have HMi := Lib.hid hMi
            clear hIv hbv hMi hso
            go_wp2_with fail
            refine hcall.mono ?_
            rintro e w3 ⟨rfl, hb3⟩
            have HM3 := Lib.hid (HMi.out.step (by omega) hb3)
            clear hb3 HMi hcall
            go_wp2
            go_roundw
            case rel => exact ⟨x + 1, by omega, by go_num, by rw [HS.out], HM3.out⟩
            case measure => simp [intOf]; omega
          · have HS : Hid (someF (fS s) p (x + 1) = true) := Lib.hid (by unfold someF; rw [hso, Bool.true_or])
            have HMi := Lib.hid hMi
            clear hMi hso
            go_wp2
            go_roundw
            case rel => exact ⟨x + 1, by omega, by go_num, by rw [HS.out], HMi.out⟩
            case measure => simp [intOf]; omega
        · obtain rfl : x = k := by omega
          obtain ⟨b, hbv⟩ : ∃ b, someF (fS s) p x = b := ⟨_, rfl⟩
          have HV : Hid (overF (fS s) x n = b) := Lib.hid (by rw [HF.out]; exact hbv)
          rw [hbv]
          clear hbv
          go_wp2_with
            (at_builtin; refine wpList_append_own _ rfl _ _ 59 rfl (w1.heap.size + 1) 4 i0 (.bool false) 1 1 Try.underlying59 hi hz0 hz1 hz2 rfl (by decide) _ _ _ rfl (hMi.own.alloc _) ⟨wr.heap.size, 0, none⟩ 1 1 [.bool b] rfl rfl ?c1 ?c2 ?c3 ?c4 ?c5 ?_)
          case c1 =>
            intro j u hj
            match j, hj with
            | 0, hj => simp at hj; subst hj; simp [Addr.add]
          case c2 => intro u hu; simp at hu; subst hu; rfl
          case c3 => unfold maxLen; omega
          case c4 => omega
          case c5 => simp; omega
          intro v' w4 hown4 hgrow _
          have HM4 := Lib.hid (hMi.grow HV.out (Nat.le_refl _) (by omega) hown4 hgrow)
          clear hown4 hgrow hMi
          go_wp2
          go_roundw
          case rel => exact ⟨n + 1, by omega, by go_num, HM4.out⟩
          case measure => simp [intOf]; omega
    · obtain rfl : n = n1 + n2 := by omega
      obtain ⟨a, c, rfl⟩ := own_form hM.own
      have hcall := fill_any (overF (fS s) k) n1 n2 c _ a wr hM.own l3 (by omega) (by omega) HP.out
      have HM := Lib.hid hM
      clear hM
      have hlt' : ¬ (n1 : Int) + (n2 : Int) < (n1 : Int) + (n2 : Int) := by omega
      go_wp2_with fail
      refine hcall.mono ?_
      rintro e w4 ⟨⟨T, b, rfl, hmade⟩, hb4⟩
      have HMd := Lib.hid hmade
      have HB4 := Lib.hid hb4
      clear hmade hb4 hcall
      go_wp2
      go_ret2
      exact ⟨⟨T, b, rfl, HMd.out⟩, (HBw.out.alloc HBw.out.size _).trans ((HM.out.below.mono (by omega)).trans (HB4.out.mono (by omega)))⟩
end Go.Proofs.Ytcljchngjaodgaa
