/-
  The walk of spec.MakeDown.
-/
import Derived.Test.YtcljchngjaodgaaMarks
import Derived.Test.YtcljchngjaodgaaMakeMath
import Derived.Test.YtcljchngjaodgaaReadS
import Derived.Test.YtcljchngjaodgaaHasS
import Derived.Test.YtcljchngjaodgaaInS
import Derived.Lib.MinMax
namespace Go.Proofs.Ytcljchngjaodgaa
open Go.RowKit

set_option maxHeartbeats 400000 in
theorem specDown_off (s : ByteArray) (k : Int) (w : World) (hs : s.size ≤ 1048576) (h : (okS s && inR k 0 1000) = false) :
    Calls Try.prog 35 #[.string s, .int .i64 k] w fun e w' => e = .returned (.tuple #[.string ⟨#[]⟩, .bool false]) ∧ Below w.heap.size w w' := by
  cases hok : okS s
  · go_enter Try.func35, Try.ntmps35
    go_wp2_with fail
    refine (read_off s _ hs hok).mono ?_
    rintro e w1 ⟨a1, n1, c1, a2, n2, c2, rfl, hb⟩
    go_wp2
    go_ret2
    exact ⟨rfl, hb.alloc hb.size _⟩
  · have h' : k < 0 ∨ 1000 < k := by
      rw [hok, Bool.true_and] at h
      rcases inR_cases k 0 1000 with ⟨h2, _⟩ | ⟨_, h2⟩
      · rw [h2] at h; cases h
      · exact h2
    go_enter Try.func35, Try.ntmps35
    go_wp2_with fail
    refine (read_on s _ hs hok).mono ?_
    rintro e w1 ⟨a1, n1, c1, a2, n2, c2, rfl, hb, _⟩
    go_wp2_with fail
    refine (l6In_no k 0 1000 _ h' (by decide)).mono ?_
    rintro e w2 ⟨rfl, rfl⟩
    go_wp2
    go_ret2
    exact ⟨rfl, hb.alloc hb.size _⟩

set_option maxRecDepth 100000 in
set_option maxHeartbeats 1000000 in
theorem specDown_on (s : ByteArray) (k : Nat) (w : World) (hs : s.size ≤ 1048576) (hok : okS s = true) (hk : k ≤ 1000) :
    Calls Try.prog 35 #[.string s, .int .i64 k] w fun e w' => MadeEnd (downF (fS s) k) e ∧ Below w.heap.size w w' := by
  obtain ⟨i0, hi, hz0, hz1, hz2⟩ := info_parts Try.infoBool
  go_enter Try.func35, Try.ntmps35
  go_wp2_with fail
  refine (read_on s _ hs hok).mono ?_
  rintro e w1 ⟨a1, n1, c1, a2, n2, c2, rfl, hb, hr⟩
  go_wp2_with fail
  refine (l6In_yes k 0 1000 _ (by omega) (by omega)).mono ?_
  rintro e w2 ⟨rfl, rfl⟩
  have l1 := hr.tailLe
  have l2 := hr.ringLe
  have l3 := hr.ringPos
  obtain ⟨tl, htl⟩ : ∃ tl : Nat, tl = n1 - k := ⟨_, rfl⟩
  have hmx : max (0 : Int) ((n1 : Int) - (k : Int)) = (tl : Int) := by omega
  have htl60 : tl ≤ 60 := by omega
  have HT := Lib.hid htl
  have HP : Hid (∀ n, tl ≤ n → downF (fS s) k (n + n2) = downF (fS s) k n) := Lib.hid (fun n h => by
    have := downF_round s k n (by rw [hr.tail.len]; omega)
    rw [hr.ring.len] at this
    exact this)
  clear htl
  have HR := Lib.hid (hr.alloc (.cells #[.slice a1 n1 c1, .slice a2 n2 c2] 61))
  have HBw := Lib.hid hb
  have hsz0 := hb.size
  clear hr hb
  go_wp2
  go_loopw [8, 10] (fun v i wr => ∃ n : Nat, n ≤ tl + n2 ∧ i = .int .i64 n ∧ Marks (downF (fS s) k) (w1.heap.size + 1) (w1.heap.size + 1) (w1.alloc (.cells #[.slice a1 n1 c1, .slice a2 n2 c2] 61)) wr v n)
    (fun _ i _ => tl + n2 - (intOf i).toNat)
  case atStart => exact ⟨0, Nat.zero_le _, rfl, marks_box _ _ _⟩
  case round =>
    obtain ⟨n, hn, rfl, hM⟩ := hrel
    obtain ⟨q0, q1⟩ := box_later (by simpa using hM.below)
    have hsz := hM.below.size
    simp at hsz
    have HD := Lib.hid (HR.out.below hM.below (by simp))
    by_cases hlt : n < tl + n2
    · obtain ⟨b, hbv⟩ : ∃ b, downF (fS s) k n = b := ⟨_, rfl⟩
      have hcall := l1Has_on s a1 a2 n1 c1 n2 c2 (n + k) wr HD.out (by omega)
      have hIv : hasI (setT s) (setR s) ((n + k : Nat) : Int) = b := by rw [hasI_nat]; exact hbv
      rw [hIv] at hcall
      have HV := Lib.hid hbv
      have HM := Lib.hid hM
      clear hIv hbv hM
      have hlt' : (n : Int) < (tl : Int) + (n2 : Int) := by omega
      go_wp2_with fail
      refine hcall.mono ?_
      rintro e w3 ⟨rfl, hb3⟩
      have hsz3 := hb3.size
      have hM3 := HM.out.step (by omega) hb3
      clear hb3 HM hcall
      go_wp2_with
        (at_builtin; refine wpList_append_own _ rfl _ _ 59 rfl (w1.heap.size + 1) 4 i0 (.bool false) 1 1 Try.underlying59 hi hz0 hz1 hz2 rfl (by decide) _ _ _ rfl (hM3.own.alloc _) ⟨w3.heap.size, 0, none⟩ 1 1 [.bool b] rfl rfl ?c1 ?c2 ?c3 ?c4 ?c5 ?_)
      case c1 =>
        intro j u hj
        match j, hj with
        | 0, hj => simp at hj; subst hj; simp [Addr.add]
      case c2 => intro u hu; simp at hu; subst hu; rfl
      case c3 => unfold maxLen; omega
      case c4 => omega
      case c5 => simp; omega
      intro v' w4 hown4 hgrow _
      have HM4 := Lib.hid (hM3.grow HV.out (Nat.le_refl _) (by omega) hown4 hgrow)
      clear hown4 hgrow hM3
      go_wp2
      go_roundw
      case rel => exact ⟨n + 1, by omega, by go_num, HM4.out⟩
      case measure => simp [intOf]; omega
    · obtain rfl : n = tl + n2 := by omega
      obtain ⟨a, c, rfl⟩ := own_form hM.own
      have hcall := fill_any (downF (fS s) k) tl n2 c _ a wr hM.own l3 (by omega) (by omega) HP.out
      have HM := Lib.hid hM
      clear hM
      have hlt' : ¬ (tl : Int) + (n2 : Int) < (tl : Int) + (n2 : Int) := by omega
      go_wp2_with fail
      refine hcall.mono ?_
      rintro e w4 ⟨⟨T, b, rfl, hmade⟩, hb4⟩
      have HMd := Lib.hid hmade
      have HB4 := Lib.hid hb4
      clear hmade hb4 hcall
      go_wp2
      go_ret2
      exact ⟨⟨T, b, rfl, HMd.out⟩, (HBw.out.alloc HBw.out.size _).trans ((HM.out.below.mono (by omega)).trans (HB4.out.mono (by omega)))⟩
end Go.Proofs.Ytcljchngjaodgaa
