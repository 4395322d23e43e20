/-
  What the model's MakeEither, MakeBoth, MakeWithout, MakeOther, MakeUp, MakeDown, MakeTimes, MakeEvery, MakeOver answer.
-/
import Derived.Test.YtcljchngjaodgabTwoS
import Derived.Test.YtcljchngjaodgabMakeUpS
import Derived.Test.YtcljchngjaodgabMakeDownS
import Derived.Test.YtcljchngjaodgabMakeTimesS
import Derived.Test.YtcljchngjaodgabMakeEveryS
import Derived.Test.YtcljchngjaodgabMakeOverS
namespace Go.Proofs.Ytcljchngjaodgab
open Go.RowKit

theorem specEither (s t : ByteArray) (w : World) (hs : s.size ≤ 1048576) (ht : t.size ≤ 1048576) :
    Calls Try.prog 12 #[.string s, .string t] w fun e w' => MakeEnd (okS s && okS t) (fun n => fS s n || fS t n) e ∧ Below w.heap.size w w' := by
  go_enter Try.func12, Try.ntmps12
  go_wp2_with fail
  refine (specTwo s t 14 _ hs ht (by decide)).mono ?_
  rintro e w1 ⟨⟨T, b, rfl, hm⟩, hb⟩
  rw [twoF_either] at hm
  have HM := Lib.hid hm
  clear hm
  go_wp2
  go_ret2
  exact ⟨⟨T, b, rfl, HM.out⟩, hb⟩

theorem specBoth (s t : ByteArray) (w : World) (hs : s.size ≤ 1048576) (ht : t.size ≤ 1048576) :
    Calls Try.prog 14 #[.string s, .string t] w fun e w' => MakeEnd (okS s && okS t) (fun n => fS s n && fS t n) e ∧ Below w.heap.size w w' := by
  go_enter Try.func14, Try.ntmps14
  go_wp2_with fail
  refine (specTwo s t 8 _ hs ht (by decide)).mono ?_
  rintro e w1 ⟨⟨T, b, rfl, hm⟩, hb⟩
  rw [twoF_both] at hm
  have HM := Lib.hid hm
  clear hm
  go_wp2
  go_ret2
  exact ⟨⟨T, b, rfl, HM.out⟩, hb⟩

theorem specWithout (s t : ByteArray) (w : World) (hs : s.size ≤ 1048576) (ht : t.size ≤ 1048576) :
    Calls Try.prog 16 #[.string s, .string t] w fun e w' => MakeEnd (okS s && okS t) (fun n => fS s n && !fS t n) e ∧ Below w.heap.size w w' := by
  go_enter Try.func16, Try.ntmps16
  go_wp2_with fail
  refine (specTwo s t 4 _ hs ht (by decide)).mono ?_
  rintro e w1 ⟨⟨T, b, rfl, hm⟩, hb⟩
  rw [twoF_without] at hm
  have HM := Lib.hid hm
  clear hm
  go_wp2
  go_ret2
  exact ⟨⟨T, b, rfl, HM.out⟩, hb⟩

theorem specOther (s : ByteArray) (w : World) (hs : s.size ≤ 1048576) :
    Calls Try.prog 18 #[.string s] w fun e w' => MakeEnd (okS s) (fun n => !fS s n) e ∧ Below w.heap.size w w' := by
  go_enter Try.func18, Try.ntmps18
  go_wp2_with fail
  refine (specTwo s s 1 _ hs hs (by decide)).mono ?_
  rintro e w1 ⟨⟨T, b, rfl, hm⟩, hb⟩
  rw [twoF_other, Bool.and_self] at hm
  have HM := Lib.hid hm
  clear hm
  go_wp2
  go_ret2
  exact ⟨⟨T, b, rfl, HM.out⟩, hb⟩

theorem specUp (s : ByteArray) (k : Int) (w : World) (hs : s.size ≤ 1048576) :
    Calls Try.prog 20 #[.string s, .int .i64 k] w fun e w' => MakeEnd (okS s && inR k 0 60) (upF (fS s) k.toNat) e ∧ Below w.heap.size w w' := by
  cases h : (okS s && inR k 0 60)
  · exact (specUp_off s k w hs h).mono fun e w' ⟨he, hb⟩ => ⟨by rw [he]; exact makeEnd_off rfl, hb⟩
  · rw [Bool.and_eq_true] at h
    rcases inR_cases k 0 60 with ⟨_, k1, k2⟩ | ⟨h2, _⟩
    · obtain ⟨k, rfl⟩ := Int.eq_ofNat_of_zero_le (show 0 ≤ k by omega)
      exact (specUp_on s k w hs h.1 (by omega)).mono fun e w' ⟨⟨T, b, he, hm⟩, hb⟩ => ⟨by rw [he]; exact makeEnd_on hm, hb⟩
    · rw [h2] at h; cases h.2

theorem specDown (s : ByteArray) (k : Int) (w : World) (hs : s.size ≤ 1048576) :
    Calls Try.prog 22 #[.string s, .int .i64 k] w fun e w' => MakeEnd (okS s && inR k 0 1000) (downF (fS s) k.toNat) e ∧ Below w.heap.size w w' := by
  cases h : (okS s && inR k 0 1000)
  · exact (specDown_off s k w hs h).mono fun e w' ⟨he, hb⟩ => ⟨by rw [he]; exact makeEnd_off rfl, hb⟩
  · rw [Bool.and_eq_true] at h
    rcases inR_cases k 0 1000 with ⟨_, k1, k2⟩ | ⟨h2, _⟩
    · obtain ⟨k, rfl⟩ := Int.eq_ofNat_of_zero_le (show 0 ≤ k by omega)
      exact (specDown_on s k w hs h.1 (by omega)).mono fun e w' ⟨⟨T, b, he, hm⟩, hb⟩ => ⟨by rw [he]; exact makeEnd_on hm, hb⟩
    · rw [h2] at h; cases h.2

theorem specOver (s : ByteArray) (k : Int) (w : World) (hs : s.size ≤ 1048576) :
    Calls Try.prog 28 #[.string s, .int .i64 k] w fun e w' => MakeEnd (okS s && inR k 1 20) (overF (fS s) k.toNat) e ∧ Below w.heap.size w w' := by
  cases h : (okS s && inR k 1 20)
  · exact (specOver_off s k w hs h).mono fun e w' ⟨he, hb⟩ => ⟨by rw [he]; exact makeEnd_off rfl, hb⟩
  · rw [Bool.and_eq_true] at h
    rcases inR_cases k 1 20 with ⟨_, k1, k2⟩ | ⟨h2, _⟩
    · obtain ⟨k, rfl⟩ := Int.eq_ofNat_of_zero_le (show 0 ≤ k by omega)
      exact (specOver_on s k w hs h.1 (by omega) (by omega)).mono fun e w' ⟨⟨T, b, he, hm⟩, hb⟩ => ⟨by rw [he]; exact makeEnd_on hm, hb⟩
    · rw [h2] at h; cases h.2

theorem specEvery (s : ByteArray) (k r : Int) (w : World) (hs : s.size ≤ 1048576) :
    Calls Try.prog 26 #[.string s, .int .i64 k, .int .i64 r] w fun e w' => MakeEnd (okS s && (inR k 1 20 && inR r 0 100)) (everyF (fS s) k.toNat r.toNat) e ∧ Below w.heap.size w w' := by
  cases h : (okS s && (inR k 1 20 && inR r 0 100))
  · exact (specEvery_off s k r w hs h).mono fun e w' ⟨he, hb⟩ => ⟨by rw [he]; exact makeEnd_off rfl, hb⟩
  · rw [Bool.and_eq_true, Bool.and_eq_true] at h
    rcases inR_cases k 1 20 with ⟨_, k1, k2⟩ | ⟨h2, _⟩
    · rcases inR_cases r 0 100 with ⟨_, k3, k4⟩ | ⟨h3, _⟩
      · obtain ⟨k, rfl⟩ := Int.eq_ofNat_of_zero_le (show 0 ≤ k by omega)
        obtain ⟨r, rfl⟩ := Int.eq_ofNat_of_zero_le (show 0 ≤ r by omega)
        exact (specEvery_on s k r w hs h.1 (by omega) (by omega) (by omega)).mono fun e w' ⟨⟨T, b, he, hm⟩, hb⟩ => ⟨by rw [he]; exact makeEnd_on hm, hb⟩
      · rw [h3] at h; cases h.2.2
    · rw [h2] at h; cases h.2.1

theorem specTimes (s : ByteArray) (k : Int) (w : World) (hs : s.size ≤ 1048576) :
    Calls Try.prog 24 #[.string s, .int .i64 k] w fun e w' => MakeEnd (okS s && inR k 0 20) (timesAll s k.toNat) e ∧ Below w.heap.size w w' := by
  cases h : (okS s && inR k 0 20)
  · exact (specTimes_off s k w hs h).mono fun e w' ⟨he, hb⟩ => ⟨by rw [he]; exact makeEnd_off rfl, hb⟩
  · rw [Bool.and_eq_true] at h
    rcases inR_cases k 0 20 with ⟨_, k1, k2⟩ | ⟨h2, _⟩
    · obtain ⟨k, rfl⟩ := Int.eq_ofNat_of_zero_le (show 0 ≤ k by omega)
      by_cases h0 : k = 0
      · subst h0
        have e0 : timesAll s (Int.toNat ((0 : Nat) : Int)) = zeroF (someS s) := by unfold timesAll; simp
        rw [e0]
        exact (specTimes_zero s w hs h.1).mono fun e w' ⟨⟨T, b, he, hm⟩, hb⟩ => ⟨by rw [he]; exact makeEnd_on hm, hb⟩
      · have e0 : timesAll s (Int.toNat (k : Int)) = timesF (fS s) k := by unfold timesAll; rw [Int.toNat_natCast, if_neg h0]
        rw [e0]
        exact (specTimes_on s k w hs h.1 (by omega) (by omega)).mono fun e w' ⟨⟨T, b, he, hm⟩, hb⟩ => ⟨by rw [he]; exact makeEnd_on hm, hb⟩
    · rw [h2] at h; cases h.2

end Go.Proofs.Ytcljchngjaodgab
