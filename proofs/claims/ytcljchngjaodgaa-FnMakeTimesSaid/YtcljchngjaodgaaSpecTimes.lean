/-
  What the model's MakeTimes answers.
-/
import Derived.Test.YtcljchngjaodgaaMakeTimesS
namespace Go.Proofs.Ytcljchngjaodgaa
open Go.RowKit

theorem specTimes (s : ByteArray) (k : Int) (w : World) (hs : s.size ≤ 1048576) :
    Calls Try.prog 38 #[.string s, .int .i64 k] w fun e w' => MakeEnd (okS s && inR k 0 20) (timesAll s k.toNat) e ∧ Below w.heap.size w w' := by
  cases h : (okS s && inR k 0 20)
  · exact (specTimes_off s k w hs h).mono fun e w' ⟨he, hb⟩ => ⟨by rw [he]; exact makeEnd_off rfl, hb⟩
  · rw [Bool.and_eq_true] at h
    rcases inR_cases k 0 20 with ⟨_, k1, k2⟩ | ⟨h2, _⟩
    · obtain ⟨k, rfl⟩ := Int.eq_ofNat_of_zero_le (show 0 ≤ k by omega)
      by_cases h0 : k = 0
      · subst h0
        have e0 : timesAll s (Int.toNat ((0 : Nat) : Int)) = zeroF (someS s) := by unfold timesAll; simp
        rw [e0]
        exact (specTimes_zero s w hs h.1).mono fun e w' ⟨⟨T, b, he, hm⟩, hb⟩ => ⟨by rw [he]; exact makeEnd_on hm, hb⟩
      · have e0 : timesAll s (Int.toNat (k : Int)) = timesF (fS s) k := by unfold timesAll; rw [Int.toNat_natCast, if_neg h0]
        rw [e0]
        exact (specTimes_on s k w hs h.1 (by omega) (by omega)).mono fun e w' ⟨⟨T, b, he, hm⟩, hb⟩ => ⟨by rw [he]; exact makeEnd_on hm, hb⟩
    · rw [h2] at h; cases h.2

end Go.Proofs.Ytcljchngjaodgaa
