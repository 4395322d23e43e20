/-
  What the model's MakeEvery answers.
-/
import Derived.Test.YtcljchngjaodgaaMakeEveryS
namespace Go.Proofs.Ytcljchngjaodgaa
open Go.RowKit

theorem specEvery (s : ByteArray) (k r : Int) (w : World) (hs : s.size ≤ 1048576) :
    Calls Try.prog 42 #[.string s, .int .i64 k, .int .i64 r] w fun e w' => MakeEnd (okS s && (inR k 1 20 && inR r 0 100)) (everyF (fS s) k.toNat r.toNat) e ∧ Below w.heap.size w w' := by
  cases h : (okS s && (inR k 1 20 && inR r 0 100))
  · exact (specEvery_off s k r w hs h).mono fun e w' ⟨he, hb⟩ => ⟨by rw [he]; exact makeEnd_off rfl, hb⟩
  · rw [Bool.and_eq_true, Bool.and_eq_true] at h
    rcases inR_cases k 1 20 with ⟨_, k1, k2⟩ | ⟨h2, _⟩
    · rcases inR_cases r 0 100 with ⟨_, k3, k4⟩ | ⟨h3, _⟩
      · obtain ⟨k, rfl⟩ := Int.eq_ofNat_of_zero_le (show 0 ≤ k by omega)
        obtain ⟨r, rfl⟩ := Int.eq_ofNat_of_zero_le (show 0 ≤ r by omega)
        exact (specEvery_on s k r w hs h.1 (by omega) (by omega) (by omega)).mono fun e w' ⟨⟨T, b, he, hm⟩, hb⟩ => ⟨by rw [he]; exact makeEnd_on hm, hb⟩
      · rw [h3] at h; cases h.2.2
    · rw [h2] at h; cases h.2.1

end Go.Proofs.Ytcljchngjaodgaa
