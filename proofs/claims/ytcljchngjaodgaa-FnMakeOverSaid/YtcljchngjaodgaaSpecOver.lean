/-
  What the model's MakeOver answers.
-/
import Derived.Test.YtcljchngjaodgaaMakeOverS
namespace Go.Proofs.Ytcljchngjaodgaa
open Go.RowKit

theorem specOver (s : ByteArray) (k : Int) (w : World) (hs : s.size ≤ 1048576) :
    Calls Try.prog 45 #[.string s, .int .i64 k] w fun e w' => MakeEnd (okS s && inR k 1 20) (overF (fS s) k.toNat) e ∧ Below w.heap.size w w' := by
  cases h : (okS s && inR k 1 20)
  · exact (specOver_off s k w hs h).mono fun e w' ⟨he, hb⟩ => ⟨by rw [he]; exact makeEnd_off rfl, hb⟩
  · rw [Bool.and_eq_true] at h
    rcases inR_cases k 1 20 with ⟨_, k1, k2⟩ | ⟨h2, _⟩
    · obtain ⟨k, rfl⟩ := Int.eq_ofNat_of_zero_le (show 0 ≤ k by omega)
      exact (specOver_on s k w hs h.1 (by omega) (by omega)).mono fun e w' ⟨⟨T, b, he, hm⟩, hb⟩ => ⟨by rw [he]; exact makeEnd_on hm, hb⟩
    · rw [h2] at h; cases h.2

end Go.Proofs.Ytcljchngjaodgaa
