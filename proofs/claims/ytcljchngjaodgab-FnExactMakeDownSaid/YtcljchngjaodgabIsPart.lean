/-
  The walk of impl.isPart: it tells whether a text is at most 60 signs.
-/
import Derived.Test.YtcljchngjaodgabBase
namespace Go.Proofs.Ytcljchngjaodgab
open Go.RowKit


set_option maxHeartbeats 400000 in
theorem isPart_any (s : ByteArray) (w : World) (hs : s.size ≤ maxLen) :
    Calls Try.prog 58 #[.string s] w fun e w' => e = .returned (.bool (partB s.data.toList)) ∧ w = w' := by
  unfold maxLen at hs
  by_cases h60 : s.size ≤ 60
  · have hd : decide ((60 : Int) < (s.size : Int)) = false := by simp; omega
    go_enter Try.func58, Try.ntmps58
    go_wp2
    go_loop [9] (fun i => ∃ k : Nat, k ≤ s.size ∧ i = .int .i64 k ∧ allSigns (s.data.toList.take k) = true) (fun i => s.size - (intOf i).toNat)
    case atStart => exact ⟨0, Nat.zero_le _, rfl, rfl⟩
    case round =>
      obtain ⟨k, hk, rfl, hall⟩ := hrel
      have HA := Lib.hid hall
      clear hall
      by_cases hlt : k < s.size
      · by_cases h0 : (s[k].toNat : Int) = 48
        · go_wp2
          go_round
          case rel => exact ⟨k + 1, by omega, by go_num, allSigns_step s k hlt HA.out (.inl h0)⟩
          case measure => simp [intOf]; omega
        · by_cases h1 : (s[k].toNat : Int) = 49
          · go_wp2
            go_round
            case rel => exact ⟨k + 1, by omega, by go_num, allSigns_step s k hlt HA.out (.inr h1)⟩
            case measure => simp [intOf]; omega
          · have b0 : ((s[k].toNat : Int) != 48) = true := by simpa using h0
            have b1 : ((s[k].toNat : Int) != 49) = true := by simpa using h1
            go_wp2
            go_ret
            exact ⟨ret_bool (part_bad s k hlt (by omega)).symm, rfl⟩
      · go_wp2
        go_ret
        exact ⟨ret_bool (part_yes s k h60 hlt HA.out).symm, rfl⟩
  · have hd : (60 : Int) < (s.size : Int) := by omega
    go_enter Try.func58, Try.ntmps58
    go_wp2
    go_ret
    exact ⟨ret_bool (part_long s h60).symm, rfl⟩
end Go.Proofs.Ytcljchngjaodgab
