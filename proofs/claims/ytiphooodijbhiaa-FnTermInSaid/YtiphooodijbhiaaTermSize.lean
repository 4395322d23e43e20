/-
  The walks of TermSize, of the program and of the model.
-/
import Derived.Test.YtiphooodijbhiaaTermI
import Derived.Test.YtiphooodijbhiaaTermPart
import Derived.Test.YtiphooodijbhiaaShelf
set_option linter.unusedVariables false
set_option linter.unusedSimpArgs false
namespace Go.Proofs.Ytiphooodijbhiaa
open Go.RowKit

theorem tmSigns_count (l : List UInt8) : tmSigns l + l.count 40 + l.count 41 = l.length := by
  induction l with
  | nil => rfl
  | cons c l ih =>
    by_cases h : c = 40
    · subst h; rw [tmSigns_skip l (by decide), List.count_cons_self, List.count_cons_of_ne (by decide)]; simp; omega
    · by_cases h2 : c = 41
      · subst h2; rw [tmSigns_skip l (by decide), List.count_cons_self, List.count_cons_of_ne (by decide)]; simp; omega
      · rw [tmSigns_cons l (by simp [h, h2]), List.count_cons_of_ne (by simpa using h), List.count_cons_of_ne (by simpa using h2)]; simp; omega
/-- What TermSize answers. -/
def sizeV (s : ByteArray) : Nat := if (termOf s.data.toList).isSome = true then tmSigns s.data.toList else 0

set_option maxHeartbeats 1000000 in
theorem implTermSize (s : ByteArray) (w : World) (hs : s.size ≤ 1048576) : Calls Try.prog 37 #[.string s] w fun e w' => e = .returned (.tuple #[.int .i64 (sizeV s), .bool (termOf s.data.toList).isSome]) ∧ ∃ m, w' = w.drewN m := by
  have hc := tmSigns_count s.data.toList
  rw [size_eq] at hc
  cases ho : (termOf s.data.toList).isSome
  · have HV : Hid (sizeV s = 0) := Lib.hid (by unfold sizeV; rw [ho]; rfl)
    have HO := Lib.hid ho
    clear ho hc
    go_enter Try.func37, Try.ntmps37
    go_wp2_with fail
    refine (implTermIn s _).mono ?_
    rintro e w1 ⟨rfl, m, rfl⟩
    rw [HO.out]
    go_wp2_with fail
    go_ret2
    exact ⟨by rw [HV.out]; rfl, _, rfl⟩
  · have HV : Hid (sizeV s = tmSigns s.data.toList) := Lib.hid (by unfold sizeV; rw [ho]; rfl)
    have HO := Lib.hid ho
    obtain ⟨a, ha⟩ : ∃ a, a = Lib.countByte s.data.toList 40 := ⟨_, rfl⟩
    obtain ⟨b, hb⟩ : ∃ b, b = Lib.countByte s.data.toList 41 := ⟨_, rfl⟩
    have H1 := Lib.hid (fun w => Try.strings_Count_one s 40 w)
    have H2 := Lib.hid (fun w => Try.strings_Count_one s 41 w)
    have HC : Hid (tmSigns s.data.toList + a + b = s.size) := Lib.hid (by rw [ha, hb]; exact hc)
    have l1 : a ≤ s.size := by have := HC.out; omega
    have l2 : b ≤ s.size := by have := HC.out; omega
    rw [← ha] at H1
    rw [← hb] at H2
    clear ho hc ha hb
    go_enter Try.func37, Try.ntmps37
    go_wp2_with fail
    refine (implTermIn s _).mono ?_
    rintro e w1 ⟨rfl, m, rfl⟩
    rw [HO.out]
    go_wp2_with fail
    refine (H1.out _).mono ?_
    rintro e w1 ⟨rfl, rfl⟩
    go_wp2_with fail
    refine (H2.out _).mono ?_
    rintro e w1 ⟨rfl, rfl⟩
    go_wp2_with fail
    go_ret2
    refine ⟨?_, _, rfl⟩
    have e : (s.size : Int) - (a : Int) - (b : Int) = ((sizeV s : Nat) : Int) := by rw [HV.out]; have := HC.out; omega
    rw [← e]; rfl

theorem signs_take {l : List UInt8} {k : Nat} (h : k < l.length) : tmSigns (l.take (k + 1)) = tmSigns (l.take k) + (if (l[k] == 40 || l[k] == 41) = true then 0 else 1) := by
  rw [List.take_succ_eq_append_getElem h, tmSigns_append]
  congr 1
  split
  · rename_i e; rw [tmSigns_skip [] e]; rfl
  · rename_i e; rw [tmSigns_cons [] (by simpa using e)]; rfl
theorem signs_le (l : List UInt8) : tmSigns l ≤ l.length := by have := tmSigns_count l; omega
theorem signs_hit {s : ByteArray} {k : Nat} (h : k < s.size) (h1 : ¬ (s[k].toNat : Int) = 40) (h2 : ¬ (s[k].toNat : Int) = 41) : tmSigns (s.data.toList.take (k + 1)) = tmSigns (s.data.toList.take k) + 1 := by
  have hk : k < s.data.toList.length := by rw [size_eq]; exact h
  have e : s.data.toList[k] = s[k] := rfl
  have n1 : ¬ s[k] = 40 := fun x => h1 (by rw [x]; rfl)
  have n2 : ¬ s[k] = 41 := fun x => h2 (by rw [x]; rfl)
  rw [signs_take hk, e, if_neg (by simp [n1, n2])]
theorem signs_miss {s : ByteArray} {k : Nat} (h : k < s.size) (h1 : (s[k].toNat : Int) = 40 ∨ (s[k].toNat : Int) = 41) : tmSigns (s.data.toList.take (k + 1)) = tmSigns (s.data.toList.take k) := by
  have hk : k < s.data.toList.length := by rw [size_eq]; exact h
  have e : s.data.toList[k] = s[k] := rfl
  have n : s[k] = 40 ∨ s[k] = 41 := h1.imp (fun x => (byte_is (k := 40) (by decide)).1 x) (fun x => (byte_is (k := 41) (by decide)).1 x)
  rw [signs_take hk, e, if_pos (by rcases n with x | x <;> rw [x] <;> decide), Nat.add_zero]

set_option maxRecDepth 100000 in
set_option maxHeartbeats 1000000 in
theorem specTermSize (s : ByteArray) (w : World) (hs : s.size ≤ 1048576) : Calls Try.prog 57 #[.string s] w fun e w' => e = .returned (.tuple #[.int .i64 (sizeV s), .bool (termOf s.data.toList).isSome]) ∧ Below w.heap.size w w' := by
  cases ho : (termOf s.data.toList).isSome
  · have HV : Hid (sizeV s = 0) := Lib.hid (by unfold sizeV; rw [ho]; rfl)
    have HO := Lib.hid ho
    clear ho
    go_enter Try.func57, Try.ntmps57
    go_wp2_with fail
    refine (specTermIn s _).mono ?_
    rintro e w1 ⟨rfl, hb⟩
    rw [HO.out]
    go_wp2_with fail
    go_ret2
    exact ⟨by rw [HV.out]; rfl, hb⟩
  · have HV : Hid (sizeV s = tmSigns s.data.toList) := Lib.hid (by unfold sizeV; rw [ho]; rfl)
    have HO := Lib.hid ho
    clear ho
    go_enter Try.func57, Try.ntmps57
    go_wp2_with fail
    refine (specTermIn s _).mono ?_
    rintro e w1 ⟨rfl, hb⟩
    rw [HO.out]
    go_wp2
    go_loop [4, 5] (fun n i => ∃ k : Nat, k ≤ s.size ∧ i = .int .i64 k ∧ n = .int .i64 ((tmSigns (s.data.toList.take k) : Nat) : Int)) (fun _ i => s.size - (intOf i).toNat)
    case atStart => exact ⟨0, Nat.zero_le _, rfl, rfl⟩
    case round =>
      obtain ⟨k, hk, rfl, rfl⟩ := hrel
      by_cases hlt : k < s.size
      · have hle := signs_le (s.data.toList.take k)
        have hle2 : (s.data.toList.take k).length ≤ k := by rw [List.length_take]; omega
        obtain ⟨z, hz⟩ : ∃ z, z = tmSigns (s.data.toList.take k) := ⟨_, rfl⟩
        by_cases h1 : (s[k].toNat : Int) = 40
        · have hm := signs_miss hlt (.inl h1)
          rw [← hz] at hm hle ⊢
          have HM := Lib.hid hm
          have b1 : ((s[k].toNat : Int) != 40) = false := by simp [h1]
          clear hm hz
          go_wp2
          go_round
          case rel => exact ⟨k + 1, by omega, by go_num, by rw [HM.out]⟩
          case measure => simp [intOf]; omega
        · by_cases h2 : (s[k].toNat : Int) = 41
          · have hm := signs_miss hlt (.inr h2)
            rw [← hz] at hm hle ⊢
            have HM := Lib.hid hm
            have b1 : ((s[k].toNat : Int) != 40) = true := by simp [h1]
            have b2 : ((s[k].toNat : Int) != 41) = false := by simp [h2]
            clear hm hz
            go_wp2
            go_round
            case rel => exact ⟨k + 1, by omega, by go_num, by rw [HM.out]⟩
            case measure => simp [intOf]; omega
          · have hm := signs_hit hlt h1 h2
            rw [← hz] at hm hle ⊢
            have HM := Lib.hid hm
            have b1 : ((s[k].toNat : Int) != 40) = true := by simp [h1]
            have b2 : ((s[k].toNat : Int) != 41) = true := by simp [h2]
            clear hm hz
            go_wp2
            go_round
            case rel => exact ⟨k + 1, by omega, by go_num, by rw [HM.out]; go_num⟩
            case measure => simp [intOf]; omega
      · obtain rfl : k = s.size := by omega
        have ht : s.data.toList.take s.size = s.data.toList := List.take_of_length_le (by rw [size_eq]; exact Nat.le_refl _)
        rw [ht, ← HV.out]
        go_wp2
        go_ret2
        exact ⟨rfl, hb⟩

end Go.Proofs.Ytiphooodijbhiaa
