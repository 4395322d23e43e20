/-
  The walk of the program's RestSame.
-/
import Derived.Test.YtifodjlfjnmnkaaRestByI
import Derived.Test.YtifodjlfjnmnkaaRestMath
import Derived.Laws.StructEq
set_option linter.unusedVariables false
set_option linter.unusedSimpArgs false
namespace Go.Proofs.Ytifodjlfjnmnkaa
open Go.RowKit

theorem parts_beq {f : Nat → Bool} {m q : Nat} (h : Tidy f m q) (i k : Nat) : ((tailT f m i).toList == (tailT f m k).toList && (ringT f m q i).toList == (ringT f m q k).toList) = true ↔ downF f i = downF f k := by
  rw [bytes_beq, bytes_beq, Bool.and_eq_true, decide_eq_true_iff, decide_eq_true_iff, ← restV_same h]
  unfold restV
  constructor
  · rintro ⟨h1, h2⟩; rw [h1, h2]
  · intro e
    injection e with e
    have e1 := congrArg (fun a => a[0]?) e
    have e2 := congrArg (fun a => a[1]?) e
    simp at e1 e2
    exact ⟨e1, e2⟩

set_option maxHeartbeats 1000000 in
theorem implSameRest_on (s : ByteArray) (i k m q : Nat) (m0 : Int) (w : World) (hs : s.size ≤ 1048576) (hL : LibAt m0 w) (ho : okS s = true) (ht : Tidy (fS s) m q) (hm : m ≤ 60) (hq : q ≤ 60) (hi : i ≤ 1000) (hk : k ≤ 1000) :
    Calls Try.prog 26 #[.string s, .int .i64 i, .int .i64 k] w fun e w' => (∃ b, e = .returned (.bool b) ∧ (b = true ↔ downF (fS s) i = downF (fS s) k)) ∧ Below w.heap.size w w' := by
  have HE := Lib.hid (parts_beq ht i k)
  have hcall := restBy_on s i m q m0 w hs hL ho ht hm hq hi
  have HL := Lib.hid hL
  clear hL
  go_enter Try.func26, Try.ntmps26
  go_wp2_with fail
  refine hcall.mono ?_
  rintro e w1 ⟨rfl, hb1⟩
  have HB1 := Lib.hid (hb1.alloc hb1.size (.cells #[.string (tailT (fS s) m i), .string (ringT (fS s) m q i)] 57))
  have hcall2 := restBy_on s k m q m0 _ hs (HL.out.below HB1.out) ho ht hm hq hk
  clear hb1 hcall
  go_wp2_with fail
  refine hcall2.mono ?_
  rintro e w2 ⟨rfl, hb2⟩
  have HB2 := Lib.hid (HB1.out.trans (hb2.mono HB1.out.size))
  obtain ⟨q0, q1⟩ := box_later (hb2.trans ((Below.refl w2.heap.size w2).alloc (Nat.le_refl _) (.cells #[.string (tailT (fS s) m k), .string (ringT (fS s) m q k)] 57) |>.mono hb2.size))
  have HB3 := Lib.hid (HB2.out.alloc HB2.out.size (.cells #[.string (tailT (fS s) m k), .string (ringT (fS s) m q k)] 57))
  clear hb2 hcall2
  go_wp2
  all_goals
    go_ret
    refine ⟨⟨_, rfl, ?_⟩, HB3.out⟩
    rw [← HE.out]
    simp [*]

set_option maxHeartbeats 1000000 in
theorem implSameRest_off (s : ByteArray) (i k : Int) (m0 : Int) (w : World) (hs : s.size ≤ 1048576) (hL : LibAt m0 w) (h1 : (okS s && inR i 0 1000) = false) :
    Calls Try.prog 26 #[.string s, .int .i64 i, .int .i64 k] w fun e w' => e = .returned (.bool false) ∧ Below w.heap.size w w' := by
  have hcall := restBy_off s i m0 w hs hL h1
  have HL := Lib.hid hL
  clear hL
  go_enter Try.func26, Try.ntmps26
  go_wp2_with fail
  refine hcall.mono ?_
  rintro e w1 ⟨rfl, hb1⟩
  have HB1 := Lib.hid (hb1.alloc hb1.size (.cells #[.string ⟨#[]⟩, .string ⟨#[]⟩] 57))
  clear hb1 hcall
  have hcall2 : Calls Try.prog 58 #[.string s, .int .i64 k] (w1.alloc (.cells #[.string ⟨#[]⟩, .string ⟨#[]⟩] 57)) fun e w' =>
      (∃ T R b, e = .returned (.tuple #[.agg #[.string T, .string R], .bool b])) ∧ Below (w1.alloc (.cells #[.string ⟨#[]⟩, .string ⟨#[]⟩] 57)).heap.size (w1.alloc (.cells #[.string ⟨#[]⟩, .string ⟨#[]⟩] 57)) w' := by
    cases h2 : (okS s && inR k 0 1000)
    · exact (restBy_off s k m0 _ hs (HL.out.below HB1.out) h2).mono fun e w' ⟨he, hb⟩ => ⟨⟨_, _, _, he⟩, hb⟩
    · rw [Bool.and_eq_true] at h2
      obtain ⟨ho, hk⟩ := h2
      rcases inR_cases k 0 1000 with ⟨_, k1, k2⟩ | ⟨h, _⟩
      · obtain ⟨k, rfl⟩ := Int.eq_ofNat_of_zero_le k1
        obtain ⟨m, q, ht, hm, hq⟩ := tidy_there ho
        exact (restBy_on s k m q m0 _ hs (HL.out.below HB1.out) ho ht hm hq (by omega)).mono fun e w' ⟨he, hb⟩ => ⟨⟨_, _, _, he⟩, hb⟩
      · rw [h] at hk; cases hk
  go_wp2_with fail
  refine hcall2.mono ?_
  rintro e w2 ⟨⟨T, R, b, rfl⟩, hb2⟩
  have HB2 := Lib.hid (HB1.out.trans (hb2.mono HB1.out.size))
  have HB3 := Lib.hid (HB2.out.alloc HB2.out.size (.cells #[.string T, .string R] 57))
  clear hb2 hcall2
  go_wp2
  go_ret
  exact ⟨rfl, HB3.out⟩

set_option maxHeartbeats 1000000 in
theorem implSameRest_second (s : ByteArray) (i m q : Nat) (k : Int) (m0 : Int) (w : World) (hs : s.size ≤ 1048576) (hL : LibAt m0 w) (ho : okS s = true) (ht : Tidy (fS s) m q) (hm : m ≤ 60) (hq : q ≤ 60) (hi : i ≤ 1000) (h1 : (okS s && inR k 0 1000) = false) :
    Calls Try.prog 26 #[.string s, .int .i64 i, .int .i64 k] w fun e w' => e = .returned (.bool false) ∧ Below w.heap.size w w' := by
  have hcall := restBy_on s i m q m0 w hs hL ho ht hm hq hi
  have HL := Lib.hid hL
  have HO := Lib.hid h1
  clear hL h1 ho
  go_enter Try.func26, Try.ntmps26
  go_wp2_with fail
  refine hcall.mono ?_
  rintro e w1 ⟨rfl, hb1⟩
  have HB1 := Lib.hid (hb1.alloc hb1.size (.cells #[.string (tailT (fS s) m i), .string (ringT (fS s) m q i)] 57))
  have hcall2 := restBy_off s k m0 _ hs (HL.out.below HB1.out) HO.out
  clear hb1 hcall
  go_wp2_with fail
  refine hcall2.mono ?_
  rintro e w2 ⟨rfl, hb2⟩
  have HB2 := Lib.hid (HB1.out.trans (hb2.mono HB1.out.size))
  have HB3 := Lib.hid (HB2.out.alloc HB2.out.size (.cells #[.string ⟨#[]⟩, .string ⟨#[]⟩] 57))
  clear hb2 hcall2
  go_wp2
  go_ret
  exact ⟨rfl, HB3.out⟩

theorem implSameRest (s : ByteArray) (i k : Int) (m0 : Int) (w : World) (hs : s.size ≤ 1048576) (hL : LibAt m0 w) :
    Calls Try.prog 26 #[.string s, .int .i64 i, .int .i64 k] w fun e w' => TwinIs (okS s && inR i 0 1000 && inR k 0 1000) (fS s) i.toNat k.toNat e ∧ Below w.heap.size w w' := by
  cases h1 : (okS s && inR i 0 1000)
  · exact (implSameRest_off s i k m0 w hs hL h1).mono fun e w' ⟨he, hb⟩ => ⟨twinIs_off rfl he, hb⟩
  · have h1' := h1
    rw [Bool.and_eq_true] at h1
    obtain ⟨ho, hi⟩ := h1
    rcases inR_cases i 0 1000 with ⟨_, i1, i2⟩ | ⟨h, _⟩
    · obtain ⟨i, rfl⟩ := Int.eq_ofNat_of_zero_le i1
      obtain ⟨m, q, ht, hm, hq⟩ := tidy_there ho
      cases hk : inR k 0 1000
      · exact (implSameRest_second s i m q k m0 w hs hL ho ht hm hq (by omega) (by rw [hk]; exact Bool.and_false _)).mono fun e w' ⟨he, hb⟩ => ⟨twinIs_off rfl he, hb⟩
      · rcases inR_cases k 0 1000 with ⟨_, k1, k2⟩ | ⟨h, _⟩
        · obtain ⟨k, rfl⟩ := Int.eq_ofNat_of_zero_le k1
          refine (implSameRest_on s i k m q m0 w hs hL ho ht hm hq (by omega) (by omega)).mono fun e w' ⟨⟨b, he, hb1⟩, hb⟩ => ⟨⟨b, he, ?_⟩, hb⟩
          exact And.intro (fun _ => hb1) (fun h => by cases h)
        · rw [h] at hk; cases hk
    · rw [h] at hi; cases hi
end Go.Proofs.Ytifodjlfjnmnkaa
