/-
  The walk of the program's MakeTimes.
-/
import Derived.Test.YtcljchngjaodgaaClos
import Derived.Test.YtcljchngjaodgaaBetween
import Derived.Test.YtcljchngjaodgaaSetOfI
import Derived.Test.YtcljchngjaodgaaSetEndsI
namespace Go.Proofs.Ytcljchngjaodgaa
open Go.RowKit

theorem fL_text (zs : List Int) : ∃ T, TidyText (fL zs) T := by
  obtain ⟨m, q, ht⟩ := tidy_round (g := fL zs) (t := 60) (r := 1) (by omega) (fun n hn => by rw [fL_high _ _ (by omega), fL_high _ _ hn])
  have h := tidy_le_any (t := markT zs) (r := [false]) (by simp) ht
  rw [markT_length] at h
  exact ⟨_, m, q, ht, h.1, by have := h.2; simp at this; omega, rfl⟩
theorem fL_zero : fL [0] = zeroF true := by
  funext i
  unfold zeroF
  rcases Nat.lt_or_ge i 60 with k | k
  · rw [fL_low _ _ k]
    unfold marked
    simp only [List.any_cons, List.any_nil, Bool.or_false, Bool.and_true]
    rw [Bool.eq_iff_iff, beq_iff_eq, decide_eq_true_eq]; omega
  · rw [fL_high _ _ k, decide_eq_false (by omega)]; rfl
theorem fL_none : fL [] = zeroF false := by
  rw [fL_nil]; funext i; unfold zeroF; rw [Bool.and_false]
theorem endsB_append (a b : List Bool) : endsB (a ++ b) = (endsB a && endsB b) := by unfold endsB; rw [List.all_append]
theorem endsB_any (a : List Bool) : endsB a = !(a.any id) := by
  unfold endsB
  induction a with
  | nil => rfl
  | cons x l ih => rw [List.all_cons, List.any_cons, ih]; cases x <;> simp
theorem sb_append (a b : List UInt8) : sb (a ++ b) = sb a ++ sb b := by unfold sb; rw [List.map_append]
theorem some_contains {s T R : ByteArray} (h : IsSplit s T R) : decide (0 ≤ Lib.indexByte (T ++ R).data.toList 49) = someS s := by
  rw [contains_ends, ByteArray.data_append, Array.toList_append, sb_append, h.tail, h.ring, endsB_append, endsB_any, endsB_any]
  unfold someS orTo
  rw [List.take_length]
  cases (setR s).any id <;> cases (setT s).any id <;> rfl

set_option maxHeartbeats 1000000 in
theorem timesNone_some (s T R : ByteArray) (w : World) (h : IsSplit s T R) (hv : someS s = true) :
    Calls Try.prog 67 #[.agg #[.string T, .string R]] w fun e w' => MakeEnd true (zeroF (someS s)) e ∧ Below w.heap.size w w' := by
  have hc := some_contains h
  rw [hv] at hc
  have HC := Lib.hid hc
  have h1 := h.tailLe
  have h2 := h.ringLe
  obtain ⟨U, hU⟩ := fL_text [0]
  have HF : Hid (Made (zeroF (someS s)) U true) := Lib.hid (.inl ⟨rfl, by rw [hv]; rw [fL_zero] at hU; exact hU⟩)
  have HU := Lib.hid hU
  clear h hc hU hv
  go_enter Try.func67, Try.ntmps67
  go_wp2_with fail
  refine (Try.strings_Contains_one (T ++ R) 49 _).mono ?_
  rintro e w2 ⟨rfl, hw⟩
  subst hw
  rw [HC.out]
  go_wp2_with fail
  refine (implOf_on (some ⟨w.heap.size + 1, 0, none⟩) 1 1 [0] U _ ?_ (by decide) rfl HU.out).mono ?_
  · exact ⟨rfl, .inr ⟨w.heap.size + 1, 0, rfl, by simp, fun i hi => by
      obtain rfl : i = 0 := by omega
      have e : (⟨w.heap.size + 1, 0 + 0, none⟩ : Addr) = ⟨(w.alloc (.cells #[.string T, .string R] 46)).heap.size, 0, none⟩ := by simp
      rw [e, World.cell?_alloc_at _ _ _ _ rfl]; rfl⟩⟩
  rintro e w3 ⟨rfl, hb⟩
  have HB : Hid (Below w.heap.size w w3) := Lib.hid ((((Below.refl _ _).alloc (Nat.le_refl _) _).alloc (by simp) _).trans (hb.mono (by simp; omega)))
  clear hb
  go_wp2
  go_ret2
  exact ⟨makeEnd_on HF.out, HB.out⟩

set_option maxHeartbeats 1000000 in
theorem timesNone_none (s T R : ByteArray) (w : World) (h : IsSplit s T R) (hv : someS s = false) :
    Calls Try.prog 67 #[.agg #[.string T, .string R]] w fun e w' => MakeEnd true (zeroF (someS s)) e ∧ Below w.heap.size w w' := by
  have hc := some_contains h
  rw [hv] at hc
  have HC := Lib.hid hc
  have h1 := h.tailLe
  have h2 := h.ringLe
  obtain ⟨U, hU⟩ := fL_text []
  have HF : Hid (Made (zeroF (someS s)) U true) := Lib.hid (.inl ⟨rfl, by rw [hv]; rw [fL_none] at hU; exact hU⟩)
  have HU := Lib.hid hU
  clear h hc hU hv
  go_enter Try.func67, Try.ntmps67
  go_wp2_with fail
  refine (Try.strings_Contains_one (T ++ R) 49 _).mono ?_
  rintro e w2 ⟨rfl, hw⟩
  subst hw
  rw [HC.out]
  go_wp2_with fail
  refine (implOf_on (some ⟨w.heap.size + 1, 0, none⟩) 0 0 [] U _ ?_ (by decide) rfl HU.out).mono ?_
  · exact ⟨rfl, .inl rfl⟩
  rintro e w3 ⟨rfl, hb⟩
  have HB : Hid (Below w.heap.size w w3) := Lib.hid ((((Below.refl _ _).alloc (Nat.le_refl _) _).alloc (by simp) _).trans (hb.mono (by simp; omega)))
  clear hb
  go_wp2
  go_ret2
  exact ⟨makeEnd_on HF.out, HB.out⟩

theorem timesNone_any (s T R : ByteArray) (w : World) (h : IsSplit s T R) :
    Calls Try.prog 67 #[.agg #[.string T, .string R]] w fun e w' => MakeEnd true (zeroF (someS s)) e ∧ Below w.heap.size w w' := by
  cases hv : someS s
  · have := timesNone_none s T R w h hv
    rw [hv] at this; exact this
  · have := timesNone_some s T R w h hv
    rw [hv] at this; exact this

set_option maxHeartbeats 400000 in
theorem implTimes_off (s : ByteArray) (k m : Int) (w : World) (hs : s.size ≤ 1048576) (hL : LibAt m w) (h : okS s = false) :
    Calls Try.prog 37 #[.string s, .int .i64 k] w fun e w' => MakeEnd (okS s && inR k 0 20) (timesAll s k.toNat) e ∧ Below w.heap.size w w' := by
  have h2 : (okS s && inR k 0 20) = false := by rw [h]; rfl
  have HE := Lib.hid h2
  clear h2
  go_enter Try.func37, Try.ntmps37
  go_wp2_with fail
  refine (split_off s m _ hs (hL.alloc _) h).mono ?_
  rintro e w1 ⟨rfl, hb⟩
  go_wp2
  go_ret2
  exact ⟨makeEnd_off HE.out, below_boxed hb _⟩

set_option maxHeartbeats 400000 in
theorem implTimes_out (s : ByteArray) (k m : Int) (w : World) (hs : s.size ≤ 1048576) (hL : LibAt m w) (h : okS s = true) (hk : inR k 0 20 = false) :
    Calls Try.prog 37 #[.string s, .int .i64 k] w fun e w' => MakeEnd (okS s && inR k 0 20) (timesAll s k.toNat) e ∧ Below w.heap.size w w' := by
  have h2 : (okS s && inR k 0 20) = false := by rw [h, hk]; rfl
  have HE := Lib.hid h2
  clear h2
  go_enter Try.func37, Try.ntmps37
  go_wp2_with fail
  refine (split_on s m _ hs (hL.alloc _) h).mono ?_
  rintro e w1 ⟨T, R, rfl, hb, _⟩
  have q0 := boxed_cell hb (.cells #[.string T, .string R] 46)
  go_wp2_with fail
  refine (between_out k 0 20 _ hk).mono ?_
  rintro e w2 ⟨rfl, rfl⟩
  have HB := Lib.hid (below_boxed hb (.cells #[.string T, .string R] 46))
  clear hb q0
  go_wp2
  go_ret2
  exact ⟨makeEnd_off HE.out, HB.out⟩

set_option maxHeartbeats 1000000 in
theorem implTimes_zero (s : ByteArray) (m : Int) (w : World) (hs : s.size ≤ 1048576) (hL : LibAt m w) (h : okS s = true) :
    Calls Try.prog 37 #[.string s, .int .i64 0] w fun e w' => MakeEnd true (zeroF (someS s)) e ∧ Below w.heap.size w w' := by
  have hki : inR 0 0 20 = true := by decide
  have HI := Lib.hid hki
  clear hki
  go_enter Try.func37, Try.ntmps37
  go_wp2_with fail
  refine (split_on s m _ hs (hL.alloc _) h).mono ?_
  rintro e w1 ⟨T, R, rfl, hb, hsp⟩
  have q0 := boxed_cell hb (.cells #[.string T, .string R] 46)
  have HSP := Lib.hid hsp
  clear hsp
  go_wp2_with fail
  refine (between_in 0 0 20 _ HI.out).mono ?_
  rintro e w2 ⟨rfl, rfl⟩
  have HB := Lib.hid (below_boxed hb (.cells #[.string T, .string R] 46))
  clear hb
  go_wp2_with fail
  refine (timesNone_any s T R _ HSP.out).mono ?_
  rintro e w3 ⟨⟨U, b, rfl, hm⟩, hb3⟩
  have HM := Lib.hid hm
  have HB3 := Lib.hid (HB.out.trans (hb3.mono HB.out.size))
  clear hm hb3
  go_wp2
  go_ret2
  exact ⟨⟨U, b, rfl, HM.out⟩, HB3.out⟩

set_option maxHeartbeats 1000000 in
theorem implTimes_on (s : ByteArray) (k : Nat) (m : Int) (w : World) (hs : s.size ≤ 1048576) (hL : LibAt m w) (h : okS s = true) (h0 : 0 < k) (hk : k ≤ 20) :
    Calls Try.prog 37 #[.string s, .int .i64 k] w fun e w' => MakeEnd true (timesF (fS s) k) e ∧ Below w.heap.size w w' := by
  have hki : inR (k : Int) 0 20 = true := by unfold inR; rw [decide_eq_true (by omega), decide_eq_true (by omega)]; rfl
  have HI := Lib.hid hki
  clear hki
  go_enter Try.func37, Try.ntmps37
  go_wp2_with fail
  refine (split_on s m _ hs (hL.alloc _) h).mono ?_
  rintro e w1 ⟨T, R, rfl, hb, hsp⟩
  have q0 := boxed_cell hb (.cells #[.string T, .string R] 46)
  have HSP := Lib.hid hsp
  clear hsp
  go_wp2_with fail
  refine (between_in k 0 20 _ HI.out).mono ?_
  rintro e w2 ⟨rfl, rfl⟩
  have HB := Lib.hid (below_boxed hb (.cells #[.string T, .string R] 46))
  have HX := Lib.hid (held_start T R hb)
  have ht1 := HSP.out.tailLe
  have ht2 := HSP.out.ringLe
  have hx1 : T.size * k ≤ 60 * 20 := Nat.mul_le_mul ht1 hk
  have hx2 : R.size * k ≤ 60 * 20 := Nat.mul_le_mul ht2 hk
  obtain ⟨x, hx⟩ : ∃ x, x = T.size * k := ⟨_, rfl⟩
  obtain ⟨y, hy⟩ : ∃ y, y = R.size * k := ⟨_, rfl⟩
  have hxi : (T.size : Int) * (k : Int) = (x : Int) := by rw [hx, Int.natCast_mul]
  have hyi : (R.size : Int) * (k : Int) = (y : Int) := by rw [hy, Int.natCast_mul]
  have hy0 : 0 < y := by rw [hy]; exact Nat.mul_pos HSP.out.ringPos h0
  rw [← hx] at hx1
  rw [← hy] at hx2
  have HP : Hid (∀ n, x ≤ n → timesF (fS s) k (n + y) = timesF (fS s) k n) := Lib.hid (fun n hn => by
    rw [hy, Nat.mul_comm R.size k]; exact HSP.out.times k n h0 (by rw [Nat.mul_comm, ← hx]; exact hn))
  have hk0 : ¬ (k : Int) = 0 := by omega
  have hk1 : ¬ k = 0 := by omega
  clear hb hx hy
  go_wp2_with fail
  refine (made_any 68 #[.pointer (some ⟨w.heap.size, 0, none⟩), .pointer (some ⟨w1.heap.size, 0, none⟩)] (timesF (fS s) k) x y m _ ?_ hy0 (by omega) (by omega) HP.out (hL.below HB.out)).mono ?_
  · exact ⟨enters_of Try.func68 (by kernel_rfl) rfl, fun W n hW hn => by
      have hx := HX.out.below hW
      exact clo_times s T R _ _ k n W h0 hk (by omega) hx.lP hx.lK HSP.out hx.c1 hx.c2 hx.c0⟩
  rintro e w3 ⟨⟨U, b, rfl, hm⟩, hb3⟩
  have HM := Lib.hid hm
  have HB3 := Lib.hid (HB.out.trans (hb3.mono HB.out.size))
  clear hm hb3
  go_wp2
  go_ret2
  exact ⟨⟨U, b, rfl, HM.out⟩, HB3.out⟩

theorem implTimes (s : ByteArray) (k m : Int) (w : World) (hs : s.size ≤ 1048576) (hL : LibAt m w) :
    Calls Try.prog 37 #[.string s, .int .i64 k] w fun e w' => MakeEnd (okS s && inR k 0 20) (timesAll s k.toNat) e ∧ Below w.heap.size w w' := by
  cases h : okS s
  · have := implTimes_off s k m w hs hL h
    rw [h] at this; exact this
  · cases h2 : inR k 0 20
    · have := implTimes_out s k m w hs hL h h2
      rw [h, h2] at this; exact this
    · rcases inR_cases k 0 20 with ⟨_, k1, k2⟩ | ⟨h3, _⟩
      · obtain ⟨k, rfl⟩ := Int.eq_ofNat_of_zero_le (show 0 ≤ k by omega)
        by_cases h0 : k = 0
        · subst h0
          have e0 : timesAll s (Int.toNat ((0 : Nat) : Int)) = zeroF (someS s) := by unfold timesAll; simp
          rw [e0]
          exact implTimes_zero s m w hs hL h
        · have e0 : timesAll s (Int.toNat (k : Int)) = timesF (fS s) k := by unfold timesAll; rw [Int.toNat_natCast, if_neg h0]
          rw [e0]
          exact implTimes_on s k m w hs hL h (by omega) (by omega)
      · rw [h2] at h3; cases h3

end Go.Proofs.Ytcljchngjaodgaa
