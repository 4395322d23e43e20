/-
  The closure of MakeDown. The walk of the program's MakeDown.
-/
import Derived.Test.YtiphooodijbhiaaMade
import Derived.Test.YtiphooodijbhiaaMakeMath
import Derived.Test.YtiphooodijbhiaaBetween
namespace Go.Proofs.Ytiphooodijbhiaa
open Go.RowKit

set_option maxHeartbeats 400000 in
theorem clo_down (s T R : ByteArray) (P B k n : Nat) (W : World) (hk : k ≤ 1000) (hn : n ≤ 900000) (_ : P < W.heap.size) (_ : B < W.heap.size) (hs : IsSplit s T R) (c1 : W.cell? ⟨P, 0, none⟩ = some (.string T)) (c2 : W.cell? ⟨P, 1, none⟩ = some (.string R)) (c0 : W.cell? ⟨B, 0, none⟩ = some (.int .i64 k)) :
    Calls Try.prog 151 #[.int .i64 n, .pointer (some ⟨P, 0, none⟩), .pointer (some ⟨B, 0, none⟩)] W fun e w' => e = .returned (.bool (downF (fS s) k n)) ∧ Below W.heap.size W w' := by
  have K1 : ∀ W1 : World, Calls Try.prog 88 #[.agg #[.string T, .string R], .int .i64 ((n : Int) + (k : Int))] W1 fun e w1 => e = .returned (.bool (downF (fS s) k n)) ∧ Below W1.heap.size W1 w1 := fun W1 =>
    has_nat (n := n + k) hs (by omega)
  go_enter Try.func151, Try.ntmps151
  go_wp2_with fail
  refine (K1 _).mono ?_
  rintro e w1 ⟨rfl, hb⟩
  go_wp2
  go_ret
  exact ⟨rfl, hb⟩

set_option maxHeartbeats 400000 in
theorem implDown_off (s : ByteArray) (k m : Int) (w : World) (hs : s.size ≤ 1048576) (hL : LibAt m w) (h : okS s = false) :
    Calls Try.prog 139 #[.string s, .int .i64 k] w fun e w' => MakeEnd (okS s && inR k 0 1000) (downF (fS s) k.toNat) e ∧ Below w.heap.size w w' := by
  have h2 : (okS s && inR k 0 1000) = false := by rw [h]; rfl
  have HE := Lib.hid h2
  clear h2
  go_enter Try.func139, Try.ntmps139
  go_wp2_with fail
  refine (split_off s m _ hs (hL.alloc _) h).mono ?_
  rintro e w1 ⟨rfl, hb⟩
  go_wp2
  go_ret2
  exact ⟨makeEnd_off HE.out, below_boxed hb _⟩

set_option maxHeartbeats 400000 in
theorem implDown_out (s : ByteArray) (k m : Int) (w : World) (hs : s.size ≤ 1048576) (hL : LibAt m w) (h : okS s = true) (hk : inR k 0 1000 = false) :
    Calls Try.prog 139 #[.string s, .int .i64 k] w fun e w' => MakeEnd (okS s && inR k 0 1000) (downF (fS s) k.toNat) e ∧ Below w.heap.size w w' := by
  have h2 : (okS s && inR k 0 1000) = false := by rw [h, hk]; rfl
  have HE := Lib.hid h2
  clear h2
  go_enter Try.func139, Try.ntmps139
  go_wp2_with fail
  refine (split_on s m _ hs (hL.alloc _) h).mono ?_
  rintro e w1 ⟨T, R, rfl, hb, _⟩
  have q0 := boxed_cell hb (.cells #[.string T, .string R] 84)
  go_wp2_with fail
  refine (between_out k 0 1000 _ hk).mono ?_
  rintro e w2 ⟨rfl, rfl⟩
  have HB := Lib.hid (below_boxed hb (.cells #[.string T, .string R] 84))
  clear hb q0
  go_wp2
  go_ret2
  exact ⟨makeEnd_off HE.out, HB.out⟩

set_option maxHeartbeats 1000000 in
theorem implDown_on (s : ByteArray) (k : Nat) (m : Int) (w : World) (hs : s.size ≤ 1048576) (hL : LibAt m w) (h : okS s = true) (hk : k ≤ 1000) :
    Calls Try.prog 139 #[.string s, .int .i64 k] w fun e w' => MakeEnd true (downF (fS s) k) e ∧ Below w.heap.size w w' := by
  have hki : inR (k : Int) 0 1000 = true := by unfold inR; rw [decide_eq_true (by omega), decide_eq_true (by omega)]; rfl
  have HI := Lib.hid hki
  clear hki
  go_enter Try.func139, Try.ntmps139
  go_wp2_with fail
  refine (split_on s m _ hs (hL.alloc _) h).mono ?_
  rintro e w1 ⟨T, R, rfl, hb, hsp⟩
  have q0 := boxed_cell hb (.cells #[.string T, .string R] 84)
  have HSP := Lib.hid hsp
  clear hsp
  go_wp2_with fail
  refine (between_in k 0 1000 _ HI.out).mono ?_
  rintro e w2 ⟨rfl, rfl⟩
  have HB := Lib.hid (below_boxed hb (.cells #[.string T, .string R] 84))
  have HX := Lib.hid (held_start T R hb)
  have ht2 := HSP.out.tailLe
  clear hb
  go_wp2_with fail
  refine (made_any 151 #[.pointer (some ⟨w1.heap.size, 0, none⟩), .pointer (some ⟨w.heap.size, 0, none⟩)] (downF (fS s) k) T.size R.size m _ ?_ HSP.out.ringPos (by omega) ?_ (fun n hn => HSP.out.down k n hn) (hL.below HB.out)).mono ?_
  · exact ⟨enters_of Try.func151 (by kernel_rfl) rfl, fun W n hW hn => by
      have hx := HX.out.below hW
      have h2 := HSP.out.ringLe
      exact clo_down s T R _ _ k n W (by omega) (by omega) hx.lP hx.lK HSP.out hx.c1 hx.c2 hx.c0⟩
  · have h1 := HSP.out.ringLe; omega
  rintro e w3 ⟨⟨U, b, rfl, hm⟩, hb3⟩
  have HM := Lib.hid hm
  have HB3 := Lib.hid (HB.out.trans (hb3.mono HB.out.size))
  clear hm hb3
  go_wp2
  go_ret2
  exact ⟨⟨U, b, rfl, HM.out⟩, HB3.out⟩

theorem implDown (s : ByteArray) (k m : Int) (w : World) (hs : s.size ≤ 1048576) (hL : LibAt m w) :
    Calls Try.prog 139 #[.string s, .int .i64 k] w fun e w' => MakeEnd (okS s && inR k 0 1000) (downF (fS s) k.toNat) e ∧ Below w.heap.size w w' := by
  cases h : okS s
  · have := implDown_off s k m w hs hL h
    rw [h] at this; exact this
  · cases h2 : inR k 0 1000
    · have := implDown_out s k m w hs hL h h2
      rw [h, h2] at this; exact this
    · rcases inR_cases k 0 1000 with ⟨_, k1, k2⟩ | ⟨h3, _⟩
      · obtain ⟨k, rfl⟩ := Int.eq_ofNat_of_zero_le (show 0 ≤ k by omega)
        exact implDown_on s k m w hs hL h (by omega)
      · rw [h2] at h3; cases h3

end Go.Proofs.Ytiphooodijbhiaa
