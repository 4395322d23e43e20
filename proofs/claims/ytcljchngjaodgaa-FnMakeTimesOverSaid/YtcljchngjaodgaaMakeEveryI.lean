/-
  The walk of the program's MakeEvery.
-/
import Derived.Test.YtcljchngjaodgaaClos
import Derived.Test.YtcljchngjaodgaaBetween
namespace Go.Proofs.Ytcljchngjaodgaa
open Go.RowKit

theorem below_box2 {w w1 : World} {o o' : Obj} (hb : Below ((w.alloc o).alloc o').heap.size ((w.alloc o).alloc o') w1) (o2 : Obj) : Below w.heap.size w (w1.alloc o2) := by
  have hs := hb.size
  simp at hs
  exact ((((Below.refl _ _).alloc (Nat.le_refl _) _).alloc (by simp) _).trans (hb.mono (by simp; omega))).alloc (by omega) _
theorem two_first {w w1 : World} {v v' : Value} {t t' : TypeId} (hb : Below ((w.alloc (.cells #[v] t)).alloc (.cells #[v'] t')).heap.size ((w.alloc (.cells #[v] t)).alloc (.cells #[v'] t')) w1) (o2 : Obj) :
    (w1.alloc o2).cell? ⟨w.heap.size, 0, none⟩ = some v := by
  have hs := hb.size
  simp at hs
  rw [World.cell?_alloc_past _ _ _ (by show w.heap.size < w1.heap.size; omega)]
  rw [hb.cell (p := ⟨w.heap.size, 0, none⟩) (by show w.heap.size < _; simp; omega), World.cell?_alloc_past _ _ _ (by show w.heap.size < _; simp), World.cell?_alloc_at _ _ _ _ rfl]; rfl
theorem two_second {w w1 : World} {v v' : Value} {t t' : TypeId} (hb : Below ((w.alloc (.cells #[v] t)).alloc (.cells #[v'] t')).heap.size ((w.alloc (.cells #[v] t)).alloc (.cells #[v'] t')) w1) (o2 : Obj) :
    (w1.alloc o2).cell? ⟨w.heap.size + 1, 0, none⟩ = some v' := by
  have hs := hb.size
  simp at hs
  rw [World.cell?_alloc_past _ _ _ (by show w.heap.size + 1 < w1.heap.size; omega)]
  rw [hb.cell (p := ⟨w.heap.size + 1, 0, none⟩) (by show w.heap.size + 1 < _; simp)]
  have e : (⟨w.heap.size + 1, 0, none⟩ : Addr) = ⟨(w.alloc (.cells #[v] t)).heap.size, 0, none⟩ := by simp
  rw [e, World.cell?_alloc_at _ _ _ _ rfl]; rfl
/-- The boxes that MakeEvery's closure holds. -/
theorem two_boxes {w w1 : World} {v v' : Value} {t t' : TypeId} (T R : ByteArray) (hb : Below ((w.alloc (.cells #[v] t)).alloc (.cells #[v'] t')).heap.size ((w.alloc (.cells #[v] t)).alloc (.cells #[v'] t')) w1) :
    HeldBoxes T R w1.heap.size w.heap.size v (w1.alloc (.cells #[.string T, .string R] 46)) ∧ HeldBoxes T R w1.heap.size (w.heap.size + 1) v' (w1.alloc (.cells #[.string T, .string R] 46)) := by
  have hs := hb.size
  simp at hs
  refine ⟨⟨by simp, by simp; omega, ?_, ?_, two_first hb _⟩, by simp, by simp; omega, ?_, ?_, two_second hb _⟩
  all_goals (rw [World.cell?_alloc_at _ _ _ _ rfl]; rfl)

set_option maxHeartbeats 400000 in
theorem implEvery_off (s : ByteArray) (k r m : Int) (w : World) (hs : s.size ≤ 1048576) (hL : LibAt m w) (h : okS s = false) :
    Calls Try.prog 41 #[.string s, .int .i64 k, .int .i64 r] w fun e w' => MakeEnd (okS s && (inR k 1 20 && inR r 0 100)) (everyF (fS s) k.toNat r.toNat) e ∧ Below w.heap.size w w' := by
  have HE : Hid ((okS s && (inR k 1 20 && inR r 0 100)) = false) := Lib.hid (by rw [h]; rfl)
  go_enter Try.func41, Try.ntmps41
  go_wp2_with fail
  refine (split_off s m _ hs ((hL.alloc _).alloc _) h).mono ?_
  rintro e w1 ⟨rfl, hb⟩
  go_wp2
  go_ret2
  exact ⟨makeEnd_off HE.out, below_box2 hb _⟩

set_option maxHeartbeats 400000 in
theorem implEvery_out (s : ByteArray) (k r m : Int) (w : World) (hs : s.size ≤ 1048576) (hL : LibAt m w) (h : okS s = true) (hk : inR k 1 20 = false) :
    Calls Try.prog 41 #[.string s, .int .i64 k, .int .i64 r] w fun e w' => MakeEnd (okS s && (inR k 1 20 && inR r 0 100)) (everyF (fS s) k.toNat r.toNat) e ∧ Below w.heap.size w w' := by
  have HE : Hid ((okS s && (inR k 1 20 && inR r 0 100)) = false) := Lib.hid (by rw [hk, Bool.false_and, Bool.and_false])
  go_enter Try.func41, Try.ntmps41
  go_wp2_with fail
  refine (split_on s m _ hs ((hL.alloc _).alloc _) h).mono ?_
  rintro e w1 ⟨T, R, rfl, hb, hsp⟩
  have q0 := two_first hb (.cells #[.string T, .string R] 46)
  have q1 := two_second hb (.cells #[.string T, .string R] 46)
  go_wp2_with fail
  refine (between_out k 1 20 _ hk).mono ?_
  rintro e w2 ⟨rfl, rfl⟩
  have HB := Lib.hid (below_box2 hb (.cells #[.string T, .string R] 46))
  clear hb q0 q1
  go_wp2
  go_ret2
  exact ⟨makeEnd_off HE.out, HB.out⟩

set_option maxHeartbeats 400000 in
theorem implEvery_out2 (s : ByteArray) (k r m : Int) (w : World) (hs : s.size ≤ 1048576) (hL : LibAt m w) (h : okS s = true) (hk : inR k 1 20 = true) (hr : inR r 0 100 = false) :
    Calls Try.prog 41 #[.string s, .int .i64 k, .int .i64 r] w fun e w' => MakeEnd (okS s && (inR k 1 20 && inR r 0 100)) (everyF (fS s) k.toNat r.toNat) e ∧ Below w.heap.size w w' := by
  have HE : Hid ((okS s && (inR k 1 20 && inR r 0 100)) = false) := Lib.hid (by rw [hr, Bool.and_false, Bool.and_false])
  go_enter Try.func41, Try.ntmps41
  go_wp2_with fail
  refine (split_on s m _ hs ((hL.alloc _).alloc _) h).mono ?_
  rintro e w1 ⟨T, R, rfl, hb, hsp⟩
  have q0 := two_first hb (.cells #[.string T, .string R] 46)
  have q1 := two_second hb (.cells #[.string T, .string R] 46)
  go_wp2_with fail
  refine (between_in k 1 20 _ hk).mono ?_
  rintro e w2 ⟨rfl, rfl⟩
  go_wp2_with fail
  refine (between_out r 0 100 _ hr).mono ?_
  rintro e w2 ⟨rfl, rfl⟩
  have HB := Lib.hid (below_box2 hb (.cells #[.string T, .string R] 46))
  clear hb q0 q1
  go_wp2
  go_ret2
  exact ⟨makeEnd_off HE.out, HB.out⟩

set_option maxHeartbeats 1000000 in
theorem implEvery_on (s : ByteArray) (k r : Nat) (m : Int) (w : World) (hs : s.size ≤ 1048576) (hL : LibAt m w) (h : okS s = true) (h0 : 1 ≤ k) (hk : k ≤ 20) (hr : r ≤ 100) :
    Calls Try.prog 41 #[.string s, .int .i64 k, .int .i64 r] w fun e w' => MakeEnd true (everyF (fS s) k r) e ∧ Below w.heap.size w w' := by
  have HI : Hid (inR (k : Int) 1 20 = true) := Lib.hid (by unfold inR; rw [decide_eq_true (by omega), decide_eq_true (by omega)]; rfl)
  have HI2 : Hid (inR (r : Int) 0 100 = true) := Lib.hid (by unfold inR; rw [decide_eq_true (by omega), decide_eq_true (by omega)]; rfl)
  go_enter Try.func41, Try.ntmps41
  go_wp2_with fail
  refine (split_on s m _ hs ((hL.alloc _).alloc _) h).mono ?_
  rintro e w1 ⟨T, R, rfl, hb, hsp⟩
  have q0 := two_first hb (.cells #[.string T, .string R] 46)
  have q1 := two_second hb (.cells #[.string T, .string R] 46)
  have HSP := Lib.hid hsp
  clear hsp
  go_wp2_with fail
  refine (between_in k 1 20 _ HI.out).mono ?_
  rintro e w2 ⟨rfl, rfl⟩
  go_wp2_with fail
  refine (between_in r 0 100 _ HI2.out).mono ?_
  rintro e w2 ⟨rfl, rfl⟩
  have HB := Lib.hid (below_box2 hb (.cells #[.string T, .string R] 46))
  have HX := Lib.hid (two_boxes T R hb)
  have ht2 := HSP.out.tailLe
  clear hb
  go_wp2_with fail
  refine (made_any 71 #[.pointer (some ⟨w1.heap.size, 0, none⟩), .pointer (some ⟨w.heap.size, 0, none⟩), .pointer (some ⟨w.heap.size + 1, 0, none⟩)] (everyF (fS s) k r) T.size R.size m _ ?_ HSP.out.ringPos (by omega) ?_ (fun n hn => HSP.out.every k r n h0 hn) (hL.below HB.out)).mono ?_
  · exact ⟨enters_of Try.func71 (by kernel_rfl) rfl, fun W n hW hn => by
      have hx := HX.out.1.below hW
      have hy := HX.out.2.below hW
      have h2 := HSP.out.ringLe
      exact clo_every s T R _ _ _ k r n W (by omega) (by omega) (by omega) hx.lP hx.lK HSP.out hx.c1 hx.c2 hx.c0 hy.lK hy.c0⟩
  · have h1 := HSP.out.ringLe; omega
  rintro e w3 ⟨⟨U, b, rfl, hm⟩, hb3⟩
  have HM := Lib.hid hm
  have HB3 := Lib.hid (HB.out.trans (hb3.mono HB.out.size))
  clear hm hb3
  go_wp2
  go_ret2
  exact ⟨⟨U, b, rfl, HM.out⟩, HB3.out⟩

theorem implEvery (s : ByteArray) (k r m : Int) (w : World) (hs : s.size ≤ 1048576) (hL : LibAt m w) :
    Calls Try.prog 41 #[.string s, .int .i64 k, .int .i64 r] w fun e w' => MakeEnd (okS s && (inR k 1 20 && inR r 0 100)) (everyF (fS s) k.toNat r.toNat) e ∧ Below w.heap.size w w' := by
  cases h : okS s
  · have := implEvery_off s k r m w hs hL h
    rw [h] at this; exact this
  · cases h2 : inR k 1 20
    · have := implEvery_out s k r m w hs hL h h2
      rw [h, h2] at this; exact this
    · cases h4 : inR r 0 100
      · have := implEvery_out2 s k r m w hs hL h h2 h4
        rw [h, h2, h4] at this; exact this
      · rcases inR_cases k 1 20 with ⟨_, k1, k2⟩ | ⟨h3, _⟩
        · rcases inR_cases r 0 100 with ⟨_, k3, k4⟩ | ⟨h3, _⟩
          · obtain ⟨k, rfl⟩ := Int.eq_ofNat_of_zero_le (show 0 ≤ k by omega)
            obtain ⟨r, rfl⟩ := Int.eq_ofNat_of_zero_le (show 0 ≤ r by omega)
            exact implEvery_on s k r m w hs hL h (by omega) (by omega) (by omega)
          · rw [h4] at h3; cases h3
        · rw [h2] at h3; cases h3

end Go.Proofs.Ytcljchngjaodgaa
