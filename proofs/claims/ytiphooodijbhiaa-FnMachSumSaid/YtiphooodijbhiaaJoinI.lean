/-
  What a function value made by joined answers. The walk of impl.joined.
-/
import Derived.Test.YtiphooodijbhiaaMade
import Derived.Test.YtiphooodijbhiaaMakeMath
import Derived.Test.YtiphooodijbhiaaSteps
import Derived.Test.YtiphooodijbhiaaBetween
namespace Go.Proofs.Ytiphooodijbhiaa
open Go.RowKit

/-- The function value H answers hd of two truths. -/
structure PairGives (H : Nat) (hd : Bool → Bool → Bool) : Prop where
  enters : ∀ args w, (callFunc H args).run Try.prog w = .ok (.enter H args) w
  gives : ∀ (W : World) (x y : Bool), Calls Try.prog H #[.bool x, .bool y] W fun e w' => e = .returned (.bool (hd x y)) ∧ Below W.heap.size W w'

set_option maxHeartbeats 1000000 in
theorem clo_joined (s t T R T2 R2 : ByteArray) (H A P Q : Nat) (hd : Bool → Bool → Bool) (n : Nat) (W : World) (hn : n ≤ 1000000) (hH : PairGives H hd)
    (lA : A < W.heap.size) (lP : P < W.heap.size) (lQ : Q < W.heap.size) (hs : IsSplit s T R) (ht : IsSplit t T2 R2)
    (c0 : W.cell? ⟨A, 0, none⟩ = some (.func (.func H) #[] #[])) (c1 : W.cell? ⟨P, 0, none⟩ = some (.string T)) (c2 : W.cell? ⟨P, 1, none⟩ = some (.string R)) (c3 : W.cell? ⟨Q, 0, none⟩ = some (.string T2)) (c4 : W.cell? ⟨Q, 1, none⟩ = some (.string R2)) :
    Calls Try.prog 107 #[.int .i64 n, .pointer (some ⟨A, 0, none⟩), .pointer (some ⟨P, 0, none⟩), .pointer (some ⟨Q, 0, none⟩)] W fun e w' =>
      e = .returned (.bool (hd (fS s n) (fS t n))) ∧ Below W.heap.size W w' := by
  have keep : ∀ w1 w2 : World, (w1.cell? ⟨A, 0, none⟩ = some (.func (.func H) #[] #[]) ∧ w1.cell? ⟨P, 0, none⟩ = some (.string T) ∧ w1.cell? ⟨P, 1, none⟩ = some (.string R) ∧ w1.cell? ⟨Q, 0, none⟩ = some (.string T2) ∧ w1.cell? ⟨Q, 1, none⟩ = some (.string R2) ∧ Below W.heap.size W w1) → Below w1.heap.size w1 w2 → (w2.cell? ⟨A, 0, none⟩ = some (.func (.func H) #[] #[]) ∧ w2.cell? ⟨P, 0, none⟩ = some (.string T) ∧ w2.cell? ⟨P, 1, none⟩ = some (.string R) ∧ w2.cell? ⟨Q, 0, none⟩ = some (.string T2) ∧ w2.cell? ⟨Q, 1, none⟩ = some (.string R2) ∧ Below W.heap.size W w2) := by
    rintro w1 w2 ⟨d0, d1, d2, d3, d4, hB⟩ hb
    have hz := hB.size
    exact ⟨(hb.cell (p := ⟨A, 0, none⟩) (by show A < _; omega)).trans d0, (hb.cell (p := ⟨P, 0, none⟩) (by show P < _; omega)).trans d1, (hb.cell (p := ⟨P, 1, none⟩) (by show P < _; omega)).trans d2,
      (hb.cell (p := ⟨Q, 0, none⟩) (by show Q < _; omega)).trans d3, (hb.cell (p := ⟨Q, 1, none⟩) (by show Q < _; omega)).trans d4, hB.trans (hb.mono hz)⟩
  have K1 : ∀ W1 : World, (W1.cell? ⟨A, 0, none⟩ = some (.func (.func H) #[] #[]) ∧ W1.cell? ⟨P, 0, none⟩ = some (.string T) ∧ W1.cell? ⟨P, 1, none⟩ = some (.string R) ∧ W1.cell? ⟨Q, 0, none⟩ = some (.string T2) ∧ W1.cell? ⟨Q, 1, none⟩ = some (.string R2) ∧ Below W.heap.size W W1) → Calls Try.prog 88 #[.agg #[.string T, .string R], .int .i64 n] W1 fun e w1 => e = .returned (.bool (fS s n)) ∧ (w1.cell? ⟨A, 0, none⟩ = some (.func (.func H) #[] #[]) ∧ w1.cell? ⟨P, 0, none⟩ = some (.string T) ∧ w1.cell? ⟨P, 1, none⟩ = some (.string R) ∧ w1.cell? ⟨Q, 0, none⟩ = some (.string T2) ∧ w1.cell? ⟨Q, 1, none⟩ = some (.string R2) ∧ Below W.heap.size W w1) :=
    fun W1 h1 => (has_nat hs hn).mono fun e w1 ⟨he, hb⟩ => ⟨he, keep _ _ h1 hb⟩
  have K2 : ∀ W1 : World, (W1.cell? ⟨A, 0, none⟩ = some (.func (.func H) #[] #[]) ∧ W1.cell? ⟨P, 0, none⟩ = some (.string T) ∧ W1.cell? ⟨P, 1, none⟩ = some (.string R) ∧ W1.cell? ⟨Q, 0, none⟩ = some (.string T2) ∧ W1.cell? ⟨Q, 1, none⟩ = some (.string R2) ∧ Below W.heap.size W W1) → Calls Try.prog 88 #[.agg #[.string T2, .string R2], .int .i64 n] W1 fun e w1 => e = .returned (.bool (fS t n)) ∧ (w1.cell? ⟨A, 0, none⟩ = some (.func (.func H) #[] #[]) ∧ w1.cell? ⟨P, 0, none⟩ = some (.string T) ∧ w1.cell? ⟨P, 1, none⟩ = some (.string R) ∧ w1.cell? ⟨Q, 0, none⟩ = some (.string T2) ∧ w1.cell? ⟨Q, 1, none⟩ = some (.string R2) ∧ Below W.heap.size W w1) :=
    fun W1 h1 => (has_nat ht hn).mono fun e w1 ⟨he, hb⟩ => ⟨he, keep _ _ h1 hb⟩
  have K3 : ∀ W1 : World, (W1.cell? ⟨A, 0, none⟩ = some (.func (.func H) #[] #[]) ∧ W1.cell? ⟨P, 0, none⟩ = some (.string T) ∧ W1.cell? ⟨P, 1, none⟩ = some (.string R) ∧ W1.cell? ⟨Q, 0, none⟩ = some (.string T2) ∧ W1.cell? ⟨Q, 1, none⟩ = some (.string R2) ∧ Below W.heap.size W W1) → Calls Try.prog H #[.bool (fS s n), .bool (fS t n)] W1 fun e w1 => e = .returned (.bool (hd (fS s n) (fS t n))) ∧ (w1.cell? ⟨A, 0, none⟩ = some (.func (.func H) #[] #[]) ∧ w1.cell? ⟨P, 0, none⟩ = some (.string T) ∧ w1.cell? ⟨P, 1, none⟩ = some (.string R) ∧ w1.cell? ⟨Q, 0, none⟩ = some (.string T2) ∧ w1.cell? ⟨Q, 1, none⟩ = some (.string R2) ∧ Below W.heap.size W w1) :=
    fun W1 h1 => (hH.gives W1 (fS s n) (fS t n)).mono fun e w1 ⟨he, hb⟩ => ⟨he, keep _ _ h1 hb⟩
  have HSD : W.drew.cell? ⟨A, 0, none⟩ = some (.func (.func H) #[] #[]) ∧ W.drew.cell? ⟨P, 0, none⟩ = some (.string T) ∧ W.drew.cell? ⟨P, 1, none⟩ = some (.string R) ∧ W.drew.cell? ⟨Q, 0, none⟩ = some (.string T2) ∧ W.drew.cell? ⟨Q, 1, none⟩ = some (.string R2) ∧ Below W.heap.size W W.drew := ⟨c0, c1, c2, c3, c4, (Below.refl _ _).drew⟩
  have eH := hH.enters
  have HK1 := Lib.hid K1
  have HK2 := Lib.hid K2
  have HK3 := Lib.hid K3
  obtain ⟨vR, hvR⟩ : ∃ v, v = hd (fS s n) (fS t n) := ⟨_, rfl⟩
  rw [← hvR] at HK3 ⊢
  clear keep K1 K2 K3 hs ht hH
  go_enter Try.func107, Try.ntmps107
  go_wp2
  go_region_held3 (fun w' => w'.cell? ⟨A, 0, none⟩ = some (.func (.func H) #[] #[]) ∧ w'.cell? ⟨P, 0, none⟩ = some (.string T) ∧ w'.cell? ⟨P, 1, none⟩ = some (.string R) ∧ w'.cell? ⟨Q, 0, none⟩ = some (.string T2) ∧ w'.cell? ⟨Q, 1, none⟩ = some (.string R2) ∧ Below W.heap.size W w') (first | assumption | (constructor <;> assumption))
    (first
      | (go_at_call 88; (with_reducible refine (HK1.out _ ?_).mono ?_); assumption; rintro e w5 ⟨rfl, hb5⟩)
      | (go_at_call 88; (with_reducible refine (HK2.out _ ?_).mono ?_); assumption; rintro e w6 ⟨rfl, hb6⟩)
      | (go_at_fn H; (with_reducible refine (HK3.out _ ?_).mono ?_); assumption; rintro e w7 ⟨rfl, hb7⟩))
  all_goals
    go_wp2
    go_ret
    exact ⟨by rw [hvR]; rfl, hb7.2.2.2.2.2⟩

/-- The three boxes of joined. -/
structure JoinBoxes (fv : Value) (T R T2 R2 : ByteArray) (A P Q : Nat) (w : World) : Prop where
  lA : A < w.heap.size
  lP : P < w.heap.size
  lQ : Q < w.heap.size
  c0 : w.cell? ⟨A, 0, none⟩ = some fv
  c1 : w.cell? ⟨P, 0, none⟩ = some (.string T)
  c2 : w.cell? ⟨P, 1, none⟩ = some (.string R)
  c3 : w.cell? ⟨Q, 0, none⟩ = some (.string T2)
  c4 : w.cell? ⟨Q, 1, none⟩ = some (.string R2)
theorem JoinBoxes.below {fv : Value} {T R T2 R2 : ByteArray} {A P Q : Nat} {w w' : World} (h : JoinBoxes fv T R T2 R2 A P Q w) (hb : Below w.heap.size w w') : JoinBoxes fv T R T2 R2 A P Q w' :=
  ⟨Nat.lt_of_lt_of_le h.lA hb.size, Nat.lt_of_lt_of_le h.lP hb.size, Nat.lt_of_lt_of_le h.lQ hb.size, (hb.cell (p := ⟨A, 0, none⟩) h.lA).trans h.c0,
    (hb.cell (p := ⟨P, 0, none⟩) h.lP).trans h.c1, (hb.cell (p := ⟨P, 1, none⟩) h.lP).trans h.c2, (hb.cell (p := ⟨Q, 0, none⟩) h.lQ).trans h.c3, (hb.cell (p := ⟨Q, 1, none⟩) h.lQ).trans h.c4⟩
theorem joinBoxes_start {w w1 w2 : World} {fv : Value} {ty : TypeId} (T R T2 R2 : ByteArray) (hb : Below (w.alloc (.cells #[fv] ty)).heap.size (w.alloc (.cells #[fv] ty)) w1)
    (hb2 : Below (w1.alloc (.cells #[.string T, .string R] 84)).heap.size (w1.alloc (.cells #[.string T, .string R] 84)) w2) :
    JoinBoxes fv T R T2 R2 w.heap.size w1.heap.size w2.heap.size (w2.alloc (.cells #[.string T2, .string R2] 84)) := by
  have hx := (held_start T R hb).below hb2
  have hb3 : Below w2.heap.size w2 (w2.alloc (.cells #[.string T2, .string R2] 84)) := (Below.refl _ _).alloc (Nat.le_refl _) _
  have hy := hx.below hb3
  refine ⟨hy.lK, hy.lP, by simp, hy.c0, hy.c1, hy.c2, ?_, ?_⟩
  all_goals (rw [World.cell?_alloc_at _ _ _ _ rfl]; rfl)
theorem below_join {w w1 w2 : World} {o o2 : Obj} (hb : Below (w.alloc o).heap.size (w.alloc o) w1) (hb2 : Below (w1.alloc o2).heap.size (w1.alloc o2) w2) (o3 : Obj) : Below w.heap.size w (w2.alloc o3) := by
  have h := below_boxed2 hb hb2
  exact h.alloc h.size _
theorem LibAt.boxed {m : Int} {w w1 : World} {o : Obj} (h : LibAt m w) (hb : Below (w.alloc o).heap.size (w.alloc o) w1) (o2 : Obj) : LibAt m (w1.alloc o2) := h.below (below_boxed hb o2)

set_option maxHeartbeats 400000 in
theorem joined_off1 (s t : ByteArray) (H : Nat) (hd : Bool → Bool → Bool) (m : Int) (w : World) (hs : s.size ≤ 1048576) (ht : t.size ≤ 1048576) (hL : LibAt m w) (h1 : okS s = false) (h2 : okS t = false) :
    Calls Try.prog 81 #[.string s, .string t, .func (.func H) #[] #[]] w fun e w' => MakeEnd (okS s && okS t) (fun n => hd (fS s n) (fS t n)) e ∧ Below w.heap.size w w' := by
  have HE : Hid ((okS s && okS t) = false) := Lib.hid (by rw [h1]; rfl)
  go_enter Try.func81, Try.ntmps81
  go_wp2_with fail
  refine (split_off s m _ hs (hL.alloc _) h1).mono ?_
  rintro e w1 ⟨rfl, hb⟩
  go_wp2_with fail
  refine (split_off t m _ ht (hL.boxed hb _) h2).mono ?_
  rintro e w2 ⟨rfl, hb2⟩
  go_wp2
  go_ret2
  exact ⟨makeEnd_off HE.out, below_join hb hb2 _⟩

set_option maxHeartbeats 400000 in
theorem joined_off2 (s t : ByteArray) (H : Nat) (hd : Bool → Bool → Bool) (m : Int) (w : World) (hs : s.size ≤ 1048576) (ht : t.size ≤ 1048576) (hL : LibAt m w) (h1 : okS s = false) (h2 : okS t = true) :
    Calls Try.prog 81 #[.string s, .string t, .func (.func H) #[] #[]] w fun e w' => MakeEnd (okS s && okS t) (fun n => hd (fS s n) (fS t n)) e ∧ Below w.heap.size w w' := by
  have HE : Hid ((okS s && okS t) = false) := Lib.hid (by rw [h1]; rfl)
  go_enter Try.func81, Try.ntmps81
  go_wp2_with fail
  refine (split_off s m _ hs (hL.alloc _) h1).mono ?_
  rintro e w1 ⟨rfl, hb⟩
  go_wp2_with fail
  refine (split_on t m _ ht (hL.boxed hb _) h2).mono ?_
  rintro e w2 ⟨T2, R2, rfl, hb2, _⟩
  go_wp2
  go_ret2
  exact ⟨makeEnd_off HE.out, below_join hb hb2 _⟩

set_option maxHeartbeats 400000 in
theorem joined_off3 (s t : ByteArray) (H : Nat) (hd : Bool → Bool → Bool) (m : Int) (w : World) (hs : s.size ≤ 1048576) (ht : t.size ≤ 1048576) (hL : LibAt m w) (h1 : okS s = true) (h2 : okS t = false) :
    Calls Try.prog 81 #[.string s, .string t, .func (.func H) #[] #[]] w fun e w' => MakeEnd (okS s && okS t) (fun n => hd (fS s n) (fS t n)) e ∧ Below w.heap.size w w' := by
  have HE : Hid ((okS s && okS t) = false) := Lib.hid (by rw [h2, Bool.and_false])
  go_enter Try.func81, Try.ntmps81
  go_wp2_with fail
  refine (split_on s m _ hs (hL.alloc _) h1).mono ?_
  rintro e w1 ⟨T, R, rfl, hb, _⟩
  go_wp2_with fail
  refine (split_off t m _ ht (hL.boxed hb _) h2).mono ?_
  rintro e w2 ⟨rfl, hb2⟩
  go_wp2
  go_ret2
  exact ⟨makeEnd_off HE.out, below_join hb hb2 _⟩

set_option maxHeartbeats 1000000 in
theorem joined_on (s t : ByteArray) (H : Nat) (hd : Bool → Bool → Bool) (m : Int) (w : World) (hs : s.size ≤ 1048576) (ht : t.size ≤ 1048576) (hL : LibAt m w) (h1 : okS s = true) (h2 : okS t = true) (hH : PairGives H hd) :
    Calls Try.prog 81 #[.string s, .string t, .func (.func H) #[] #[]] w fun e w' => MakeEnd true (fun n => hd (fS s n) (fS t n)) e ∧ Below w.heap.size w w' := by
  go_enter Try.func81, Try.ntmps81
  go_wp2_with fail
  refine (split_on s m _ hs (hL.alloc _) h1).mono ?_
  rintro e w1 ⟨T, R, rfl, hb, hsp⟩
  go_wp2_with fail
  refine (split_on t m _ ht (hL.boxed hb _) h2).mono ?_
  rintro e w2 ⟨T2, R2, rfl, hb2, hsp2⟩
  have HJ := Lib.hid (joinBoxes_start T R T2 R2 hb hb2)
  have HB := Lib.hid (below_join hb hb2 (.cells #[.string T2, .string R2] 84))
  have q1 := HJ.out.c1
  have q2 := HJ.out.c2
  obtain ⟨tl, htl⟩ : ∃ tl, tl = max T.size T2.size := ⟨_, rfl⟩
  have hti : max (T.size : Int) (T2.size : Int) = (tl : Int) := by omega
  have htl2 : tl ≤ 60 := by have a1 := hsp.tailLe; have a2 := hsp2.tailLe; omega
  have hm1 : R.size * R2.size ≤ 60 * 60 := Nat.mul_le_mul hsp.ringLe hsp2.ringLe
  obtain ⟨p, hp⟩ : ∃ p, p = R.size * R2.size := ⟨_, rfl⟩
  have hpi : (R.size : Int) * (R2.size : Int) = (p : Int) := by rw [hp, Int.natCast_mul]
  have hp0 : 0 < p := by rw [hp]; exact Nat.mul_pos hsp.ringPos hsp2.ringPos
  rw [← hp] at hm1
  have HPER : Hid (∀ n, tl ≤ n → (fun n => hd (fS s n) (fS t n)) (n + p) = (fun n => hd (fS s n) (fS t n)) n) := Lib.hid (fun n hn => by
    have a1 : fS s (n + p) = fS s n := by rw [hp, Nat.mul_comm]; exact hsp.rounds n R2.size (by omega)
    have a2 : fS t (n + p) = fS t n := by rw [hp]; exact hsp2.rounds n R.size (by omega)
    show hd (fS s (n + p)) (fS t (n + p)) = hd (fS s n) (fS t n)
    rw [a1, a2])
  have HSP := Lib.hid hsp
  have HSP2 := Lib.hid hsp2
  clear hb hb2 hsp hsp2 htl hp
  go_wp2_with fail
  refine (made_any 107 #[.pointer (some ⟨w.heap.size, 0, none⟩), .pointer (some ⟨w1.heap.size, 0, none⟩), .pointer (some ⟨w2.heap.size, 0, none⟩)] (fun n => hd (fS s n) (fS t n)) tl p m _ ?_ hp0 (by omega) (by omega) HPER.out (hL.below HB.out)).mono ?_
  · exact ⟨enters_of Try.func107 (by kernel_rfl) rfl, fun W n hW hn => by
      have hx := HJ.out.below hW
      exact clo_joined s t T R T2 R2 H _ _ _ hd n W (by omega) hH hx.lA hx.lP hx.lQ HSP.out HSP2.out hx.c0 hx.c1 hx.c2 hx.c3 hx.c4⟩
  rintro e w3 ⟨⟨U, b, rfl, hm⟩, hb3⟩
  have HM := Lib.hid hm
  have HB3 := Lib.hid (HB.out.trans (hb3.mono HB.out.size))
  clear hm hb3
  go_wp2
  go_ret2
  exact ⟨⟨U, b, rfl, HM.out⟩, HB3.out⟩

theorem joined_any (s t : ByteArray) (H : Nat) (hd : Bool → Bool → Bool) (m : Int) (w : World) (hs : s.size ≤ 1048576) (ht : t.size ≤ 1048576) (hL : LibAt m w) (hH : PairGives H hd) :
    Calls Try.prog 81 #[.string s, .string t, .func (.func H) #[] #[]] w fun e w' => MakeEnd (okS s && okS t) (fun n => hd (fS s n) (fS t n)) e ∧ Below w.heap.size w w' := by
  cases h1 : okS s
  · cases h2 : okS t
    · have := joined_off1 s t H hd m w hs ht hL h1 h2
      rw [h1, h2] at this; exact this
    · have := joined_off2 s t H hd m w hs ht hL h1 h2
      rw [h1, h2] at this; exact this
  · cases h2 : okS t
    · have := joined_off3 s t H hd m w hs ht hL h1 h2
      rw [h1, h2] at this; exact this
    · exact joined_on s t H hd m w hs ht hL h1 h2 hH

end Go.Proofs.Ytiphooodijbhiaa
