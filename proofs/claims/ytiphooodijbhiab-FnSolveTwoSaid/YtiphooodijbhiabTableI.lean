/-
  The walks of table[bool]: tableOf, adds; the least set's first numbers (equation.least), of the program.
-/
import Derived.Test.YtiphooodijbhiabSolveI
set_option linter.unusedVariables false
set_option linter.unusedSimpArgs false
namespace Go.Proofs.Ytiphooodijbhiab
open Go.RowKit

/-- A slice of the call's own that holds the first k truths of h. -/
def TabOwn (h : Nat → Bool) (k B : Nat) (w : World) (v : Value) : Prop := w.ownsRow B 4 1 v k ((part h 0 k).map Value.bool)
theorem TabOwn.reads {h : Nat → Bool} {k B c : Nat} {w : World} {a : Option Addr} (o : TabOwn h k B w (.slice a k c)) : Reads w a k (part h 0 k) := reads_own2 o (part_length h 0 k)
/-- A function value that tells each next truth of h out of all lesser ones. -/
structure NextGives (K : Nat) (lb : Array Value) (h : Nat → Bool) (N : Nat) (w : World) : Prop where
  enters : ∀ args w, (callFunc K args).run Try.prog w = .ok (.enter K args) w
  gives : ∀ (W : World) (a : Option Addr) (n c : Nat), Below w.heap.size w W → n < N → Reads W a n (part h 0 n) → Calls Try.prog K (#[.slice a n c] ++ lb) W fun e w' => e = .returned (.bool (h n)) ∧ Below W.heap.size W w'

structure TabLoop (h : Nat → Bool) (k : Nat) (w wr : World) (v : Value) : Prop where
  own : TabOwn h k w.heap.size wr v
  below : Below w.heap.size w wr
theorem TabLoop.step {h : Nat → Bool} {k : Nat} {w wr w' : World} {v : Value} (l : TabLoop h k w wr v) (hb : Below wr.heap.size wr w') : TabLoop h k w w' v :=
  ⟨own_below l.own hb (Nat.le_refl _), l.below.trans (hb.mono l.below.size)⟩
theorem TabLoop.grow {h : Nat → Bool} {k : Nat} {w wr w' : World} {u v' : Value} {o : Obj} (l : TabLoop h k w wr u)
    (hown : w'.ownsRow w.heap.size 4 1 v' (k + 1) ((part h 0 k).map Value.bool ++ [.bool (h k)])) (hgrow : (wr.alloc o).grownBy w' u.ownBlock) : TabLoop h (k + 1) w w' v' := by
  refine ⟨?_, (l.below.alloc l.below.size o).grown hgrow (by have := l.below.size; simp; omega) (fun j hj => (l.own.lt j hj).1)⟩
  unfold TabOwn
  rw [part_snoc, List.map_append, List.map_singleton, Nat.zero_add]
  exact hown

set_option maxRecDepth 100000 in
set_option maxHeartbeats 2000000 in
theorem tableOf_any (K : Nat) (lb : Array Value) (h : Nat → Bool) (N : Nat) (w : World) (hG : NextGives K lb h N w) (hN : N ≤ 5000) :
    Calls Try.prog 112 #[.int .i64 N, .func (.func K) #[] lb] w fun e w' => ∃ a c, e = .returned (.slice a N c) ∧ Reads w' a N (part h 0 N) ∧ Below w.heap.size w w' := by
  obtain ⟨i0, hi, hz0, hz1, hz2⟩ := info_parts Try.infoBool
  have HGV := Lib.hid hG.gives
  have eK := hG.enters
  clear hG
  go_enter Try.func112, Try.ntmps112
  go_wp2_with (at_make; refine wpList_make_own _ rfl _ _ 96 rfl w.heap.size 4 i0 (.bool false) 1 Try.underlying96 hi hz0 hz1 .i64 .i64 _ N rfl rfl rfl ?b1 ?b2 (Nat.le_refl _) ?_)
  case b1 => rw [hz2]; omega
  case b2 => unfold maxLen; omega
  intro w1 hown1 hgrow1
  have HL0 : Hid (TabLoop h 0 w w1 (.slice (some ⟨w.heap.size, 0, none⟩) 0 N)) := Lib.hid ⟨hown1, (Below.refl w.heap.size w).grown hgrow1 (Nat.le_refl _) (fun j hj => by cases hj)⟩
  clear hown1 hgrow1
  go_wp2
  go_loopw [5, 9] (fun v i wr => ∃ k : Nat, k ≤ N ∧ i = .int .i64 k ∧ TabLoop h k w wr v) (fun _ i _ => N - (intOf i).toNat)
  case atStart => exact ⟨0, Nat.zero_le _, rfl, HL0.out⟩
  case round =>
    obtain ⟨k, hk, rfl, hl⟩ := hrel
    obtain ⟨a, c, rfl⟩ := own_form hl.own
    by_cases hlt : k < N
    · have hcall := HGV.out wr a k c hl.below hlt hl.own.reads
      have HL := Lib.hid hl
      clear hl
      go_wp2_with fail
      refine hcall.mono ?_
      rintro e w3 ⟨rfl, hb3⟩
      have HL3 := Lib.hid (HL.out.step hb3)
      clear hb3 hcall HL
      go_wp2_with
        (at_builtin; refine wpList_append_own _ rfl _ _ 96 rfl w.heap.size 4 i0 (.bool false) 1 1 Try.underlying96 hi hz0 hz1 hz2 rfl (by decide) _ _ _ rfl (World.ownsRow.alloc HL3.out.own _) ⟨w3.heap.size, 0, none⟩ 1 1 [.bool (h k)] rfl rfl ?c1 ?c2 ?c3 ?c4 ?c5 ?_)
      case c1 =>
        intro j u hj
        match j, hj with
        | 0, hj => simp at hj; subst hj; simp [Addr.add]
      case c2 => intro u hu; simp at hu; subst hu; rfl
      case c3 => unfold maxLen; omega
      case c4 => omega
      case c5 => have := HL3.out.below.size; simp; omega
      intro v' w4 hown4 hgrow _
      have HL4 := Lib.hid (HL3.out.grow hown4 hgrow)
      clear hown4 hgrow
      go_wp2
      go_roundw
      case rel => exact ⟨k + 1, by omega, by go_num, HL4.out⟩
      case measure => simp [intOf]; omega
    · obtain rfl : k = N := by omega
      have HL := Lib.hid hl
      clear hl
      go_wp2
      go_ret
      exact ⟨a, c, rfl, HL.out.own.reads, HL.out.below⟩

structure AddLoop (T R : ByteArray) (w wr : World) : Prop where
  q0 : wr.cell? ⟨w.heap.size, 0, none⟩ = some (.string T)
  q1 : wr.cell? ⟨w.heap.size, 1, none⟩ = some (.string R)
  below : Below w.heap.size w wr
theorem AddLoop.step {T R : ByteArray} {w wr w' : World} (l : AddLoop T R w wr) (hb : Below wr.heap.size wr w') : AddLoop T R w w' :=
  ⟨(hb.cell (p := ⟨w.heap.size, 0, none⟩) (lt_of_some l.q0)).trans l.q0, (hb.cell (p := ⟨w.heap.size, 1, none⟩) (lt_of_some l.q1)).trans l.q1, l.below.trans (hb.mono l.below.size)⟩
theorem addLoop_start (T R : ByteArray) (w : World) : AddLoop T R w (w.alloc (.cells #[.string T, .string R] 81)) := by
  obtain ⟨x0, x1⟩ := box_later (w1 := w) (u := .string T) (v := .string R) (T := 81) (Below.refl _ _)
  exact ⟨x0, x1, (Below.refl _ _).alloc (Nat.le_refl _) _⟩
theorem someF_next {g : Nat → Bool} {x k : Nat} {b c : Bool} (h : someF g x k = b) (h2 : g (x + k) = c) : someF g x (k + 1) = (b || c) := by
  rw [show someF g x (k + 1) = (someF g x k || g (x + k)) from rfl, h, h2]

set_option maxHeartbeats 400000 in
theorem isTrue_call (b : Bool) (w : World) : Calls Try.prog 78 #[.bool b] w fun e w' => e = .returned (.bool b) ∧ Below w.heap.size w w' := by
  go_enter Try.func78, Try.ntmps78
  go_wp2
  go_ret
  exact ⟨rfl, Below.refl _ _⟩

set_option maxRecDepth 100000 in
set_option maxHeartbeats 2000000 in
theorem adds_any (a : Option Addr) (n c x : Nat) (h f : Nat → Bool) (T R : ByteArray) (w : World) (hr : Reads w a n (part h 0 n)) (hT : Tells f T R) (hnx : n ≤ x) (hx : x ≤ 5000) :
    Calls Try.prog 114 #[.slice a n c, .int .i64 x, .agg #[.string T, .string R], .func (.func 78) #[] #[]] w fun e w' => e = .returned (.bool (someF (addT f h x) 0 n)) ∧ Below w.heap.size w w' := by
  have HR := Lib.hid hr
  have HT := Lib.hid hT
  clear hr hT
  go_enter Try.func114, Try.ntmps114
  have HL0 := Lib.hid (addLoop_start T R w)
  go_wp2
  go_loopw [13] (fun i wr => ∃ k : Nat, k ≤ n ∧ i = .int .i64 k ∧ someF (addT f h x) 0 k = false ∧ AddLoop T R w wr) (fun i _ => n - (intOf i).toNat)
  case atStart => exact ⟨0, Nat.zero_le _, rfl, rfl, HL0.out⟩
  case round =>
    obtain ⟨k, hk, rfl, hso, hl⟩ := hrel
    by_cases hlt : k < n
    · have HRr := (HR.out.below hl.below (Nat.le_refl _)).cells.resolve_left (by omega)
      obtain ⟨g, o, rfl, hg, hcells⟩ := HRr
      have c0 := hcells k hlt
      rw [part_getD h 0 n k hlt, Nat.zero_add] at c0
      have hE : ∀ args w, (callFunc 78 args).run Try.prog w = .ok (.enter 78 args) w := fun _ _ => rfl
      have HL := Lib.hid hl
      have hki : (k : Int) < (n : Int) := by omega
      clear hl hcells hg
      cases hv : h k
      · rw [hv] at c0
        have HS : Hid (someF (addT f h x) 0 (k + 1) = false) := Lib.hid (by rw [someF_next hso (c := false) (by unfold addT; rw [Nat.zero_add, hv]; rfl)]; rfl)
        clear hv hso
        go_wp2_with fail
        refine (isTrue_call false _).mono ?_
        rintro e w3 ⟨rfl, hb3⟩
        have HL3 := Lib.hid (HL.out.step hb3)
        clear hb3 c0
        go_wp2
        go_roundw
        case rel => exact ⟨k + 1, by omega, by go_num, HS.out, HL3.out⟩
        case measure => simp [intOf]; omega
      · rw [hv] at c0
        obtain ⟨y, hy⟩ : ∃ y, y = x - k := ⟨_, rfl⟩
        have hyi : (x : Int) - (k : Int) = (y : Int) := by omega
        have hyx : y ≤ 5000 := by omega
        cases hf : f y
        · have HS : Hid (someF (addT f h x) 0 (k + 1) = false) := Lib.hid (by rw [someF_next hso (c := false) (by unfold addT; rw [Nat.zero_add, hv, ← hy, hf]; rfl)]; rfl)
          have hcall := fun W => tells_has HT.out y W (by omega)
          rw [hf] at hcall
          clear hv hso hf hy
          go_wp2_with fail
          refine (isTrue_call true _).mono ?_
          rintro e w3 ⟨rfl, hb3⟩
          have HL3 := Lib.hid (HL.out.step hb3)
          have q0 := HL3.out.q0
          have q1 := HL3.out.q1
          clear hb3 c0
          go_wp2_with fail
          refine (hcall _).mono ?_
          rintro e w4 ⟨rfl, hb4⟩
          have HL4 := Lib.hid (HL3.out.step hb4)
          clear hb4 q0 q1 hcall
          go_wp2
          go_roundw
          case rel => exact ⟨k + 1, by omega, by go_num, HS.out, HL4.out⟩
          case measure => simp [intOf]; omega
        · have HS : Hid (someF (addT f h x) 0 n = true) := Lib.hid ((someF_iff _ _ _).2 ⟨k, hlt, by unfold addT; rw [Nat.zero_add, hv, ← hy, hf]; rfl⟩)
          have hcall := fun W => tells_has HT.out y W (by omega)
          rw [hf] at hcall
          clear hv hso hf hy
          go_wp2_with fail
          refine (isTrue_call true _).mono ?_
          rintro e w3 ⟨rfl, hb3⟩
          have HL3 := Lib.hid (HL.out.step hb3)
          have q0 := HL3.out.q0
          have q1 := HL3.out.q1
          clear hb3 c0
          go_wp2_with fail
          refine (hcall _).mono ?_
          rintro e w4 ⟨rfl, hb4⟩
          have HL4 := Lib.hid (HL3.out.step hb4)
          clear hb4 q0 q1 hcall
          go_wp2
          go_ret
          exact ⟨ret_bool HS.out.symm, HL4.out.below⟩
    · obtain rfl : k = n := by omega
      have HL := Lib.hid hl
      have HS := Lib.hid hso
      clear hl hso
      go_wp2
      go_ret
      exact ⟨ret_bool HS.out.symm, HL.out.below⟩

/-- The four cells of an equation's box. -/
structure EquBox (T R T2 R2 : ByteArray) (E : Nat) (w : World) : Prop where
  q0 : w.cell? ⟨E, 0, none⟩ = some (.string T)
  q1 : w.cell? ⟨E, 1, none⟩ = some (.string R)
  q2 : w.cell? ⟨E, 2, none⟩ = some (.string T2)
  q3 : w.cell? ⟨E, 3, none⟩ = some (.string R2)
theorem EquBox.later {T R T2 R2 : ByteArray} {E B : Nat} {w w' : World} (h : EquBox T R T2 R2 E w) (hb : Below B w w') (hE : E < B) : EquBox T R T2 R2 E w' :=
  ⟨(hb.cell (p := ⟨E, 0, none⟩) hE).trans h.q0, (hb.cell (p := ⟨E, 1, none⟩) hE).trans h.q1, (hb.cell (p := ⟨E, 2, none⟩) hE).trans h.q2, (hb.cell (p := ⟨E, 3, none⟩) hE).trans h.q3⟩
theorem equBox_new (T R T2 R2 : ByteArray) (ty : TypeId) (w : World) : EquBox T R T2 R2 w.heap.size (w.alloc (.cells #[.string T, .string R, .string T2, .string R2] ty)) := by
  obtain ⟨e0, e1, e2, e3⟩ := equ_at (heap_alloc_new w (.cells #[.string T, .string R, .string T2, .string R2] ty))
  exact ⟨e0, e1, e2, e3⟩

set_option maxRecDepth 100000 in
set_option maxHeartbeats 2000000 in
theorem least_next (f g : Nat → Bool) (T R T2 R2 : ByteArray) (E : Nat) (a : Option Addr) (n c : Nat) (w : World) (hE : EquBox T R T2 R2 E w) (hA : Tells f T R) (hB : Tells g T2 R2) (hr : Reads w a n (part (lowF f g) 0 n)) (hn : n ≤ 5000) :
    Calls Try.prog 113 #[.slice a n c, .pointer (some ⟨E, 0, none⟩)] w fun e w' => e = .returned (.bool (lowF f g n)) ∧ Below w.heap.size w w' := by
  obtain ⟨q0, q1, q2, q3⟩ := hE
  have hstep := lowF_step f g n
  have hg := fun W => tells_has hB n W (by omega)
  have HR := Lib.hid hr
  have HA := Lib.hid hA
  clear hr hA hB
  cases hv : g n
  · rw [hv] at hg hstep
    rw [Bool.false_or] at hstep
    have HS := Lib.hid hstep
    have hEl := lt_of_some q0
    clear hv hstep
    go_enter Try.func113, Try.ntmps113
    go_wp2_with fail
    refine (hg _).mono ?_
    rintro e w1 ⟨rfl, hb1⟩
    have x0 := (hb1.cell (p := ⟨E, 0, none⟩) hEl).trans q0
    have x1 := (hb1.cell (p := ⟨E, 1, none⟩) hEl).trans q1
    have HR1 := Lib.hid (HR.out.below hb1 (Nat.le_refl _))
    have HB1 := Lib.hid hb1
    clear hb1 hg q0 q1 q2 q3
    go_wp2_with fail
    refine (adds_any a n c n (lowF f g) f T R _ HR1.out HA.out (Nat.le_refl _) hn).mono ?_
    rintro e w2 ⟨rfl, hb2⟩
    have HB2 := Lib.hid (below_step HB1.out hb2)
    clear hb2
    go_wp2
    go_ret
    exact ⟨ret_bool HS.out.symm, HB2.out⟩
  · rw [hv] at hg hstep
    rw [Bool.true_or] at hstep
    have HS := Lib.hid hstep
    clear hv hstep
    go_enter Try.func113, Try.ntmps113
    go_wp2_with fail
    refine (hg _).mono ?_
    rintro e w1 ⟨rfl, hb1⟩
    have HB1 := Lib.hid hb1
    clear hb1 hg q0 q1 q2 q3
    go_wp2
    go_ret
    exact ⟨ret_bool HS.out.symm, HB1.out⟩

set_option maxRecDepth 100000 in
set_option maxHeartbeats 2000000 in
theorem least_any (f g : Nat → Bool) (T R T2 R2 : ByteArray) (N : Nat) (w : World) (hA : Tells f T R) (hB : Tells g T2 R2) (hN : N ≤ 5000) :
    Calls Try.prog 75 #[.agg #[.string T, .string R, .string T2, .string R2], .int .i64 N] w fun e w' => ∃ a c, e = .returned (.slice a N c) ∧ Reads w' a N (part (lowF f g) 0 N) ∧ Below w.heap.size w w' := by
  have HE := Lib.hid (equBox_new T R T2 R2 83 w)
  have HG : Hid (NextGives 113 #[.pointer (some ⟨w.heap.size, 0, none⟩)] (lowF f g) N (w.alloc (.cells #[.string T, .string R, .string T2, .string R2] 83))) :=
    Lib.hid ⟨fun _ _ => rfl, fun W a n c hb hn hr => least_next f g T R T2 R2 w.heap.size a n c W (HE.out.later hb (by simp)) hA hB hr (by omega)⟩
  go_enter Try.func75, Try.ntmps75
  go_wp2_with fail
  refine (tableOf_any _ _ (lowF f g) N _ HG.out hN).mono ?_
  rintro e w1 ⟨a, c, rfl, hr, hb⟩
  have HR := Lib.hid hr
  have HB := Lib.hid (((Below.refl w.heap.size w).alloc (Nat.le_refl _) (.cells #[.string T, .string R, .string T2, .string R2] 83)).trans (hb.mono (by simp)))
  clear hr hb
  go_wp2
  go_ret
  exact ⟨a, c, rfl, HR.out, HB.out⟩

end Go.Proofs.Ytiphooodijbhiab
