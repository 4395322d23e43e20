/-
  The walks of table[inTwo]: tableOf, adds, count, of the program.
-/
import Derived.Test.YtiphooodijbhiabTableI
set_option linter.unusedVariables false
set_option linter.unusedSimpArgs false
namespace Go.Proofs.Ytiphooodijbhiab
open Go.RowKit

theorem infoTwo : (Try.prog.info? 108).map (fun i => (i.zero, i.size, i.bytes)) = some (some (.agg #[.bool false, .bool false]), 2, 2) := by kernel_rfl

/-- The cells of the first n entries. -/
def pairCells (X Y : Nat → Bool) : Nat → List Value
  | 0 => []
  | n + 1 => pairCells X Y n ++ [.bool (X n), .bool (Y n)]
theorem pairCells_length (X Y : Nat → Bool) (n : Nat) : (pairCells X Y n).length = n * 2 := by
  induction n with
  | zero => rfl
  | succ n ih => show (pairCells X Y n ++ [Value.bool (X n), Value.bool (Y n)]).length = _; rw [List.length_append, ih]; simp; omega
theorem pairCells_at (X Y : Nat → Bool) (n i : Nat) (h : i < n) : (pairCells X Y n)[i * 2]? = some (.bool (X i)) ∧ (pairCells X Y n)[i * 2 + 1]? = some (.bool (Y i)) := by
  induction n with
  | zero => omega
  | succ n ih =>
    show (pairCells X Y n ++ [Value.bool (X n), Value.bool (Y n)])[i * 2]? = _ ∧ (pairCells X Y n ++ [Value.bool (X n), Value.bool (Y n)])[i * 2 + 1]? = _
    have hl := pairCells_length X Y n
    rcases Nat.lt_or_ge i n with e | e
    · rw [List.getElem?_append_left (by omega), List.getElem?_append_left (by omega)]
      exact ih e
    · obtain rfl : i = n := by omega
      rw [List.getElem?_append_right (by omega), List.getElem?_append_right (by omega), hl, Nat.sub_self, show i * 2 + 1 - i * 2 = 1 from by omega]
      exact ⟨rfl, rfl⟩

/-- A slice of the call's own that holds the first n entries. -/
def Tab2 (X Y : Nat → Bool) (n B : Nat) (w : World) (v : Value) : Prop := w.ownsRow B 108 2 v n (pairCells X Y n)
/-- A slice that holds the first n entries. -/
def Reads2 (w : World) (a : Option Addr) (n : Nat) (X Y : Nat → Bool) : Prop :=
  n = 0 ∨ ∃ g o, a = some ⟨g, o, none⟩ ∧ g < w.heap.size ∧ ∀ i, i < n → w.cell? ⟨g, o + i * 2, none⟩ = some (.bool (X i)) ∧ w.cell? ⟨g, o + i * 2 + 1, none⟩ = some (.bool (Y i))
theorem Reads2.below {w w' : World} {a : Option Addr} {n B : Nat} {X Y : Nat → Bool} (h : Reads2 w a n X Y) (hb : Below B w w') (hB : w.heap.size ≤ B) : Reads2 w' a n X Y := by
  rcases h with h | ⟨g, o, ha, hg, hc⟩
  · exact .inl h
  · exact .inr ⟨g, o, ha, by have := hb.size; omega, fun i hi => ⟨(hb.cell (p := ⟨g, o + i * 2, none⟩) (Nat.lt_of_lt_of_le hg hB)).trans (hc i hi).1, (hb.cell (p := ⟨g, o + i * 2 + 1, none⟩) (Nat.lt_of_lt_of_le hg hB)).trans (hc i hi).2⟩⟩
theorem Tab2.reads {X Y : Nat → Bool} {n B c : Nat} {w : World} {a : Option Addr} (h : Tab2 X Y n B w (.slice a n c)) : Reads2 w a n X Y := by
  obtain ⟨h1, h2⟩ := h
  rcases h2 with ⟨hv, h0⟩ | ⟨g, cap, cur, hv, hg, hh, hn', hm, hs, ht⟩
  · exact .inl h0
  · right
    injection hv with ha hn2 hc
    subst ha
    have hlt : g < w.heap.size := by
      rcases Nat.lt_or_ge g w.heap.size with h | h
      · exact h
      · rw [Array.getElem?_eq_none h] at hh; cases hh
    refine ⟨g, 0, rfl, hlt, fun i hi => ?_⟩
    have e : ∀ j, j < n * 2 → cur[j]? = (pairCells X Y n)[j]? := fun j hj => by
      rw [← Array.getElem?_toList]
      have : (cur.toList.take (n * 2))[j]? = (pairCells X Y n)[j]? := by rw [ht]
      rw [List.getElem?_take_of_lt (by omega)] at this
      exact this
    obtain ⟨k1, k2⟩ := pairCells_at X Y n i hi
    simp only [Nat.zero_add, World.cell?, hh]
    exact ⟨(e _ (by omega)).trans k1, (e _ (by omega)).trans k2⟩

structure Next2 (K : Nat) (lb : Array Value) (X Y : Nat → Bool) (N : Nat) (w : World) : Prop where
  enters : ∀ args w, (callFunc K args).run Try.prog w = .ok (.enter K args) w
  gives : ∀ (W : World) (a : Option Addr) (n c : Nat), Below w.heap.size w W → n < N → Reads2 W a n X Y → Calls Try.prog K (#[.slice a n c] ++ lb) W fun e w' => e = .returned (.agg #[.bool (X n), .bool (Y n)]) ∧ Below W.heap.size W w'

structure Tab2Loop (X Y : Nat → Bool) (k : Nat) (w wr : World) (v : Value) : Prop where
  own : Tab2 X Y k w.heap.size wr v
  below : Below w.heap.size w wr
theorem Tab2Loop.step {X Y : Nat → Bool} {k : Nat} {w wr w' : World} {v : Value} (l : Tab2Loop X Y k w wr v) (hb : Below wr.heap.size wr w') : Tab2Loop X Y k w w' v :=
  ⟨own_below l.own hb (Nat.le_refl _), l.below.trans (hb.mono l.below.size)⟩
theorem Tab2Loop.grow {X Y : Nat → Bool} {k : Nat} {w wr w' : World} {u v' : Value} {o : Obj} (l : Tab2Loop X Y k w wr u)
    (hown : w'.ownsRow w.heap.size 108 2 v' (k + 1) (pairCells X Y k ++ [.bool (X k), .bool (Y k)])) (hgrow : (wr.alloc o).grownBy w' u.ownBlock) : Tab2Loop X Y (k + 1) w w' v' :=
  ⟨hown, (l.below.alloc l.below.size o).grown hgrow (by have := l.below.size; simp; omega) (fun j hj => (l.own.lt j hj).1)⟩

set_option maxRecDepth 100000 in
set_option maxHeartbeats 2000000 in
theorem tableOf2_any (K : Nat) (lb : Array Value) (X Y : Nat → Bool) (N : Nat) (w : World) (hG : Next2 K lb X Y N w) (hN : N ≤ 5000) :
    Calls Try.prog 117 #[.int .i64 N, .func (.func K) #[] lb] w fun e w' => ∃ a c, e = .returned (.slice a N c) ∧ Reads2 w' a N X Y ∧ Below w.heap.size w w' := by
  obtain ⟨i0, hi, hz0, hz1, hz2⟩ := info_parts infoTwo
  have HGV := Lib.hid hG.gives
  have eK := hG.enters
  clear hG
  go_enter Try.func117, Try.ntmps117
  go_wp2_with (at_make; refine wpList_make_own _ rfl _ _ 104 rfl w.heap.size 108 i0 (.agg #[.bool false, .bool false]) 2 Try.underlying104 hi hz0 hz1 .i64 .i64 _ N rfl rfl rfl ?b1 ?b2 (Nat.le_refl _) ?_)
  case b1 => rw [hz2]; omega
  case b2 => unfold maxLen; omega
  intro w1 hown1 hgrow1
  have HL0 : Hid (Tab2Loop X Y 0 w w1 (.slice (some ⟨w.heap.size, 0, none⟩) 0 N)) := Lib.hid ⟨hown1, (Below.refl w.heap.size w).grown hgrow1 (Nat.le_refl _) (fun j hj => by cases hj)⟩
  clear hown1 hgrow1
  go_wp2
  go_loopw [5, 9] (fun v i wr => ∃ k : Nat, k ≤ N ∧ i = .int .i64 k ∧ Tab2Loop X Y k w wr v) (fun _ i _ => N - (intOf i).toNat)
  case atStart => exact ⟨0, Nat.zero_le _, rfl, HL0.out⟩
  case round =>
    obtain ⟨k, hk, rfl, hl⟩ := hrel
    obtain ⟨a, c, rfl⟩ := own_form hl.own
    by_cases hlt : k < N
    · have hcall := HGV.out wr a k c hl.below hlt hl.own.reads
      have HL := Lib.hid hl
      clear hl
      go_wp2_with fail
      refine hcall.mono ?_
      rintro e w3 ⟨rfl, hb3⟩
      have HL3 := Lib.hid (HL.out.step hb3)
      clear hb3 hcall HL
      go_wp2_with
        (at_builtin; refine wpList_append_own _ rfl _ _ 104 rfl w.heap.size 108 i0 (.agg #[.bool false, .bool false]) 2 2 Try.underlying104 hi hz0 hz1 hz2 rfl (by decide) _ _ _ rfl (World.ownsRow.alloc HL3.out.own _) ⟨w3.heap.size, 0, none⟩ 1 1 [.bool (X k), .bool (Y k)] rfl rfl ?c1 ?c2 ?c3 ?c4 ?c5 ?_)
      case c1 =>
        intro j u hj
        match j, hj with
        | 0, hj => simp at hj; subst hj; simp [Addr.add]
        | 1, hj => simp at hj; subst hj; simp [Addr.add]
      case c2 => intro u hu; simp at hu; rcases hu with rfl | rfl <;> rfl
      case c3 => unfold maxLen; omega
      case c4 => omega
      case c5 => have := HL3.out.below.size; simp; omega
      intro v' w4 hown4 hgrow _
      have HL4 := Lib.hid (HL3.out.grow hown4 hgrow)
      clear hown4 hgrow
      go_wp2
      go_roundw
      case rel => exact ⟨k + 1, by omega, by go_num, HL4.out⟩
      case measure => simp [intOf]; omega
    · obtain rfl : k = N := by omega
      have HL := Lib.hid hl
      clear hl
      go_wp2
      go_ret
      exact ⟨a, c, rfl, HL.out.own.reads, HL.out.below⟩

set_option maxHeartbeats 400000 in
theorem theY_call (a b : Bool) (w : World) : Calls Try.prog 120 #[.agg #[.bool a, .bool b]] w fun e w' => e = .returned (.bool b) ∧ Below w.heap.size w w' := by
  go_enter Try.func120, Try.ntmps120
  go_wp2
  go_ret
  exact ⟨rfl, (Below.refl _ _).alloc (Nat.le_refl _) _⟩
set_option maxHeartbeats 400000 in
theorem theX_call (a b : Bool) (w : World) : Calls Try.prog 83 #[.agg #[.bool a, .bool b]] w fun e w' => e = .returned (.bool a) ∧ Below w.heap.size w w' := by
  go_enter Try.func83, Try.ntmps83
  go_wp2
  go_ret
  exact ⟨rfl, (Below.refl _ _).alloc (Nat.le_refl _) _⟩

set_option maxRecDepth 100000 in
set_option maxHeartbeats 2000000 in
theorem adds2_any (a : Option Addr) (n c x : Nat) (X Y f : Nat → Bool) (T R : ByteArray) (w : World) (hr : Reads2 w a n X Y) (hT : Tells f T R) (hnx : n ≤ x) (hx : x ≤ 5000) :
    Calls Try.prog 119 #[.slice a n c, .int .i64 x, .agg #[.string T, .string R], .func (.func 120) #[] #[]] w fun e w' => e = .returned (.bool (someF (addT f Y x) 0 n)) ∧ Below w.heap.size w w' := by
  have HR := Lib.hid hr
  have HT := Lib.hid hT
  clear hr hT
  go_enter Try.func119, Try.ntmps119
  have HL0 := Lib.hid (addLoop_start T R w)
  go_wp2
  go_loopw [13] (fun i wr => ∃ k : Nat, k ≤ n ∧ i = .int .i64 k ∧ someF (addT f Y x) 0 k = false ∧ AddLoop T R w wr) (fun i _ => n - (intOf i).toNat)
  case atStart => exact ⟨0, Nat.zero_le _, rfl, rfl, HL0.out⟩
  case round =>
    obtain ⟨k, hk, rfl, hso, hl⟩ := hrel
    by_cases hlt : k < n
    · obtain ⟨g, o, rfl, hg, hcells⟩ := (HR.out.below hl.below (Nat.le_refl _)).resolve_left (by omega)
      obtain ⟨c0, c1⟩ := hcells k hlt
      have hE : ∀ args w, (callFunc 120 args).run Try.prog w = .ok (.enter 120 args) w := fun _ _ => rfl
      have HL := Lib.hid hl
      have hki : (k : Int) < (n : Int) := by omega
      clear hl hcells hg
      cases hv : Y k
      · rw [hv] at c1
        have HS : Hid (someF (addT f Y x) 0 (k + 1) = false) := Lib.hid (by rw [someF_next hso (c := false) (by unfold addT; rw [Nat.zero_add, hv]; rfl)]; rfl)
        clear hv hso
        go_wp2_with fail
        refine (theY_call (X k) false _).mono ?_
        rintro e w3 ⟨rfl, hb3⟩
        have HL3 := Lib.hid ((HL.out.step ((Below.refl _ _).alloc (Nat.le_refl _) _)).step hb3)
        clear hb3 c0 c1
        go_wp2
        go_roundw
        case rel => exact ⟨k + 1, by omega, by go_num, HS.out, HL3.out⟩
        case measure => simp [intOf]; omega
      · rw [hv] at c1
        obtain ⟨y, hy⟩ : ∃ y, y = x - k := ⟨_, rfl⟩
        have hyi : (x : Int) - (k : Int) = (y : Int) := by omega
        have hyx : y ≤ 5000 := by omega
        cases hf : f y
        · have HS : Hid (someF (addT f Y x) 0 (k + 1) = false) := Lib.hid (by rw [someF_next hso (c := false) (by unfold addT; rw [Nat.zero_add, hv, ← hy, hf]; rfl)]; rfl)
          have hcall := fun W => tells_has HT.out y W (by omega)
          rw [hf] at hcall
          clear hv hso hf hy
          go_wp2_with fail
          refine (theY_call (X k) true _).mono ?_
          rintro e w3 ⟨rfl, hb3⟩
          have HL3 := Lib.hid ((HL.out.step ((Below.refl _ _).alloc (Nat.le_refl _) _)).step hb3)
          have q0 := HL3.out.q0
          have q1 := HL3.out.q1
          clear hb3 c0 c1
          go_wp2_with fail
          refine (hcall _).mono ?_
          rintro e w4 ⟨rfl, hb4⟩
          have HL4 := Lib.hid (HL3.out.step hb4)
          clear hb4 q0 q1 hcall
          go_wp2
          go_roundw
          case rel => exact ⟨k + 1, by omega, by go_num, HS.out, HL4.out⟩
          case measure => simp [intOf]; omega
        · have HS : Hid (someF (addT f Y x) 0 n = true) := Lib.hid ((someF_iff _ _ _).2 ⟨k, hlt, by unfold addT; rw [Nat.zero_add, hv, ← hy, hf]; rfl⟩)
          have hcall := fun W => tells_has HT.out y W (by omega)
          rw [hf] at hcall
          clear hv hso hf hy
          go_wp2_with fail
          refine (theY_call (X k) true _).mono ?_
          rintro e w3 ⟨rfl, hb3⟩
          have HL3 := Lib.hid ((HL.out.step ((Below.refl _ _).alloc (Nat.le_refl _) _)).step hb3)
          have q0 := HL3.out.q0
          have q1 := HL3.out.q1
          clear hb3 c0 c1
          go_wp2_with fail
          refine (hcall _).mono ?_
          rintro e w4 ⟨rfl, hb4⟩
          have HL4 := Lib.hid (HL3.out.step hb4)
          clear hb4 q0 q1 hcall
          go_wp2
          go_ret
          exact ⟨ret_bool HS.out.symm, HL4.out.below⟩
    · obtain rfl : k = n := by omega
      have HL := Lib.hid hl
      have HS := Lib.hid hso
      clear hl hso
      go_wp2
      go_ret
      exact ⟨ret_bool HS.out.symm, HL.out.below⟩

set_option maxRecDepth 100000 in
set_option maxHeartbeats 2000000 in
theorem count2_any (a : Option Addr) (n c : Nat) (X Y : Nat → Bool) (w : World) (hr : Reads2 w a n X Y) (hn : n ≤ 5000) :
    Calls Try.prog 82 #[.slice a n c, .func (.func 83) #[] #[]] w fun e w' => e = .returned (.int .i64 (countF X n)) ∧ Below w.heap.size w w' := by
  have HR := Lib.hid hr
  clear hr
  go_enter Try.func82, Try.ntmps82
  go_wp2
  go_loopw [5, 10] (fun v i wr => ∃ k : Nat, k ≤ n ∧ i = .int .i64 k ∧ v = .int .i64 (countF X k) ∧ Below w.heap.size w wr) (fun _ i _ => n - (intOf i).toNat)
  case atStart => exact ⟨0, Nat.zero_le _, rfl, rfl, Below.refl _ _⟩
  case round =>
    obtain ⟨k, hk, rfl, rfl, hl⟩ := hrel
    have hcl := countF_le X k
    by_cases hlt : k < n
    · obtain ⟨g, o, rfl, _, hcells⟩ := (HR.out.below hl (Nat.le_refl _)).resolve_left (by omega)
      obtain ⟨c0, c1⟩ := hcells k hlt
      have hE : ∀ args w, (callFunc 83 args).run Try.prog w = .ok (.enter 83 args) w := fun _ _ => rfl
      have HL := Lib.hid hl
      have hki : (k : Int) < (n : Int) := by omega
      clear hl hcells
      obtain ⟨m, hm⟩ : ∃ m, m = countF X k := ⟨_, rfl⟩
      rw [← hm] at hcl ⊢
      cases hv : X k
      · rw [hv] at c0
        have HS : Hid (countF X (k + 1) = m) := Lib.hid (by rw [countF_off hv, hm])
        clear hv hm
        go_wp2_with fail
        refine (theX_call false (Y k) _).mono ?_
        rintro e w3 ⟨rfl, hb3⟩
        have HL3 := Lib.hid (below_step (HL.out.alloc HL.out.size _) hb3)
        clear hb3 c0 c1
        go_wp2
        go_roundw
        case rel => exact ⟨k + 1, by omega, by go_num, by rw [HS.out], HL3.out⟩
        case measure => simp [intOf]; omega
      · rw [hv] at c0
        have HS : Hid (countF X (k + 1) = m + 1) := Lib.hid (by rw [countF_on hv, hm])
        clear hv hm
        go_wp2_with fail
        refine (theX_call true (Y k) _).mono ?_
        rintro e w3 ⟨rfl, hb3⟩
        have HL3 := Lib.hid (below_step (HL.out.alloc HL.out.size _) hb3)
        clear hb3 c0 c1
        go_wp2
        go_roundw
        case rel => exact ⟨k + 1, by omega, by go_num, by rw [HS.out]; go_num, HL3.out⟩
        case measure => simp [intOf]; omega
    · obtain rfl : k = n := by omega
      have HL := Lib.hid hl
      clear hl
      go_wp2
      go_ret
      exact ⟨rfl, HL.out⟩

end Go.Proofs.Ytiphooodijbhiab
