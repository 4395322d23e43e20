/-
  The walk of impl.made.text: the tidy text of what is made, or none if it would be too long; the set is told by a function value.
-/
import Derived.Test.YtiphooodijbhiaaLoose
import Derived.Test.YtiphooodijbhiaaHasI
import Derived.Lib.MinMax
import Derived.Shelf.Abstract
import Derived.Laws.EntriesVeiled
namespace Go.Proofs.Ytiphooodijbhiaa
open Go.RowKit

/-- The function value K with what it holds answers g, of each number less than N, in every world that w has grown to. -/
structure Gives (K : Nat) (lb : Array Value) (g : Nat → Bool) (N : Nat) (w : World) : Prop where
  enters : ∀ args w, (callFunc K args).run Try.prog w = .ok (.enter K args) w
  gives : ∀ (W : World) (n : Nat), Below w.heap.size w W → n < N → Calls Try.prog K (#[.int .i64 n] ++ lb) W fun e w' => e = .returned (.bool (g n)) ∧ Below W.heap.size W w'

/-- The world of the first loop: the box of what is made, and the first numbers. -/
structure MadeLoop (g : Nat → Bool) (fv : Value) (t r : Nat) (k : Nat) (w wr : World) : Prop where
  q0 : wr.cell? ⟨w.heap.size, 0, none⟩ = some fv
  q1 : wr.cell? ⟨w.heap.size, 1, none⟩ = some (.int .i64 t)
  q2 : wr.cell? ⟨w.heap.size, 2, none⟩ = some (.int .i64 r)
  row : ∃ cur, Row180 wr (w.heap.size + 1) cur ∧ cur.size = 180 ∧ ∀ i, i < k → cur[i]? = some (.bool (g i))
  size : w.heap.size + 2 ≤ wr.heap.size
  below : Below w.heap.size w wr

theorem MadeLoop.step {g : Nat → Bool} {fv : Value} {t r k : Nat} {w wr w1 : World} (h : MadeLoop g fv t r k w wr) (hb : Below wr.heap.size wr w1) : MadeLoop g fv t r k w w1 := by
  have hs := h.size
  have hs1 := hb.size
  obtain ⟨cur, h1, h2, h3⟩ := h.row
  exact ⟨(hb.cell (p := ⟨w.heap.size, 0, none⟩) (by show w.heap.size < _; omega)).trans h.q0, (hb.cell (p := ⟨w.heap.size, 1, none⟩) (by show w.heap.size < _; omega)).trans h.q1,
    (hb.cell (p := ⟨w.heap.size, 2, none⟩) (by show w.heap.size < _; omega)).trans h.q2, ⟨cur, h1.below hb (by omega), h2, h3⟩, by omega, h.below.trans (hb.mono (by omega))⟩

theorem MadeLoop.store {g : Nat → Bool} {fv : Value} {t r k : Nat} {w wr : World} (h : MadeLoop g fv t r k w wr) (hk : k < 180) : MadeLoop g fv t r (k + 1) w (wr.setCell ⟨w.heap.size + 1, k, none⟩ (.bool (g k))) := by
  obtain ⟨cur, h1, h2, h3⟩ := h.row
  have hs := h.size
  refine ⟨(World.cell?_setCell_other _ _ _ _ (by simp)).trans h.q0, (World.cell?_setCell_other _ _ _ _ (by simp)).trans h.q1, (World.cell?_setCell_other _ _ _ _ (by simp)).trans h.q2,
    ⟨_, heap_setCell_same wr _ _ _ _ _ h1, by simpa using h2, ?_⟩, by simpa [World.setCell] using hs, h.below.setCell (by show w.heap.size ≤ w.heap.size + 1; omega) _⟩
  intro i hi
  rw [Array.getElem?_setIfInBounds]
  by_cases e : k = i
  · subst e; rw [if_pos rfl, if_pos (by omega)]
  · rw [if_neg e]; exact h3 i (by omega)

theorem MadeLoop.cell {g : Nat → Bool} {fv : Value} {t r k : Nat} {w wr : World} (h : MadeLoop g fv t r k w wr) (hk : k < 180) :
    (∃ u, wr.cell? ⟨w.heap.size + 1, k, none⟩ = some u) ∧ wr.frozen? ⟨w.heap.size + 1, k, none⟩ = false := by
  obtain ⟨cur, h1, h2, h3⟩ := h.row
  refine ⟨⟨cur[k]'(by omega), ?_⟩, frozen_of_row wr _ _ _ _ h1⟩
  rw [cell_of_row wr _ _ _ _ _ h1]
  exact Array.getElem?_eq_getElem (by omega)

theorem MadeLoop.done {g : Nat → Bool} {fv : Value} {t r : Nat} {w wr : World} (h : MadeLoop g fv t r 180 w wr) : Row180 wr (w.heap.size + 1) (firstV g) := by
  obtain ⟨cur, h1, h2, h3⟩ := h.row
  rw [← firstV_of g cur h2 h3]; exact h1

theorem madeLoop_start (g : Nat → Bool) (fv : Value) (t r : Nat) (w : World) :
    MadeLoop g fv t r 0 w ((w.alloc (.cells #[fv, .int .i64 t, .int .i64 r] 135)).alloc (.cells Try.zeroCells82 82)) := by
  refine ⟨?_, ?_, ?_, ⟨_, ?_, zeroFirst_size, fun i hi => absurd hi (Nat.not_lt_zero _)⟩, by simp, ?_⟩
  · rw [World.cell?_alloc_past _ _ _ (by simp), World.cell?_alloc_at _ _ _ _ rfl]; rfl
  · rw [World.cell?_alloc_past _ _ _ (by simp), World.cell?_alloc_at _ _ _ _ rfl]; rfl
  · rw [World.cell?_alloc_past _ _ _ (by simp), World.cell?_alloc_at _ _ _ _ rfl]; rfl
  · have := heap_alloc_new (w.alloc (.cells #[fv, .int .i64 t, .int .i64 r] 135)) (.cells Try.zeroCells82 82)
    simpa [Row180] using this
  · exact ((Below.refl _ _).alloc (Nat.le_refl _) _).alloc (by simp) _

/-- The world of the second loop: the box of what is made, and that of the text's parts. -/
structure HeldLoop (fv : Value) (t r : Nat) (T R : ByteArray) (D : Nat) (w wr : World) : Prop where
  q0 : wr.cell? ⟨w.heap.size, 0, none⟩ = some fv
  q1 : wr.cell? ⟨w.heap.size, 1, none⟩ = some (.int .i64 t)
  q2 : wr.cell? ⟨w.heap.size, 2, none⟩ = some (.int .i64 r)
  d0 : wr.cell? ⟨D, 0, none⟩ = some (.string T)
  d1 : wr.cell? ⟨D, 1, none⟩ = some (.string R)
  lt : D < wr.heap.size
  l0 : w.heap.size < wr.heap.size
  below : Below w.heap.size w wr

theorem HeldLoop.step {fv : Value} {t r : Nat} {T R : ByteArray} {D : Nat} {w wr w1 : World} (h : HeldLoop fv t r T R D w wr) (hb : Below wr.heap.size wr w1) : HeldLoop fv t r T R D w w1 := by
  have hs := hb.size
  have h0 := h.l0
  exact ⟨(hb.cell (p := ⟨w.heap.size, 0, none⟩) (by show w.heap.size < _; omega)).trans h.q0, (hb.cell (p := ⟨w.heap.size, 1, none⟩) (by show w.heap.size < _; omega)).trans h.q1,
    (hb.cell (p := ⟨w.heap.size, 2, none⟩) (by show w.heap.size < _; omega)).trans h.q2, (hb.cell (p := ⟨D, 0, none⟩) h.lt).trans h.d0, (hb.cell (p := ⟨D, 1, none⟩) h.lt).trans h.d1,
    Nat.lt_of_lt_of_le h.lt hs, by omega, h.below.trans (hb.mono (by omega))⟩

theorem HeldLoop.drew {fv : Value} {t r : Nat} {T R : ByteArray} {D : Nat} {w wr : World} (h : HeldLoop fv t r T R D w wr) : HeldLoop fv t r T R D w wr.drew := h.step (Below.refl _ _).drew

theorem heldLoop_start {g : Nat → Bool} {fv : Value} {t r : Nat} {w w1 : World} (T R : ByteArray) (h : MadeLoop g fv t r 180 w w1) :
    HeldLoop fv t r T R w1.heap.size w (w1.alloc (.cells #[.string T, .string R] 84)) := by
  have h0 := h.size
  have hb : Below w1.heap.size w1 (w1.alloc (.cells #[.string T, .string R] 84)) := (Below.refl _ _).alloc (Nat.le_refl _) _
  refine ⟨(hb.cell (p := ⟨w.heap.size, 0, none⟩) (by show w.heap.size < _; omega)).trans h.q0, (hb.cell (p := ⟨w.heap.size, 1, none⟩) (by show w.heap.size < _; omega)).trans h.q1,
    (hb.cell (p := ⟨w.heap.size, 2, none⟩) (by show w.heap.size < _; omega)).trans h.q2, ?_, ?_, by simp, by simp; omega, h.below.trans (hb.mono (by omega))⟩
  · rw [World.cell?_alloc_at _ _ _ _ rfl]; rfl
  · rw [World.cell?_alloc_at _ _ _ _ rfl]; rfl

theorem leaves_size {g : Nat → Bool} {T : ByteArray} (h : Leaves g T) : T.size ≤ 1048576 := by
  rw [set_size h.1]
  have h1 := setT_le h.1
  have h2 := setR_le h.1
  omega

set_option maxRecDepth 100000 in
set_option maxHeartbeats 2000000 in
theorem made_upto (N K : Nat) (lb : Array Value) (g : Nat → Bool) (t r : Nat) (m : Int) (w : World) (hN : max 180 (max 60 t + 60 + r) ≤ N) (hG : Gives K lb g N w) (hr : 0 < r) (ht : t ≤ 2000) (hr2 : r ≤ 4000)
    (hper : ∀ n, t ≤ n → g (n + r) = g n) (hL : LibAt m w) :
    Calls Try.prog 108 #[.agg #[.func (.func K) #[] lb, .int .i64 t, .int .i64 r]] w fun e w' => MakeEnd true g e ∧ Below w.heap.size w w' := by
  have HP := Lib.hid hper
  have HGV := Lib.hid hG.gives
  have HLB := Lib.hid hL
  have eK := hG.enters
  clear hper hG hL
  go_enter Try.func108, Try.ntmps108
  go_wp2
  go_loopw [10] (fun i wr => ∃ k : Nat, k ≤ 180 ∧ i = .int .i64 k ∧ MadeLoop g (.func (.func K) #[] lb) t r k w wr) (fun i _ => 180 - (intOf i).toNat)
  case atStart => exact ⟨0, Nat.zero_le _, rfl, madeLoop_start _ _ _ _ _⟩
  case round =>
    obtain ⟨k, hk, rfl, hl⟩ := hrel
    by_cases hlt : k < 180
    · have q0 := hl.q0
      have HL := Lib.hid hl
      clear hl
      go_wp2_with fail
      refine (HGV.out wr k HL.out.below (by omega)).mono ?_
      rintro e w3 ⟨rfl, hb3⟩
      have HL3 := Lib.hid (HL.out.step hb3)
      obtain ⟨⟨u, hu⟩, hf⟩ := HL3.out.cell hlt
      have HL4 := Lib.hid (HL3.out.store hlt)
      clear hb3 q0
      go_wp2
      go_roundw
      case rel => exact ⟨k + 1, by omega, by go_num, HL4.out⟩
      case measure => simp [intOf]; omega
    · obtain rfl : k = 180 := by omega
      have HL := Lib.hid hl
      clear hl
      go_wp2_with (refine wpList_load_row rfl 82 _ rfl (w.heap.size + 1) rfl 82 (firstV g) (0, 0) _ HL.out.done Try.underlying82 rfl (by rw [firstV_size]; exact Try.infoFirst) ?_)
      refine (text_leaves g _).mono ?_
      rintro e w3 ⟨⟨T, hT, rfl⟩, hb3⟩
      have HL3 := Lib.hid (HL.out.step hb3)
      have HT := Lib.hid hT
      clear hb3 hT
      go_wp2_with fail
      refine (split_on T m _ (leaves_size HT.out) (HLB.out.below HL3.out.below) HT.out.1).mono ?_
      rintro e w4 ⟨T2, R2, rfl, hb4, hsp⟩
      have HL4 := Lib.hid (HL3.out.step hb4)
      have HSP := Lib.hid hsp
      have HS := Lib.hid (heldLoop_start T2 R2 HL4.out)
      have q1 := HS.out.q1
      have q2 := HS.out.q2
      clear hb4 hsp
      go_wp2
      go_loopw [34] (fun i wr => ∃ k : Nat, k ≤ max 60 t + 60 + r ∧ i = .int .i64 k ∧ (∀ n, n < k → fS T n = g n) ∧ HeldLoop (.func (.func K) #[] lb) t r T2 R2 w4.heap.size w wr) (fun i _ => max 60 t + 60 + r + 1 - (intOf i).toNat)
      case atStart => exact ⟨0, Nat.zero_le _, rfl, fun n hn => absurd hn (Nat.not_lt_zero _), HS.out⟩
      case round =>
        obtain ⟨k, hk, rfl, hall, hl⟩ := hrel
        have HA := Lib.hid hall
        clear hall
        by_cases hlt : k < max 60 t + 60 + r
        · have q0 := hl.q0
          have d0 := hl.d0
          have d1 := hl.d1
          have K1 : ∀ W' : World, Calls Try.prog 88 #[.agg #[.string T2, .string R2], .int .i64 k] W' fun e w' => e = .returned (.bool (fS T k)) ∧ Below W'.heap.size W' w' := fun W' => by
            have := has_on T T2 R2 k W' HSP.out (by omega)
            rw [hasI_nat] at this
            exact this
          have K2 : ∀ W' : World, Below w.heap.size w W' → Calls Try.prog K (#[.int .i64 k] ++ lb) W' fun e w' => e = .returned (.bool (g k)) ∧ Below W'.heap.size W' w' := fun W' hb => HGV.out W' k hb (by omega)
          have HBD := Lib.hid hl.drew
          have hki : (k : Int) < max 60 (t : Int) + 60 + (r : Int) := by omega
          clear hl
          by_cases he : fS T k = g k
          · rw [he] at K1
            have HK1 := Lib.hid K1
            have HK2 := Lib.hid K2
            have HE := Lib.hid he
            clear K1 K2 he
            have hnb : (g k != g k) = false := by simp
            go_wp2
            go_region_with (first
              | (go_at_call 88; (with_reducible refine (HK1.out _).mono ?_); rintro e w5 ⟨rfl, hb5⟩; (first | have HN5 := Lib.hid (HBD.out.step hb5) | have HN5 := Lib.hid (HN6.out.step hb5)); have z0 := HN5.out.q0)
              | (go_at_fn K; (with_reducible refine (HK2.out _ ?_).mono ?_); (first | exact HBD.out.below | exact HN5.out.below); rintro e w6 ⟨rfl, hb6⟩; (first | have HN6 := Lib.hid (HBD.out.step hb6) | have HN6 := Lib.hid (HN5.out.step hb6)); have x1 := HN6.out.d0; have x2 := HN6.out.d1))
            all_goals
              go_wp2
              go_roundw
              case rel => exact ⟨k + 1, by omega, by go_num, fun n hn => by
                by_cases e : n = k
                · rw [e]; exact HE.out
                · exact HA.out n (by omega), by first | exact HN6.out | exact HN5.out⟩
              case measure => simp [intOf]; omega
          · have HK1 := Lib.hid K1
            have HK2 := Lib.hid K2
            have hnb : (!fS T k == g k) = true := by revert he; cases fS T k <;> cases g k <;> simp
            have HE := Lib.hid he
            clear K1 K2 he
            go_wp2
            go_region_with (first
              | (go_at_call 88; (with_reducible refine (HK1.out _).mono ?_); rintro e w5 ⟨rfl, hb5⟩; (first | have HN5 := Lib.hid (HBD.out.step hb5) | have HN5 := Lib.hid (HN6.out.step hb5)); have z0 := HN5.out.q0)
              | (go_at_fn K; (with_reducible refine (HK2.out _ ?_).mono ?_); (first | exact HBD.out.below | exact HN5.out.below); rintro e w6 ⟨rfl, hb6⟩; (first | have HN6 := Lib.hid (HBD.out.step hb6) | have HN6 := Lib.hid (HN5.out.step hb6)); have x1 := HN6.out.d0; have x2 := HN6.out.d1))
            all_goals
              go_wp2
              go_ret2
              exact ⟨makeEnd_on (leaves_fails hr HP.out HT.out HE.out), by first | exact HN6.out.below | exact HN5.out.below⟩
        · obtain rfl : k = max 60 t + 60 + r := by omega
          have hki : max 60 (t : Int) + 60 + (r : Int) ≤ ((max 60 t + 60 + r : Nat) : Int) := by omega
          have HX := Lib.hid hl.below
          clear hl
          go_wp2
          go_ret2
          exact ⟨makeEnd_on (leaves_holds hr HP.out HT.out HA.out), HX.out⟩

theorem made_any (K : Nat) (lb : Array Value) (g : Nat → Bool) (t r : Nat) (m : Int) (w : World) (hG : Gives K lb g (t + r + 180) w) (hr : 0 < r) (ht : t ≤ 2000) (hr2 : r ≤ 4000)
    (hper : ∀ n, t ≤ n → g (n + r) = g n) (hL : LibAt m w) :
    Calls Try.prog 108 #[.agg #[.func (.func K) #[] lb, .int .i64 t, .int .i64 r]] w fun e w' => MakeEnd true g e ∧ Below w.heap.size w w' :=
  made_upto (t + r + 180) K lb g t r m w (by omega) hG hr ht hr2 hper hL

end Go.Proofs.Ytiphooodijbhiaa
