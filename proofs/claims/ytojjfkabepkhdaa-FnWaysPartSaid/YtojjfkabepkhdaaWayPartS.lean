/-
  How many ways lead to a number by how many numbers they have, as the model counts them (l9Parts).
-/
import Derived.Test.YtojjfkabepkhdaaWayS
import Derived.Test.YtojjfkabepkhdaaElse
import Derived.Maps.AppendAt
import Derived.Deep.RegionHeld3
import Derived.Test.YtojjfkabepkhdaaWayVal
set_option linter.unusedVariables false
set_option linter.unusedSimpArgs false
namespace Go.Proofs.Ytojjfkabepkhdaa
open Go.RowKit

def partsI (f : Nat → Bool) (n k : Nat) : Int := (partF f k n : Int)
def accMI (f : Nat → Bool) (k x y i : Nat) : Int := (accM f (partF f k) x y i : Int)
def accXI (f : Nat → Bool) (k x i : Nat) : Int := (accX f (partF f k) i x : Int)

/-- The world of l9Parts's loops: the set's box, the ways with k numbers (in G), and what has been told (v). -/
structure PartLoop (f : Nat → Bool) (a1 : Option Addr) (n1 c1 : Nat) (a2 : Option Addr) (n2 c2 n k j D G : Nat) (w wr : World) (v : Value) : Prop where
  q0 : wr.cell? ⟨D, 0, none⟩ = some (.slice a1 n1 c1)
  q1 : wr.cell? ⟨D, 1, none⟩ = some (.slice a2 n2 c2)
  now : IRow wr G (n + 1) (partI f k)
  own : TabI (partsI f n) j (D + 1) wr v
  ne : v.ownBlock ≠ some G
  hi : D < G
  below : Below w.heap.size w wr
theorem PartLoop.step {f : Nat → Bool} {a1 a2 : Option Addr} {n1 c1 n2 c2 n k j D G : Nat} {w wr w' : World} {v : Value} (l : PartLoop f a1 n1 c1 a2 n2 c2 n k j D G w wr v) (hb : Below wr.heap.size wr w') : PartLoop f a1 n1 c1 a2 n2 c2 n k j D G w w' v :=
  ⟨(hb.cell (p := ⟨D, 0, none⟩) (lt_of_some l.q0)).trans l.q0, (hb.cell (p := ⟨D, 1, none⟩) (lt_of_some l.q1)).trans l.q1, l.now.step hb, own_below l.own hb (Nat.le_refl _), l.ne, l.hi, l.below.trans (hb.mono l.below.size)⟩
/-- What one block that is the call's own is written leaves. -/
theorem PartLoop.put {f : Nat → Bool} {a1 a2 : Option Addr} {n1 c1 n2 c2 n k j D G H i : Nat} {w wr : World} {v : Value} (l : PartLoop f a1 n1 c1 a2 n2 c2 n k j D G w wr v) (u : Value) (hD : w.heap.size ≤ H) (h1 : H ≠ D) (h2 : H ≠ G) (h3 : v.ownBlock ≠ some H) : PartLoop f a1 n1 c1 a2 n2 c2 n k j D G w (wr.setCell ⟨H, i, none⟩ u) v := by
  have he : Else H wr (wr.setCell ⟨H, i, none⟩ u) := (Else.refl H wr).put i u
  exact ⟨(World.cell?_setCell_other _ _ _ _ (by simp [h1, Ne.symm h1])).trans l.q0, (World.cell?_setCell_other _ _ _ _ (by simp [h1, Ne.symm h1])).trans l.q1, l.now.other (fun e => h2 e.symm) u, he.own l.own h3, l.ne, l.hi, l.below.setCell (p := ⟨H, i, none⟩) hD u⟩

/-- One more is told. -/
theorem PartLoop.grow {f : Nat → Bool} {a1 a2 : Option Addr} {n1 c1 n2 c2 n k j D G : Nat} {w wr w' : World} {v v' : Value} {o : Obj} (l : PartLoop f a1 n1 c1 a2 n2 c2 n k j D G w wr v) (hD : w.heap.size ≤ D)
    (hown : w'.ownsRow (D + 1) 3 1 v' (j + 1) (ints (intsOf (partsI f n) j) ++ [.int .i64 (partsI f n j)])) (hgrow : (wr.alloc o).grownBy w' v.ownBlock) (hat : v'.ownBlock = v.ownBlock ∨ v'.ownBlock = some (wr.heap.size + 1)) :
    PartLoop f a1 n1 c1 a2 n2 c2 n k (j + 1) D G w w' v' := by
  have hG := l.now.lt
  have hlt := l.hi
  have hb : Below (D + 1) wr w' := ((Below.refl (D + 1) wr).alloc (by omega) o).grown hgrow (by simp; omega) (fun i hi => (l.own.lt i hi).1)
  obtain ⟨cur, h1, h2, h3⟩ := l.now
  refine ⟨(hb.cell (p := ⟨D, 0, none⟩) (Nat.lt_succ_self _)).trans l.q0, (hb.cell (p := ⟨D, 1, none⟩) (Nat.lt_succ_self _)).trans l.q1, ⟨cur, ?_, h2, h3⟩, ?_, ?_, l.hi, l.below.trans (hb.mono (by omega))⟩
  · rw [hgrow.block G (by simp; omega) (fun e => l.ne e.symm)]
    exact (Below.heap_alloc _ _ _ hG).trans h1
  · unfold TabI
    rw [intsOf_snoc]
    unfold ints
    rw [List.map_append, List.map_singleton]
    exact hown
  · rcases hat with e | e
    · rw [e]; exact l.ne
    · rw [e]; intro x; have : wr.heap.size + 1 = G := by simpa using x
      omega
theorem partLoop_start (f : Nat → Bool) (a1 : Option Addr) (n1 c1 : Nat) (a2 : Option Addr) (n2 c2 n : Nat) (w : World) :
    PartLoop f a1 n1 c1 a2 n2 c2 n 0 0 w.heap.size (w.heap.size + 1) w (((w.alloc (.cells #[.slice a1 n1 c1, .slice a2 n2 c2] 48)).alloc (.cells ((madeCells #[.int .i64 0] (n + 1)).setIfInBounds 0 (.int .i64 1)) 3)).alloc (.cells #[] 3)) (.slice (some ⟨w.heap.size + 1 + 1, 0, none⟩) 0 0) := by
  have hb : Below (w.heap.size + 1 + 1) ((w.alloc (.cells #[.slice a1 n1 c1, .slice a2 n2 c2] 48)).alloc (.cells ((madeCells #[.int .i64 0] (n + 1)).setIfInBounds 0 (.int .i64 1)) 3)) (((w.alloc (.cells #[.slice a1 n1 c1, .slice a2 n2 c2] 48)).alloc (.cells ((madeCells #[.int .i64 0] (n + 1)).setIfInBounds 0 (.int .i64 1)) 3)).alloc (.cells #[] 3)) := (Below.refl _ _).alloc (by simp) _
  refine ⟨?_, ?_, ?_, ?_, ?_, Nat.lt_succ_self _, (((Below.refl _ w).alloc (Nat.le_refl _) _).alloc (by simp) _).alloc (by simp; omega) _⟩
  · rw [World.cell?_alloc_past _ _ _ (by simp; omega), World.cell?_alloc_past _ _ _ (by simp), World.cell?_alloc_at _ _ _ _ rfl]; rfl
  · rw [World.cell?_alloc_past _ _ _ (by simp; omega), World.cell?_alloc_past _ _ _ (by simp), World.cell?_alloc_at _ _ _ _ rfl]; rfl
  · have := iRow_one (w.alloc (.cells #[.slice a1 n1 c1, .slice a2 n2 c2] 48)) (n + 1)
    rw [World.size_alloc, oneAt0_part f] at this
    exact this.below hb (by omega)
  · refine ⟨by rw [ints_length, intsOf_length], .inr ⟨w.heap.size + 1 + 1, 0, #[], rfl, Nat.le_succ _, ?_, Nat.le_refl _, by decide, rfl, rfl⟩⟩
    have := heap_alloc_new ((w.alloc (.cells #[.slice a1 n1 c1, .slice a2 n2 c2] 48)).alloc (.cells ((madeCells #[.int .i64 0] (n + 1)).setIfInBounds 0 (.int .i64 1)) 3)) (.cells #[] 3)
    simp only [World.size_alloc] at this
    exact this
  · show some (w.heap.size + 1 + 1) ≠ some (w.heap.size + 1)
    simp

/-- The world of the two inner loops: the next ways lie in H. -/
structure PartNext (f : Nat → Bool) (a1 : Option Addr) (n1 c1 : Nat) (a2 : Option Addr) (n2 c2 n k D G H : Nat) (h : Nat → Int) (w wr : World) (v : Value) : Prop where
  loop : PartLoop f a1 n1 c1 a2 n2 c2 n k (k + 1) D G w wr v
  next : IRow wr H (n + 1) h
  neG : H ≠ G
  neV : v.ownBlock ≠ some H
  hiH : D < H
theorem PartNext.step {f : Nat → Bool} {a1 a2 : Option Addr} {n1 c1 n2 c2 n k D G H : Nat} {h : Nat → Int} {w wr w' : World} {v : Value} (l : PartNext f a1 n1 c1 a2 n2 c2 n k D G H h w wr v) (hb : Below wr.heap.size wr w') : PartNext f a1 n1 c1 a2 n2 c2 n k D G H h w w' v :=
  ⟨l.loop.step hb, l.next.step hb, l.neG, l.neV, l.hiH⟩
theorem PartNext.congr {f : Nat → Bool} {a1 a2 : Option Addr} {n1 c1 n2 c2 n k D G H : Nat} {h g : Nat → Int} {w wr : World} {v : Value} (l : PartNext f a1 n1 c1 a2 n2 c2 n k D G H h w wr v) (e : ∀ i, i < n + 1 → h i = g i) : PartNext f a1 n1 c1 a2 n2 c2 n k D G H g w wr v :=
  ⟨l.loop, l.next.congr e, l.neG, l.neV, l.hiH⟩
theorem PartNext.put {f : Nat → Bool} {a1 a2 : Option Addr} {n1 c1 n2 c2 n k D G H : Nat} {h : Nat → Int} {w wr : World} {v : Value} (l : PartNext f a1 n1 c1 a2 n2 c2 n k D G H h w wr v) (hD : w.heap.size ≤ D) (i : Nat) (u : Int) : PartNext f a1 n1 c1 a2 n2 c2 n k D G H (putI h i u) w (wr.setCell ⟨H, i, none⟩ (.int .i64 u)) v :=
  ⟨l.loop.put _ (by have := l.hiH; omega) (by have := l.hiH; omega) l.neG l.neV, l.next.put i u, l.neG, l.neV, l.hiH⟩
/-- What is next is now. -/
theorem PartNext.turn {f : Nat → Bool} {a1 a2 : Option Addr} {n1 c1 n2 c2 n k D G H : Nat} {w wr : World} {v : Value} (l : PartNext f a1 n1 c1 a2 n2 c2 n k D G H (partI f (k + 1)) w wr v) : PartLoop f a1 n1 c1 a2 n2 c2 n (k + 1) (k + 1) D H w wr v :=
  ⟨l.loop.q0, l.loop.q1, l.next, l.loop.own, l.neV, l.hiH, l.loop.below⟩
/-- A place for what is next is made. -/
theorem PartLoop.make {f : Nat → Bool} {a1 a2 : Option Addr} {n1 c1 n2 c2 n k D G : Nat} {w wr : World} {v : Value} (l : PartLoop f a1 n1 c1 a2 n2 c2 n k (k + 1) D G w wr v) : PartNext f a1 n1 c1 a2 n2 c2 n k D G wr.heap.size (accXI f k 0) w (wr.alloc (.cells (madeCells #[.int .i64 0] (n + 1)) 3)) v :=
  ⟨l.step ((Below.refl _ _).alloc (Nat.le_refl _) _), iRow_new wr (n + 1), fun e => by have := l.now.lt; omega, fun e => by have := (l.own.lt _ e).2; omega, by have := l.now.lt; have := l.hi; omega⟩
theorem accXI_last (f : Nat → Bool) (n k i : Nat) (hi : i < n + 1) : accXI f k (n + 1) i = partI f (k + 1) i := by
  unfold accXI partI
  have := accX_all f (partF f k) i (n + 1 - i)
  rw [show i + (n + 1 - i) = n + 1 from by omega] at this
  rw [this]; rfl
theorem accMI_start (f : Nat → Bool) (k x i : Nat) : accXI f k x i = accMI f k x 0 i := by unfold accXI accMI; rw [accM_start]
theorem accMI_end (f : Nat → Bool) (k x y i : Nat) (hi : i ≤ x + y) : accMI f k x y i = accXI f k (x + 1) i := by unfold accXI accMI; rw [accM_end _ _ _ _ _ hi]
theorem accMI_put (f : Nat → Bool) (k x y i : Nat) : putI (accMI f k x y) (x + (y + 1)) (accMI f k x y (x + (y + 1)) + (if f (y + 1) = true then partI f k x else 0)) i = accMI f k x (y + 1) i := by
  unfold putI
  by_cases e : i = x + (y + 1)
  · rw [if_pos e, e]
    unfold accMI partI
    rw [accM_put]
    split <;> simp
  · rw [if_neg e]
    unfold accMI
    rw [accM_other _ _ _ _ _ e]
theorem accMI_no (f : Nat → Bool) (k x y q e : Nat) (hq : q = x + (y + 1)) (he : e = accM f (partF f k) x y q) (h40 : e ≤ 1099511627776) (hf : f (y + 1) = false) (i : Nat) : putI (accMI f k x y) q (wrap64 ((e : Int) + 0)) i = accMI f k x (y + 1) i := by
  have hw : wrap64 ((e : Int) + 0) = (e : Int) := by unfold wrap64; omega
  have h := accMI_put f k x y i
  rw [hf, if_neg (by decide), Int.add_zero, ← hq] at h
  rw [hw, he]
  exact h
theorem accMI_yes (f : Nat → Bool) (k x y q e p : Nat) (hq : q = x + (y + 1)) (he : e = accM f (partF f k) x y q) (hp : p = partF f k x) (hf : f (y + 1) = true) (i : Nat) : putI (accMI f k x y) q ((e : Int) + (p : Int)) i = accMI f k x (y + 1) i := by
  have h := accMI_put f k x y i
  rw [hf, if_pos rfl, ← hq] at h
  rw [he, hp]
  exact h

set_option maxRecDepth 100000 in
set_option maxHeartbeats 8000000 in
theorem l9Parts_any (f : Nat → Bool) (a1 : Option Addr) (n1 c1 : Nat) (a2 : Option Addr) (n2 c2 n : Nat) (w : World) (hA : SmallIn w f a1 n1 a2 n2) (hn : n ≤ 40) :
    Calls Try.prog 60 #[.agg #[.slice a1 n1 c1, .slice a2 n2 c2], .int .i64 n] w fun e w' => ∃ a c, e = .returned (.slice a (41 : Nat) c) ∧ ReadsI w' a 41 (intsOf (partsI f n) 41) ∧ Below w.heap.size w w' := by
  obtain ⟨i0, hi, hz0, hz1, hz2⟩ := info_parts Try.infoInt
  have HA := Lib.hid hA
  clear hA
  have HL0 := Lib.hid (partLoop_start f a1 n1 c1 a2 n2 c2 n w)
  obtain ⟨N, hN⟩ : ∃ N, N = n + 1 := ⟨_, rfl⟩
  have hNi : (n : Int) + 1 = (N : Int) := by omega
  have hNle : N ≤ 41 := by omega
  have hN0 : 0 < N := by omega
  have hpos : (0 : Int) < (N : Int) := by omega
  have hm0 : (madeCells #[.int .i64 0] N)[0]? = some (Value.int .i64 0) := by simp [madeCells, hN0]
  rw [← hN] at HL0
  have HN := Lib.hid hN
  clear hN
  go_enter Try.func60, Try.ntmps60
  go_wp2_with (at_make; refine wpList_make_row _ rfl _ _ 30 rfl 3 i0 (.int .i64 0) Try.underlying30 hi hz0 hz1 rfl .i64 .i64 N rfl rfl ?b1 ?b2 ?_)
  case b1 => rw [hz2]; omega
  case b2 => omega
  go_loopw [5, 6, 7] (fun nv ov kv wr => ∃ k G : Nat, k ≤ 41 ∧ kv = .int .i64 k ∧ nv = .slice (some ⟨G, 0, none⟩) N N ∧ PartLoop f a1 n1 c1 a2 n2 c2 n k k w.heap.size G w wr ov) (fun _ _ kv _ => 41 - (intOf kv).toNat)
  case atStart => exact ⟨0, _, Nat.zero_le _, rfl, rfl, HL0.out⟩
  case round =>
    obtain ⟨k, G, hk, rfl, rfl, hl⟩ := hrel
    obtain ⟨a, c, rfl⟩ := own_form hl.own
    by_cases hlt : k ≤ 40
    · have hki : (k : Int) ≤ 40 := by omega
      have hnN : (n : Int) < (N : Int) := by have := HN.out; omega
      have c0 : wr.cell? ⟨G, n, none⟩ = some (.int .i64 (partsI f n k)) := hl.now.cell (i := n) (Nat.lt_succ_self _)
      have HL := Lib.hid hl
      have hsz : w.heap.size + 1 ≤ wr.heap.size := by have := hl.now.lt; have := hl.hi; omega
      clear hl
      go_wp2_with
        (at_builtin; refine wpList_append_own_at _ rfl _ _ 30 rfl (w.heap.size + 1) 3 i0 (.int .i64 0) 1 8 Try.underlying30 hi hz0 hz1 hz2 rfl (by decide) _ _ _ rfl (World.ownsRow.alloc HL.out.own _) ⟨wr.heap.size, 0, none⟩ 1 1 [.int .i64 (partsI f n k)] rfl rfl ?c1 ?c2 ?c3 ?c4 ?c5 ?_)
      case c1 =>
        intro j u hj
        match j, hj with
        | 0, hj => simp at hj; subst hj; simp [Addr.add]
      case c2 => intro u hu; simp at hu; subst hu; rfl
      case c3 => unfold maxLen; omega
      case c4 => omega
      case c5 => simp; omega
      intro v' w4 hown4 hgrow _ hat
      have hl4 := HL.out.grow (Nat.le_refl _) hown4 hgrow hat
      obtain ⟨a4, c4, rfl⟩ := own_form hl4.own
      have hmake := hl4.make
      rw [← HN.out] at hmake
      have HM := Lib.hid hmake
      clear hmake hl4 hown4 hgrow hat c0 HL hsz
      go_wp2_with (at_make; refine wpList_make_row _ rfl _ _ 30 rfl 3 i0 (.int .i64 0) Try.underlying30 hi hz0 hz1 rfl .i64 .i64 N rfl rfl ?b1 ?b2 ?_)
      case b1 => rw [hz2]; omega
      case b2 => omega
      obtain ⟨H, hH⟩ : ∃ H, H = w4.heap.size := ⟨_, rfl⟩
      rw [← hH] at HM ⊢
      generalize w4.alloc (.cells (madeCells #[.int .i64 0] N) 3) = w5 at HM ⊢
      clear hH
      go_loopw [9] (fun xv wq => ∃ x : Nat, x ≤ n + 1 ∧ xv = .int .i64 x ∧ PartNext f a1 n1 c1 a2 n2 c2 n k w.heap.size G H (accXI f k x) w wq (.slice a4 (k + 1) c4)) (fun xv _ => n + 2 - (intOf xv).toNat)
      case atStart => exact ⟨0, Nat.zero_le _, rfl, HM.out⟩
      case round =>
        obtain ⟨x, hx, rfl, hw⟩ := hrel
        by_cases hxn : x ≤ n
        · have hxi : (x : Int) ≤ (n : Int) := by omega
          have HW0 := Lib.hid (hw.congr (g := accMI f k x 0) (fun i _ => accMI_start f k x i))
          clear hw
          go_wp2
          go_loopw [10] (fun yv wq => ∃ y : Nat, x + y ≤ n ∧ yv = .int .i64 ((y : Int) + 1) ∧ PartNext f a1 n1 c1 a2 n2 c2 n k w.heap.size G H (accMI f k x y) w wq (.slice a4 (k + 1) c4)) (fun yv _ => n + 2 - (intOf yv).toNat)
          case atStart => exact ⟨0, by omega, rfl, HW0.out⟩
          case round =>
            obtain ⟨y, hy, rfl, hw⟩ := hrel
            obtain ⟨q, hq⟩ : ∃ q, q = x + (y + 1) := ⟨_, rfl⟩
            have hqi : (x : Int) + ((y : Int) + 1) = (q : Int) := by omega
            by_cases hqn : q ≤ n
            · have hqni : (q : Int) ≤ (n : Int) := by omega
              have hqN : (q : Int) < (N : Int) := by have := HN.out; omega
              have hxN : (x : Int) < (N : Int) := by have := HN.out; omega
              have hwq : IntKind.i64.wrap (q : Int) = (q : Int) := IntWalk.i64_in _ (by omega)
              have xq := hw.next.cell (i := q) (by omega)
              have fq := hw.next.free q
              have xn := hw.loop.now.cell (i := x) (by omega)
              have hb1 : accM f (partF f k) x y q ≤ 1099511627776 := Nat.le_trans (accM_le f (partF f k) x y q) (partF_le40 f (k + 1) (i := q) (by omega))
              have hb2 := partF_le40 f k (i := x) (by omega)
              unfold accMI at xq
              unfold partI at xn
              obtain ⟨e, he⟩ : ∃ e, e = accM f (partF f k) x y q := ⟨_, rfl⟩
              obtain ⟨p, hp⟩ : ∃ p, p = partF f k x := ⟨_, rfl⟩
              rw [← he] at xq hb1
              rw [← hp] at xn hb2
              have hwe : IntKind.i64.wrap (e : Int) = (e : Int) := IntWalk.i64_in _ (by omega)
              have hwp : IntKind.i64.wrap (p : Int) = (p : Int) := IntWalk.i64_in _ (by omega)
              have hwep : IntKind.i64.wrap ((e : Int) + (p : Int)) = (e : Int) + (p : Int) := IntWalk.i64_in _ (by omega)
              have HH : Hid (∀ W, Below wr.heap.size wr W → Calls Try.prog 51 #[.agg #[.slice a1 n1 c1, .slice a2 n2 c2], .int .i64 ((y : Int) + 1)] W fun r w' => r = .returned (.bool (f (y + 1))) ∧ Below wr.heap.size wr w') := Lib.hid (fun W hW => by
                refine (small_has (y + 1) (HA.out.below (hw.loop.below.trans (hW.mono hw.loop.below.size)) (Nat.le_refl _)) (by omega)).mono ?_
                rintro r w' ⟨rfl, hb'⟩
                exact ⟨rfl, below_step hW hb'⟩)
              obtain ⟨B, hB⟩ : ∃ B, B = f (y + 1) := ⟨_, rfl⟩
              have HNO := Lib.hid (fun (hf : B = false) i => accMI_no f k x y q e hq he hb1 (hB.symm.trans hf) i)
              have HYES := Lib.hid (fun (hf : B = true) i => accMI_yes f k x y q e p hq he hp (hB.symm.trans hf) i)
              rw [← hB] at HH
              have HW := Lib.hid hw
              have q0 := hw.loop.q0
              have q1 := hw.loop.q1
              clear hw he hp hB hb1 hb2 hq
              cases B
              · have HBIT : Hid (∀ W, Calls Try.prog 67 #[.bool false] W fun e w' => e = .returned (.int .i64 0) ∧ w' = W) := Lib.hid (fun W => bit_is false W)
                have HGO := Lib.hid (HNO.out rfl)
                clear HNO HYES
                go_wp2
                go_region_with (first
                  | (go_at_call 51; (with_reducible refine (HH.out _ ?_).mono ?_); exact (Below.refl _ _).drew; rintro e1 w6 ⟨rfl, hb6⟩; have HB6 := Lib.hid hb6; have c6 := (hb6.cell (p := ⟨H, q, none⟩) (lt_of_some xq)).trans xq; have d6 := (hb6.cell (p := ⟨G, x, none⟩) (lt_of_some xn)).trans xn; have f6 := (hb6.frozen (p := ⟨H, q, none⟩) (lt_of_some xq)).trans fq; clear hb6)
                  | (go_at_call 67; (with_reducible refine (HBIT.out _).mono ?_); rintro e1 w7 ⟨rfl, rfl⟩))
                all_goals
                  have HN2 := Lib.hid (((HW.out.step HB6.out).put (Nat.le_refl _) q (wrap64 ((e : Int) + 0))).congr (g := accMI f k x (y + 1)) (fun i _ => HGO.out i))
                  clear q0 q1 xq xn fq c6 d6 f6 HW HB6 HGO HH HBIT
                  go_wp2
                  go_roundw
                  case rel => exact ⟨y + 1, by omega, by go_num, HN2.out⟩
                  case measure => simp [intOf]; omega
              · have HBIT : Hid (∀ W, Calls Try.prog 67 #[.bool true] W fun e w' => e = .returned (.int .i64 1) ∧ w' = W) := Lib.hid (fun W => bit_is true W)
                have HGO := Lib.hid (HYES.out rfl)
                clear HNO HYES
                go_wp2
                go_region_with (first
                  | (go_at_call 51; (with_reducible refine (HH.out _ ?_).mono ?_); exact (Below.refl _ _).drew; rintro e1 w6 ⟨rfl, hb6⟩; have HB6 := Lib.hid hb6; have c6 := (hb6.cell (p := ⟨H, q, none⟩) (lt_of_some xq)).trans xq; have d6 := (hb6.cell (p := ⟨G, x, none⟩) (lt_of_some xn)).trans xn; have f6 := (hb6.frozen (p := ⟨H, q, none⟩) (lt_of_some xq)).trans fq; clear hb6)
                  | (go_at_call 67; (with_reducible refine (HBIT.out _).mono ?_); rintro e1 w7 ⟨rfl, rfl⟩))
                all_goals
                  have HN2 := Lib.hid (((HW.out.step HB6.out).put (Nat.le_refl _) q ((e : Int) + (p : Int))).congr (g := accMI f k x (y + 1)) (fun i _ => HGO.out i))
                  clear q0 q1 xq xn fq c6 d6 f6 HW HB6 HGO HH HBIT
                  go_wp2
                  go_roundw
                  case rel => exact ⟨y + 1, by omega, by go_num, HN2.out⟩
                  case measure => simp [intOf]; omega
            · have hqni : ¬ (q : Int) ≤ (n : Int) := by omega
              have HW := Lib.hid (hw.congr (g := accXI f k (x + 1)) (fun i hi => accMI_end f k x y i (by omega)))
              clear hw hq hqn
              go_wp2
              go_roundw
              case rel => exact ⟨x + 1, by omega, by go_num, HW.out⟩
              case measure => simp [intOf]; omega
        · obtain rfl : x = n + 1 := by omega
          have hxi : ¬ ((n : Int) + 1 ≤ (n : Int)) := by omega
          have HW := Lib.hid (hw.congr (g := partI f (k + 1)) (fun i hi => accXI_last f n k i hi)).turn
          clear hw
          go_wp2
          go_roundw
          case rel => exact ⟨k + 1, H, by omega, by go_num, rfl, HW.out⟩
          case measure => simp [intOf]; omega
    · obtain rfl : k = 41 := by omega
      have HL := Lib.hid hl
      clear hl
      go_wp2
      go_ret
      exact ⟨a, c, rfl, HL.out.own.reads, HL.out.below⟩

end Go.Proofs.Ytojjfkabepkhdaa
