/-
  What the model's WaysBags answers.
-/
import Derived.Test.YtojjfkabepkhdaaWayBagMath
import Derived.Test.YtojjfkabepkhdaaWayS
set_option linter.unusedVariables false
set_option linter.unusedSimpArgs false
namespace Go.Proofs.Ytojjfkabepkhdaa
open Go.RowKit

/-- The world of the loops: the set's box, and the bags. -/
structure BagLoop (a1 : Option Addr) (n1 c1 : Nat) (a2 : Option Addr) (n2 c2 n D : Nat) (h : Nat → Int) (w wr : World) : Prop where
  q0 : wr.cell? ⟨D, 0, none⟩ = some (.slice a1 n1 c1)
  q1 : wr.cell? ⟨D, 1, none⟩ = some (.slice a2 n2 c2)
  row : IRow wr (D + 1) (n + 1) h
  below : Below w.heap.size w wr
theorem BagLoop.step {a1 a2 : Option Addr} {n1 c1 n2 c2 n D : Nat} {h : Nat → Int} {w wr w' : World} (l : BagLoop a1 n1 c1 a2 n2 c2 n D h w wr) (hb : Below wr.heap.size wr w') : BagLoop a1 n1 c1 a2 n2 c2 n D h w w' :=
  ⟨(hb.cell (p := ⟨D, 0, none⟩) (lt_of_some l.q0)).trans l.q0, (hb.cell (p := ⟨D, 1, none⟩) (lt_of_some l.q1)).trans l.q1, l.row.step hb, l.below.trans (hb.mono l.below.size)⟩
theorem BagLoop.congr {a1 a2 : Option Addr} {n1 c1 n2 c2 n D : Nat} {h g : Nat → Int} {w wr : World} (l : BagLoop a1 n1 c1 a2 n2 c2 n D h w wr) (e : ∀ i, i < n + 1 → h i = g i) : BagLoop a1 n1 c1 a2 n2 c2 n D g w wr := ⟨l.q0, l.q1, l.row.congr e, l.below⟩
theorem BagLoop.put {a1 a2 : Option Addr} {n1 c1 n2 c2 n D : Nat} {h : Nat → Int} {w wr : World} (l : BagLoop a1 n1 c1 a2 n2 c2 n D h w wr) (hD : w.heap.size ≤ D) (i : Nat) (u : Int) : BagLoop a1 n1 c1 a2 n2 c2 n D (putI h i u) w (wr.setCell ⟨D + 1, i, none⟩ (.int .i64 u)) :=
  ⟨(World.cell?_setCell_other _ _ _ _ (by simp)).trans l.q0, (World.cell?_setCell_other _ _ _ _ (by simp)).trans l.q1, l.row.put i u, l.below.setCell (p := ⟨D + 1, i, none⟩) (show w.heap.size ≤ D + 1 from by omega) _⟩
theorem BagLoop.drew {a1 a2 : Option Addr} {n1 c1 n2 c2 n D : Nat} {h : Nat → Int} {w wr : World} (l : BagLoop a1 n1 c1 a2 n2 c2 n D h w wr) : BagLoop a1 n1 c1 a2 n2 c2 n D h w wr.drew := ⟨l.q0, l.q1, l.row, l.below.drew⟩
theorem bagLoop_start (a1 : Option Addr) (n1 c1 : Nat) (a2 : Option Addr) (n2 c2 n : Nat) (w : World) :
    BagLoop a1 n1 c1 a2 n2 c2 n w.heap.size oneAt0 w ((w.alloc (.cells #[.slice a1 n1 c1, .slice a2 n2 c2] 48)).alloc (.cells ((madeCells #[.int .i64 0] (n + 1)).setIfInBounds 0 (.int .i64 1)) 3)) := by
  refine ⟨?_, ?_, ?_, ((Below.refl _ w).alloc (Nat.le_refl _) _).alloc (by simp) _⟩
  · rw [World.cell?_alloc_past _ _ _ (by simp), World.cell?_alloc_at _ _ _ _ rfl]; rfl
  · rw [World.cell?_alloc_past _ _ _ (by simp), World.cell?_alloc_at _ _ _ _ rfl]; rfl
  · have := iRow_one (w.alloc (.cells #[.slice a1 n1 c1, .slice a2 n2 c2] 48)) (n + 1)
    rw [World.size_alloc] at this
    exact this

set_option maxRecDepth 100000 in
set_option maxHeartbeats 4000000 in
theorem specWaysBags (s : ByteArray) (n : Int) (w : World) (hs : s.size ≤ 1048576) :
    Calls Try.prog 21 #[.string s, .int .i64 n] w fun e w' => TellsW s n 60 bagI e ∧ Below w.heap.size w w' := by
  cases h : okW s n 60
  · have HO := Lib.hid (tellsW_off (F := bagI) h)
    unfold okW at h
    go_enter Try.func21, Try.ntmps21
    go_wp2_with fail
    refine (given9_any s n 60 _ hs (by decide)).mono ?_
    rintro e w1 ⟨⟨a1, n1, c1, a2, n2, c2, rfl, hsp⟩, hb⟩
    have HB1 := Lib.hid (hb.alloc hb.size (.cells #[.slice a1 n1 c1, .slice a2 n2 c2] 48))
    rw [h]
    clear hsp hb h
    go_wp2
    go_ret2
    exact ⟨HO.out, HB1.out⟩
  · obtain ⟨h1, n, rfl, hk⟩ := okW_nat h
    have HO := Lib.hid (tellsW_on (F := bagI) (v := bagsI (fS s) n n) h rfl)
    unfold okW at h
    obtain ⟨i0, hi, hz0, hz1, hz2⟩ := info_parts Try.infoInt
    obtain ⟨N, hN⟩ : ∃ N, N = n + 1 := ⟨_, rfl⟩
    have hNi : (n : Int) + 1 = (N : Int) := by omega
    have hNle : N ≤ 61 := by omega
    have hN0 : 0 < N := by omega
    have hpos : (0 : Int) < (N : Int) := by omega
    have hm0 : (madeCells #[.int .i64 0] N)[0]? = some (Value.int .i64 0) := by simp [madeCells, hN0]
    have HN := Lib.hid hN
    clear hN
    go_enter Try.func21, Try.ntmps21
    go_wp2_with fail
    refine (given9_any s n 60 _ hs (by decide)).mono ?_
    rintro e w1 ⟨⟨a1, n1, c1, a2, n2, c2, rfl, hsp⟩, hb⟩
    have HB1 := Lib.hid hb
    have HSP := Lib.hid (hsp h1)
    have hL0 := bagLoop_start a1 n1 c1 a2 n2 c2 n w1
    rw [← HN.out, oneAt0_bags (fS s)] at hL0
    have HL0 := Lib.hid hL0
    rw [h]
    clear hsp hb h h1 hL0
    go_wp2_with (at_make; refine wpList_make_row _ rfl _ _ 30 rfl 3 i0 (.int .i64 0) Try.underlying30 hi hz0 hz1 rfl .i64 .i64 N rfl rfl ?b1 ?b2 ?_)
    case b1 => rw [hz2]; omega
    case b2 => omega
    go_loopw [9] (fun yv wr => ∃ k : Nat, k ≤ n ∧ yv = .int .i64 ((k : Int) + 1) ∧ BagLoop a1 n1 c1 a2 n2 c2 n w1.heap.size (bagsI (fS s) k) w1 wr) (fun yv _ => n + 1 - (intOf yv).toNat)
    case atStart => exact ⟨0, Nat.zero_le _, rfl, HL0.out⟩
    case round =>
      obtain ⟨k, hkn, rfl, hl⟩ := hrel
      by_cases hlt : k < n
      · have hki : (k : Int) + 1 ≤ (n : Int) := by omega
        have HL := Lib.hid (hl.congr (g := mixB (fS s) k (k + 1)) (fun i _ => mixB_start (fS s) k i))
        clear hl
        go_wp2
        go_loopw [10] (fun xv wq => ∃ x : Nat, k + 1 ≤ x ∧ x ≤ n + 1 ∧ xv = .int .i64 x ∧ (fS s (k + 1) = false → x = k + 1) ∧ BagLoop a1 n1 c1 a2 n2 c2 n w1.heap.size (mixB (fS s) k x) w1 wq) (fun xv _ => n + 2 - (intOf xv).toNat)
        case atStart => exact ⟨k + 1, Nat.le_refl _, by omega, by go_num, fun _ => rfl, HL.out⟩
        case round =>
          obtain ⟨x, hx1, hx2, rfl, hfx, hl⟩ := hrel
          by_cases hxn : x ≤ n
          · have hxi : (x : Int) ≤ (n : Int) := by omega
            have HH := Lib.hid (small_has (k + 1) (HSP.out.below hl.below (Nat.le_refl _)) (c1 := c1) (c2 := c2) (by omega))
            have hk1 : ((k + 1 : Nat) : Int) = (k : Int) + 1 := by omega
            rw [hk1] at HH
            have q0 := hl.q0
            have q1 := hl.q1
            have HW := Lib.hid hl
            clear hl hk1
            cases hf : fS s (k + 1)
            · rw [hf] at HH
              have hxk := hfx hf
              have HFN := Lib.hid (fun i => bags_no hf i)
              clear hfx hf
              go_wp2_with fail
              refine HH.out.mono ?_
              rintro e w6 ⟨rfl, hb6⟩
              have HW6 := Lib.hid ((HW.out.step hb6).congr (g := bagsI (fS s) (k + 1)) (fun i _ => by rw [hxk, ← mixB_start, HFN.out]))
              clear hb6 q0 q1 hxk
              go_wp2
              go_roundw
              case rel => exact ⟨k + 1, by omega, by go_num, HW6.out⟩
              case measure => simp [intOf]; omega
            · rw [hf] at HH
              have HPUT := Lib.hid (fun i => mixB_put (fS s) k x i hf hx1)
              clear hfx hf
              go_wp2_with fail
              refine HH.out.mono ?_
              rintro e w6 ⟨rfl, hb6⟩
              have hl6 := HW.out.step hb6
              obtain ⟨z, hz⟩ : ∃ z, z = x - (k + 1) := ⟨_, rfl⟩
              have hzi : (x : Int) - ((k : Int) + 1) = (z : Int) := by omega
              have hzN : (z : Int) < (N : Int) := by have := HN.out; omega
              have hxN : (x : Int) < (N : Int) := by have := HN.out; omega
              have cx := hl6.row.cell (i := x) (by omega)
              have cz := hl6.row.cell (i := z) (by omega)
              have fx := hl6.row.free x
              obtain ⟨v1, e1, b1⟩ := mixB_bounds (fS s) k x (i := x) (by omega)
              obtain ⟨v2, e2, b2⟩ := mixB_bounds (fS s) k x (i := z) (by omega)
              rw [← hz] at HPUT
              rw [e1] at cx HPUT
              rw [e2] at cz HPUT
              have hwz : IntKind.i64.wrap (z : Int) = (z : Int) := IntWalk.i64_in _ (by omega)
              have hwv : IntKind.i64.wrap ((v1 : Int) + (v2 : Int)) = (v1 : Int) + (v2 : Int) := IntWalk.i64_in _ (by omega)
              have HW7 := Lib.hid (((hl6.put (Nat.le_refl _) x ((v1 : Int) + (v2 : Int))).congr (g := mixB (fS s) k (x + 1)) (fun i _ => HPUT.out i)).drew)
              clear hb6 q0 q1 hl6 e1 e2 b1 b2 hz HPUT HW HH
              go_wp2
              go_region
              all_goals
                go_wp2
                go_roundw
                case rel => exact ⟨x + 1, by omega, by omega, by go_num, (fun h => by cases h), HW7.out⟩
                case measure => simp [intOf]; omega
          · obtain rfl : x = n + 1 := by omega
            have hxi : ¬ (n : Int) + 1 ≤ (n : Int) := by omega
            have HW6 := Lib.hid (hl.congr (g := bagsI (fS s) (k + 1)) (fun i hi => mixB_end (fS s) k (n + 1) i hi))
            clear hl
            go_wp2
            go_roundw
            case rel => exact ⟨k + 1, by omega, by go_num, HW6.out⟩
            case measure => simp [intOf]; omega
      · obtain rfl : k = n := by omega
        have c0 := hl.row.cell (i := k) (Nat.lt_succ_self _)
        have hkk : ¬ (k : Int) + 1 ≤ (k : Int) := by omega
        have hkN : (k : Int) < (N : Int) := by have := HN.out; omega
        have HB2 := Lib.hid (HB1.out.trans (hl.below.mono HB1.out.size))
        clear hl
        go_wp2
        go_ret2
        exact ⟨HO.out, HB2.out⟩

end Go.Proofs.Ytojjfkabepkhdaa
