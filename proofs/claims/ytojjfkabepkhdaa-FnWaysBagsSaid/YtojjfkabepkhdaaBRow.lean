/-
  The walks of impl.numbers.add, of impl.shifts.up and of impl.shiftsOf.
-/
import Derived.Test.YtojjfkabepkhdaaElse
import Derived.Laws.CopyOwn
import Derived.Laws.Rows
import Derived.Laws.Tables
import Derived.Deep.OwnRows
set_option linter.unusedVariables false
set_option linter.unusedSimpArgs false
namespace Go.Proofs.Ytojjfkabepkhdaa
open Go.RowKit

set_option maxHeartbeats 400000 in
theorem add_any (g o h p L N c1 c2 : Nat) (c d e : Nat → Bool) (w : World) (hg : BRow w g N c) (hN : o + L ≤ N) (hL : L ≤ 100000) (h0 : ∀ j, j < o → d j = c j) (hd : ∀ i, i < L → d (o + i) = (c (o + i) || e i))
    (hR : ∀ k w', k < L → BRow w' g N (mix c d o k) → Else g w w' → w'.cell? ⟨h, p + k, none⟩ = some (.bool (e k))) :
    Calls Try.prog 86 #[.slice (some ⟨g, o, none⟩) L c1, .slice (some ⟨h, p, none⟩) L c2] w fun e w' =>
      e = .returned (.tuple #[]) ∧ BRow w' g N (mix c d o L) ∧ Else g w w' := by
  have HR := Lib.hid hR
  have HD := Lib.hid hd
  have HG := Lib.hid (hg.congr fun j _ => mix_zero h0 j)
  clear hR hd hg h0
  go_enter Try.func86, Try.ntmps86
  go_wp2
  go_loopw [8] (fun i wr => ∃ k : Nat, k ≤ L ∧ i = .int .i64 k ∧ BRow wr g N (mix c d o k) ∧ Else g w wr) (fun i _ => L - (intOf i).toNat)
  case atStart => exact ⟨0, Nat.zero_le _, rfl, HG.out, Else.refl _ _⟩
  case round =>
    obtain ⟨k, hk, rfl, hb, he⟩ := hrel
    by_cases hlt : k < L
    · have hc := HR.out k wr hlt hb he
      cases hv : e k
      · rw [hv] at hc
        have hk2 : d (o + k) = c (o + k) := by rw [HD.out k hlt, hv, Bool.or_false]
        have HB := Lib.hid (hb.congr fun j _ => mix_keep hk2 j)
        have HE := Lib.hid he
        clear hb he hv hk2
        go_wp2
        go_roundw
        case rel => exact ⟨k + 1, by omega, by go_num, HB.out, HE.out⟩
        case measure => simp [intOf]; omega
      · rw [hv] at hc
        have hk2 : d (o + k) = true := by rw [HD.out k hlt, hv, Bool.or_true]
        have HB := Lib.hid ((hb.put (o + k) true).congr fun j _ => mix_put true hk2 j)
        have HE := Lib.hid (he.put (o + k) (.bool true))
        have hq := hb.cell (i := o + k) (by omega)
        have hf := hb.free (o + k)
        clear hb he hv hk2
        go_wp2
        go_roundw
        case rel => exact ⟨k + 1, by omega, by go_num, HB.out, HE.out⟩
        case measure => simp [intOf]; omega
    · obtain rfl : k = L := by omega
      have HB := Lib.hid hb
      have HE := Lib.hid he
      clear hb he
      go_wp2
      go_end0
      exact ⟨rfl, HB.out, HE.out⟩

theorem ret_slice {p : Option Addr} {a a' b b' : Nat} (h : a = a') (h2 : b = b') : Ending.returned (.slice p a b) = .returned (.slice p a' b') := by rw [h, h2]

set_option maxHeartbeats 400000 in
theorem up_any (g L k c : Nat) (w : World) (hk : k ≤ L) (h0 : 0 < L) (hL : L ≤ 100000) (hc : 2 * L ≤ c) :
    Calls Try.prog 85 #[.slice (some ⟨g, 0, none⟩) (2 * L : Nat) c, .int .i64 k] w fun e w' =>
      e = .returned (.slice (some ⟨g, L - k, none⟩) L L) ∧ w' = w := by
  go_enter Try.func85, Try.ntmps85
  go_wp2
  go_ret
  exact ⟨ret_slice (by omega) (by omega), rfl⟩

theorem vals_get {c : Nat → Bool} {N i : Nat} {v : Value} (h : ((List.range N).map fun i => Value.bool (c i))[i]? = some v) : i < N ∧ v = .bool (c i) := by
  rw [List.getElem?_map] at h
  rcases Nat.lt_or_ge i N with k | k
  · rw [List.getElem?_range k] at h
    exact ⟨k, by simpa using h.symm⟩
  · rw [List.getElem?_eq_none (by simpa using k)] at h; cases h
theorem splice_low {α : Type} (L : List α) (off : Nat) (cs : List α) (i : Nat) (h : i < off) (h2 : off ≤ L.length) : (splice L off cs)[i]? = L[i]? := by
  unfold splice
  rw [List.getElem?_append_left (by rw [List.length_take]; omega), List.getElem?_take_of_lt h]
theorem splice_in {α : Type} (L : List α) (off : Nat) (cs : List α) (i : Nat) (h : i < cs.length) (h2 : off ≤ L.length) : (splice L off cs)[off + i]? = cs[i]? := by
  unfold splice
  rw [List.getElem?_append_right (by rw [List.length_take]; omega), List.length_take, show off + i - min off L.length = i from by omega, List.getElem?_append_left h]
theorem behind_row {w : World} {g N : Nat} {f : Nat → Bool} {cur : Array Value} (hs : cur.size = 2 * N) (hc : ∀ i, i < 2 * N → cur[i]? = some (.bool false))
    (h : w.heap[g]? = some (.cells (splice cur.toList N ((List.range N).map fun i => Value.bool (f i))).toArray 4 (0, 0))) : BRow w g (2 * N) (behind N f) := by
  refine ⟨_, h, ?_, fun i hi => ?_⟩
  · rw [List.size_toArray, length_splice _ _ _ (by simp; omega)]; simpa using hs
  · rw [List.getElem?_toArray]
    rcases Nat.lt_or_ge i N with k | k
    · rw [splice_low _ _ _ _ k (by simp; omega), Array.getElem?_toList, hc i hi]
      unfold behind; rw [decide_eq_false (by omega)]; rfl
    · obtain ⟨j, rfl⟩ : ∃ j, i = N + j := ⟨i - N, by omega⟩
      rw [splice_in _ _ _ _ (by simp; omega) (by simp; omega), List.getElem?_map, List.getElem?_range (by omega)]
      unfold behind; rw [decide_eq_true (by omega), show N + j - N = j from by omega]; rfl
set_option maxRecDepth 100000 in
set_option maxHeartbeats 400000 in
theorem shiftsOf_at (g o N M c : Nat) (F f : Nat → Bool) (w : World) (h : BRow w g M F) (hM : o + N ≤ M) (hF : ∀ n, n < N → F (o + n) = f n) (h0 : 0 < N) (hN : N ≤ 100000) :
    Calls Try.prog 84 #[.slice (some ⟨g, o, none⟩) N c] w fun e w' =>
      ∃ G, e = .returned (.slice (some ⟨G, 0, none⟩) (2 * N : Nat) (2 * N : Nat)) ∧ w.heap.size ≤ G ∧ BRow w' G (2 * N) (behind N f) ∧ Below w.heap.size w w' := by
  obtain ⟨i0, hi, hz0, hz1, hz2⟩ := info_parts Try.infoBool
  have hsz : (Try.prog.info? 4).map (·.size) = some 1 := by rw [hi]; exact congrArg some hz1
  obtain ⟨Z, hZ⟩ : ∃ Z, 2 * N = Z := ⟨_, rfl⟩
  have hZi : (2 : Int) * (N : Int) = (Z : Int) := by omega
  rw [hZ]
  have HF := Lib.hid hF
  have HM := Lib.hid hM
  clear hF hM
  obtain ⟨cs, hcs⟩ : ∃ cs, cs = (List.range N).map fun i => Value.bool (f i) := ⟨_, rfl⟩
  have HC := Lib.hid hcs
  have hcl : cs.length = N := by rw [hcs]; simp
  have HW := Lib.hid h
  have hlt := h.lt
  clear hcs h
  go_enter Try.func84, Try.ntmps84
  go_wp2_with (at_make; refine wpList_make_row _ rfl _ _ 95 rfl 4 i0 (.bool false) Try.underlying95 hi hz0 hz1 rfl .i64 .i64 Z rfl rfl ?b1 ?b2 ?_)
  case b1 => rw [hz2]; omega
  case b2 => omega
  have HB := Lib.hid (bRow_new w Z)
  have HW2 := Lib.hid (HW.out.below ((Below.refl w.heap.size w).alloc (Nat.le_refl _) (.cells (madeCells #[.bool false] Z) 4)) hlt)
  have HX := Lib.hid ((Below.refl w.heap.size w).alloc (Nat.le_refl _) (.cells (madeCells #[.bool false] Z) 4))
  generalize w.alloc (.cells (madeCells #[.bool false] Z) 4) = w1 at HB HW2 HX
  obtain ⟨cur, q1, q2, q3⟩ := HB.out
  have hrun := run_copy_row (P := Try.prog) w1 95 59 3 4 w.heap.size N (Z - N) (Z - N) ⟨g, o, none⟩ N c cur 4 cs Try.underlying95 hsz q1 (by rw [hcl]; exact (Nat.min_eq_left (by omega)).symm)
    (fun j v hv => by
      rw [HC.out] at hv
      obtain ⟨h1, rfl⟩ := vals_get hv
      have := HW2.out.cell (i := o + j) (by have := HM.out; omega)
      rw [HF.out j h1] at this
      rw [Addr.add_lit]; exact this) (by omega) (fun v hv => by
      rw [HC.out] at hv
      obtain ⟨i, _, rfl⟩ := List.mem_map.1 hv
      rfl)
  rw [List.append_assoc] at hrun
  have q4 := setRow_heap w1 w.heap.size _ (cur.toList.take N ++ (cs ++ cur.toList.drop (N + cs.length))).toArray 4 _ q1
  have HS : Hid (BRow (w1.setRow w.heap.size (cur.toList.take N ++ (cs ++ cur.toList.drop (N + cs.length))).toArray) w.heap.size (2 * N) (behind N f)) := Lib.hid (by
    refine behind_row (by rw [q2, hZ]) (by rw [hZ]; exact q3) ?_
    rw [← HC.out]; exact q4)
  have HBS := Lib.hid (below_setRow (g := w.heap.size) HX.out (Nat.le_refl _) (cur.toList.take N ++ (cs ++ cur.toList.drop (N + cs.length))).toArray)
  clear q1 q3 q4
  generalize w1.setRow w.heap.size (cur.toList.take N ++ (cs ++ cur.toList.drop (N + cs.length))).toArray = w2 at hrun HS HBS
  go_wp2
  rw [hrun]
  simp only [Result.andThen]
  rw [Oper.upon_value]
  go_wp2
  go_ret
  exact ⟨_, rfl, Nat.le_refl _, by rw [← hZ]; exact HS.out, HBS.out⟩

theorem shiftsOf_any (g N c : Nat) (f : Nat → Bool) (w : World) (h : BRow w g N f) (h0 : 0 < N) (hN : N ≤ 100000) :
    Calls Try.prog 84 #[.slice (some ⟨g, 0, none⟩) N c] w fun e w' =>
      ∃ G, e = .returned (.slice (some ⟨G, 0, none⟩) (2 * N : Nat) (2 * N : Nat)) ∧ w.heap.size ≤ G ∧ BRow w' G (2 * N) (behind N f) ∧ Below w.heap.size w w' :=
  shiftsOf_at g 0 N N c f f w h (by omega) (fun n _ => by rw [Nat.zero_add]) h0 hN

end Go.Proofs.Ytojjfkabepkhdaa
