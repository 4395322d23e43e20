/-
  The walks of SetList and SetCount, of the program.
-/
import Derived.Test.YtiphooodijbhiabHasI
import Derived.Test.YtiphooodijbhiabInts
import Derived.Test.YtiphooodijbhiabNumberIn
namespace Go.Proofs.Ytiphooodijbhiab
open Go.RowKit

/-- The numbers of a set that are less than n. -/
def listN (t r : List Bool) (n : Nat) : List Int := ((List.range n).filter (hasB t r)).map fun (k : Nat) => (k : Int)
theorem listN_succ (t r : List Bool) (k : Nat) : listN t r (k + 1) = if hasB t r k = true then listN t r k ++ [(k : Int)] else listN t r k := by
  unfold listN
  rw [List.range_succ, List.filter_append]
  by_cases h : hasB t r k = true
  · rw [if_pos h]; simp [h]
  · rw [if_neg h]; simp [h]
theorem listN_hit {t r : List Bool} {k : Nat} (h : hasB t r k = true) : listN t r (k + 1) = listN t r k ++ [(k : Int)] := by rw [listN_succ, if_pos h]
theorem listN_miss {t r : List Bool} {k : Nat} (h : hasB t r k = false) : listN t r (k + 1) = listN t r k := by rw [listN_succ, if_neg (by rw [h]; decide)]
theorem listN_le (t r : List Bool) (n : Nat) : (listN t r n).length ≤ n := by
  unfold listN; rw [List.length_map]; exact Nat.le_trans (List.length_filter_le _ _) (by simp)
theorem ints_snoc (l : List Int) (x : Int) : ints (l ++ [x]) = ints l ++ [.int .i64 x] := by simp [ints]

theorem list_start (w : World) (o : Obj) : ((w.alloc o).alloc (.cells #[] 3)).ownsRow (w.heap.size + 1) 3 1 (.slice (some ⟨w.heap.size + 1, 0, none⟩) 0 0) 0 [] := by
  have h := World.ownsRow_made (base := w.heap.size + 1) (e := 3) (size := 1) (w.alloc o) #[] 0 (by simp) (by decide) rfl
  simp at h
  exact h

/-- Own row of the call's, behind an append. -/
theorem list_rel {t r : List Bool} {k B T0 : Nat} {W wr w1 : World} {u v' : Value} {o : Obj} (hv : hasB t r k = true)
    (hown : wr.ownsRow T0 3 1 u (listN t r k).length (ints (listN t r k))) (hnx : Below B W wr) (hBT : B ≤ T0) (hBs : B ≤ wr.heap.size)
    (hown' : w1.ownsRow T0 3 1 v' ((listN t r k).length + 1) (ints (listN t r k) ++ [.int .i64 k])) (hgrow : (wr.alloc o).grownBy w1 u.ownBlock) :
    w1.ownsRow T0 3 1 v' (listN t r (k + 1)).length (ints (listN t r (k + 1))) ∧ Below B W w1 := by
  refine ⟨by rw [listN_hit hv, ints_snoc, List.length_append]; exact hown', ?_⟩
  exact (hnx.alloc hBs o).grown hgrow (by simp; omega) (fun j hj => Nat.le_trans hBT (hown.lt j hj).1)

/-- Are s a set text and n a number from 0 to 1000? -/
def inN (s : ByteArray) (n : Int) : Bool := okS s && (decide (0 ≤ n) && decide (n ≤ 1000))
/-- What SetList answers. -/
def listV (s : ByteArray) (n : Int) : List Int := if inN s n = true then listN (setT s) (setR s) n.toNat else []
theorem inN_cases (s : ByteArray) (n : Int) : (inN s n = false ∧ listV s n = [] ∧ (okS s = false ∨ n < 0 ∨ 1000 < n)) ∨
    ∃ k : Nat, inN s n = true ∧ n = k ∧ k ≤ 1000 ∧ okS s = true ∧ listV s n = listN (setT s) (setR s) k := by
  cases h : inN s n
  · refine .inl ⟨rfl, by unfold listV; rw [h]; rfl, ?_⟩
    unfold inN at h
    cases hok : okS s
    · exact .inl rfl
    · right
      rw [hok, Bool.true_and, Bool.and_eq_false_iff, decide_eq_false_iff_not, decide_eq_false_iff_not] at h
      omega
  · have h2 := h
    unfold inN at h2
    simp only [Bool.and_eq_true, decide_eq_true_eq] at h2
    obtain ⟨k, rfl⟩ := Int.eq_ofNat_of_zero_le h2.2.1
    exact .inr ⟨k, rfl, rfl, by omega, h2.1, by unfold listV; rw [h, if_pos rfl]; rfl⟩
theorem listV_le (s : ByteArray) (n : Int) : (listV s n).length ≤ 1000 := by
  rcases inN_cases s n with ⟨_, h, _⟩ | ⟨k, _, _, hk, _, h⟩
  · rw [h]; exact Nat.zero_le _
  · rw [h]; exact Nat.le_trans (listN_le _ _ _) hk

/-- A list of the call's own, and whether it counts. -/
def ListOut (l : List Int) (b : Bool) (w : World) (e : Ending) (w' : World) : Prop :=
  ∃ a c, e = .returned (.tuple #[.slice a l.length c, .bool b]) ∧ Below w.heap.size w w' ∧ w'.ownsRow w.heap.size 3 1 (.slice a l.length c) l.length (ints l)
theorem own_empty {w w1 : World} (hb : Below w.heap.size w w1) (o : Obj) : ((w1.alloc o).alloc (.cells #[] 3)).ownsRow w.heap.size 3 1 (.slice (some ⟨w1.heap.size + 1, 0, none⟩) 0 0) 0 [] :=
  own_base (list_start w1 o) (by have := hb.size; omega)
theorem below_empty {w w1 : World} (hb : Below w.heap.size w w1) (o o2 : Obj) : Below w.heap.size w ((w1.alloc o).alloc o2) := (hb.alloc hb.size _).alloc (by have := hb.size; simp; omega) _

set_option maxRecDepth 100000 in
set_option maxHeartbeats 1000000 in
theorem implList (s : ByteArray) (n m : Int) (w : World) (hs : s.size ≤ 1048576) (hL : LibAt m w) :
    Calls Try.prog 84 #[.string s, .int .i64 n] w (ListOut (listV s n) (inN s n) w) := by
  rcases inN_cases s n with ⟨hb, hl, h⟩ | ⟨z, hb, rfl, hz, hok, hl⟩
  · rw [hb, hl]
    cases hok : okS s
    · go_enter Try.func84, Try.ntmps84
      go_wp2_with fail
      refine (split_off s m _ hs hL hok).mono ?_
      rintro e w1 ⟨rfl, hb⟩
      go_wp2
      go_ret2
      exact ⟨_, _, rfl, below_empty hb _ _, own_empty hb _⟩
    · have h' : n < 0 ∨ 1000 < n := by rcases h with h | h; rw [hok] at h; cases h; exact h
      go_enter Try.func84, Try.ntmps84
      go_wp2_with fail
      refine (split_on s m _ hs hL hok).mono ?_
      rintro e w1 ⟨T, R, rfl, hb, _⟩
      go_wp2_with fail
      refine (numberIn_no n _ h').mono ?_
      rintro e w2 ⟨rfl, rfl⟩
      go_wp2
      go_ret2
      exact ⟨_, _, rfl, below_empty hb _ _, own_empty hb _⟩
  · rw [hb, hl]
    clear hb hl
    obtain ⟨i0, hi, hz0, hz1, hz2⟩ := info_parts Try.infoInt
    go_enter Try.func84, Try.ntmps84
    go_wp2_with fail
    refine (split_on s m _ hs hL hok).mono ?_
    rintro e w0 ⟨T, R, rfl, hb, hsp⟩
    have HS := Lib.hid hsp
    clear hsp
    go_wp2_with fail
    refine (numberIn_yes z _ (by omega) (by omega)).mono ?_
    rintro e w2 ⟨rfl, rfl⟩
    go_wp2
    go_loopw [8, 25] (fun v i wr => ∃ k : Nat, k ≤ z ∧ i = .int .i64 k ∧ Below (w0.alloc (.cells #[.string T, .string R] 81)).heap.size (w0.alloc (.cells #[.string T, .string R] 81)) wr ∧
        wr.ownsRow (w0.heap.size + 1) 3 1 v (listN (setT s) (setR s) k).length (ints (listN (setT s) (setR s) k)))
      (fun _ i _ => z - (intOf i).toNat)
    case atStart => exact ⟨0, Nat.zero_le _, rfl, (Below.refl _ _).alloc (Nat.le_refl _) _, list_start _ _⟩
    case round =>
      obtain ⟨k, hk, rfl, hB, hown⟩ := hrel
      obtain ⟨q0, q1⟩ := box_later hB
      have hsz := hB.size
      simp at hsz
      have hle := listN_le (setT s) (setR s) k
      by_cases hlt : k < z
      · cases hv : hasB (setT s) (setR s) k
        · have hv' : hasI (setT s) (setR s) (k : Int) = false := by rw [hasI_nat]; exact hv
          have HV := Lib.hid hv
          have HB := Lib.hid hB
          have HO := Lib.hid hown
          clear hv hB hown
          go_wp2_with fail
          refine (has_on s T R k _ HS.out (by omega)).mono ?_
          rintro e w3 ⟨rfl, hb3⟩
          have HB3 := Lib.hid hb3
          clear hb3
          go_wp2
          go_roundw
          case rel => exact ⟨k + 1, by omega, by go_num, HB.out.trans (HB3.out.mono HB.out.size), by rw [listN_miss HV.out]; exact own_below HO.out HB3.out (Nat.le_refl _)⟩
          case measure => simp [intOf]; omega
        · have hv' : hasI (setT s) (setR s) (k : Int) = true := by rw [hasI_nat]; exact hv
          have HV := Lib.hid hv
          have HB := Lib.hid hB
          have HO := Lib.hid hown
          clear hv hB hown
          go_wp2_with fail
          refine (has_on s T R k _ HS.out (by omega)).mono ?_
          rintro e w3 ⟨rfl, hb3⟩
          have hsz3 := hb3.size
          have HB3 := Lib.hid (HB.out.trans (hb3.mono HB.out.size))
          have hown3 := own_below HO.out hb3 (Nat.le_refl _)
          clear hb3 HO
          go_wp2_with
            (at_builtin; refine wpList_append_own _ rfl _ _ 46 rfl (w0.heap.size + 1) 3 i0 (.int .i64 0) 1 8 Try.underlying46 hi hz0 hz1 hz2 rfl (by decide) _ _ _ rfl (hown3.alloc _) ⟨w3.heap.size, 0, none⟩ 1 1 [.int .i64 k] rfl rfl ?c1 ?c2 ?c3 ?c4 ?c5 ?_)
          case c1 =>
            intro j u hj
            match j, hj with
            | 0, hj => simp at hj; subst hj; simp [Addr.add]
          case c2 => intro u hu; simp at hu; subst hu; rfl
          case c3 => unfold maxLen; omega
          case c4 => omega
          case c5 => simp; omega
          intro v' w4 hown4 hgrow _
          have R := list_rel HV.out hown3 HB3.out (by simp) (by simp; omega) hown4 hgrow
          clear hown4 hgrow hown3
          go_wp2
          go_roundw
          case rel => exact ⟨k + 1, by omega, by go_num, R.2, R.1⟩
          case measure => simp [intOf]; omega
      · obtain rfl : k = z := by omega
        obtain ⟨a, c, rfl⟩ := own_form hown
        go_wp2
        go_ret2
        exact ⟨a, c, rfl, box_below hb hB, own_base hown (by have := hb.size; omega)⟩

set_option maxHeartbeats 400000 in
theorem implCount (s : ByteArray) (n m : Int) (w : World) (hs : s.size ≤ 1048576) (hL : LibAt m w) :
    Calls Try.prog 44 #[.string s, .int .i64 n] w fun e w' => e = .returned (.tuple #[.int .i64 (listV s n).length, .bool (inN s n)]) ∧ Below w.heap.size w w' := by
  go_enter Try.func44, Try.ntmps44
  go_wp2_with fail
  refine (implList s n m _ hs hL).mono ?_
  rintro e w1 ⟨a, c, rfl, hb, _⟩
  go_wp2
  go_ret2
  exact ⟨rfl, hb⟩

end Go.Proofs.Ytiphooodijbhiab
