/-
  The walk of impl.isPart: it tells whether a text is at most 60 signs. The walk of impl.splitSet: a text is cut at its first '(' and, behind it, at the first ')'. How the program reads a set text. The walk of has, of the program.
-/
import Derived.Test.YtojjfkabepkhdaaHasMath
import Derived.Test.YtojjfkabepkhdaaShelf
import Derived.Test.YtojjfkabepkhdaaSetDef
namespace Go.Proofs.Ytojjfkabepkhdaa
open Go.RowKit

set_option maxHeartbeats 400000 in
theorem isPart_any (s : ByteArray) (w : World) (hs : s.size ≤ maxLen) :
    Calls Try.prog 78 #[.string s] w fun e w' => e = .returned (.bool (partB s.data.toList)) ∧ w = w' := by
  unfold maxLen at hs
  by_cases h60 : s.size ≤ 60
  · have hd : decide ((60 : Int) < (s.size : Int)) = false := by simp; omega
    go_enter Try.func78, Try.ntmps78
    go_wp2
    go_loop [9] (fun i => ∃ k : Nat, k ≤ s.size ∧ i = .int .i64 k ∧ allSigns (s.data.toList.take k) = true) (fun i => s.size - (intOf i).toNat)
    case atStart => exact ⟨0, Nat.zero_le _, rfl, rfl⟩
    case round =>
      obtain ⟨k, hk, rfl, hall⟩ := hrel
      have HA := Lib.hid hall
      clear hall
      by_cases hlt : k < s.size
      · by_cases h0 : (s[k].toNat : Int) = 48
        · go_wp2
          go_round
          case rel => exact ⟨k + 1, by omega, by go_num, allSigns_step s k hlt HA.out (.inl h0)⟩
          case measure => simp [intOf]; omega
        · by_cases h1 : (s[k].toNat : Int) = 49
          · go_wp2
            go_round
            case rel => exact ⟨k + 1, by omega, by go_num, allSigns_step s k hlt HA.out (.inr h1)⟩
            case measure => simp [intOf]; omega
          · have b0 : ((s[k].toNat : Int) != 48) = true := by simpa using h0
            have b1 : ((s[k].toNat : Int) != 49) = true := by simpa using h1
            go_wp2
            go_ret
            exact ⟨ret_bool (part_bad s k hlt (by omega)).symm, rfl⟩
      · go_wp2
        go_ret
        exact ⟨ret_bool (part_yes s k h60 hlt HA.out).symm, rfl⟩
  · have hd : (60 : Int) < (s.size : Int) := by omega
    go_enter Try.func78, Try.ntmps78
    go_wp2
    go_ret
    exact ⟨ret_bool (part_long s h60).symm, rfl⟩

/-- T and R are what lies before and behind the first c of s. -/
structure CutIs (s : ByteArray) (c : UInt8) (T R : ByteArray) (b : Bool) : Prop where
  before : T.data.toList = (cut1 c s.data.toList).1
  behind : R.data.toList = (cut1 c s.data.toList).2.1
  is : b = (cut1 c s.data.toList).2.2

theorem cut1_le (c : UInt8) (l : List UInt8) : (cut1 c l).1.length ≤ l.length ∧ (cut1 c l).2.1.length ≤ l.length := by
  induction l with
  | nil => simp [cut1]
  | cons x l ih => unfold cut1; split <;> simp <;> omega
theorem CutIs.size {s T R : ByteArray} {c : UInt8} {b : Bool} (h : CutIs s c T R b) : T.size ≤ s.size ∧ R.size ≤ s.size := by
  have := cut1_le c s.data.toList
  rw [← h.before, ← h.behind, size_eq, size_eq, size_eq] at this
  exact this

theorem cut_any (s : ByteArray) (c : UInt8) (m : Int) (w : World) (hs : s.size ≤ 1048576) (hm : w.cell? ⟨0, 0, none⟩ = some (.int .i64 m)) :
    Calls Try.prog 77 #[.string s, .string ⟨#[c]⟩] w fun e w' => ∃ T R b, e = .returned (.tuple #[.string T, .string R, .bool b]) ∧ CutIs s c T R b ∧ ∃ n, w' = w.drewN n := by
  refine (Try.strings_Cut s ⟨#[c]⟩ m w (by omega) hm).mono ?_
  rintro e w' ⟨rfl, hn⟩
  have ec : Lib.cut s.data.toList (ByteArray.mk #[c]).data.toList = cut1 c s.data.toList := cut_eq c _
  rw [ec]
  exact ⟨_, _, _, rfl, ⟨rfl, rfl, rfl⟩, hn⟩

theorem mk_toList (T : ByteArray) : (ByteArray.mk T.data.toList.toArray) = T := by simp

theorem ok_no1 {s T R : ByteArray} (h : CutIs s 40 T R false) : setOk s.data.toList = false := by
  unfold setOk; rw [← h.is]; rfl
theorem rest_eq {s T R : ByteArray} {b : Bool} (h : CutIs s 40 T R b) : setRest s.data.toList = R.data.toList := h.behind.symm
theorem tail_eq {s T R : ByteArray} {b : Bool} (h : CutIs s 40 T R b) : setTail s.data.toList = T.data.toList := h.before.symm
theorem ring_eq {s T R T2 R2 : ByteArray} {b b2 : Bool} (h : CutIs s 40 T R b) (h2 : CutIs R 41 T2 R2 b2) : setRing s.data.toList = T2.data.toList := by
  unfold setRing; rw [rest_eq h]; exact h2.before.symm
theorem ok_eq {s T R T2 R2 : ByteArray} {b b2 : Bool} (h : CutIs s 40 T R b) (h2 : CutIs R 41 T2 R2 b2) :
    setOk s.data.toList = (b && b2 && R2.data.toList.isEmpty && !T2.data.toList.isEmpty && partB T.data.toList && partB T2.data.toList) := by
  unfold setOk; rw [ring_eq h h2, tail_eq h, rest_eq h, ← h.is, ← h2.is, ← h2.behind]
theorem ok_no2 {s T R T2 R2 : ByteArray} (h : CutIs s 40 T R true) (h2 : CutIs R 41 T2 R2 false) : setOk s.data.toList = false := by
  rw [ok_eq h h2]; rfl

/-- What splitSet hands back. -/
def splitVal (l : List UInt8) : Value :=
  if setOk l = true then .agg #[.string ⟨(setTail l).toArray⟩, .string ⟨(setRing l).toArray⟩] else .agg #[.string ⟨#[]⟩, .string ⟨#[]⟩]

theorem bytes_nil {T : ByteArray} (h : T.data.toList = []) : T = ⟨#[]⟩ := by
  obtain ⟨⟨l⟩⟩ := T
  have : l = [] := h
  rw [this]
theorem bytes_some {T : ByteArray} (h : T.data.toList ≠ []) : T.toList.isEmpty = false := by
  rw [Go.Lib.toList_data]
  cases e : T.data.toList with
  | nil => exact absurd e h
  | cons _ _ => rfl
theorem ret_no {l : List UInt8} (h : setOk l = false) : Ending.returned (.tuple #[.agg #[.string ⟨#[]⟩, .string ⟨#[]⟩], .bool false]) = .returned (.tuple #[splitVal l, .bool (setOk l)]) := by
  unfold splitVal; rw [h]; rfl
theorem ret_yes {s T R T2 R2 : ByteArray} {b b2 : Bool} (hc : CutIs s 40 T R b) (hc2 : CutIs R 41 T2 R2 b2) (h : setOk s.data.toList = true) :
    Ending.returned (.tuple #[.agg #[.string T, .string T2], .bool true]) = .returned (.tuple #[splitVal s.data.toList, .bool (setOk s.data.toList)]) := by
  unfold splitVal; rw [h, tail_eq hc, ring_eq hc hc2, mk_toList, mk_toList]; rfl
theorem below_split (w : World) (o : Obj) (n : Nat) (u v : Value) : Below w.heap.size w ((((w.alloc o).drewN n).setCell ⟨w.heap.size, 0, none⟩ u).setCell ⟨w.heap.size, 1, none⟩ v) :=
  ((below_drewN ((Below.refl _ _).alloc (Nat.le_refl _) o) n).setCell (Nat.le_refl _) u).setCell (Nat.le_refl _) v
theorem below_drewN2 (w : World) (n : Nat) (o : Obj) (m : Nat) : Below w.heap.size w (((w.alloc o).drewN n).drewN m) := by
  exact below_drewN (below_drewN ((Below.refl _ _).alloc (Nat.le_refl _) o) n) m

set_option maxHeartbeats 400000 in
theorem split_any (s : ByteArray) (m : Int) (w : World) (hs : s.size ≤ 1048576) (hg : 0 < w.heap.size) (hm : w.cell? ⟨0, 0, none⟩ = some (.int .i64 m)) :
    Calls Try.prog 57 #[.string s] w fun e w' =>
      e = .returned (.tuple #[splitVal s.data.toList, .bool (setOk s.data.toList)]) ∧ Below w.heap.size w w' := by
  go_enter Try.func57, Try.ntmps57
  go_wp2_with fail
  refine (cut_any s 40 m _ hs (by go_simp)).mono ?_
  rintro e w1 ⟨T, R, b, rfl, hc1, n1, rfl⟩
  go_wp2_with fail
  refine (cut_any R 41 m _ (by have := hc1.size; omega) (by go_simp)).mono ?_
  rintro e w1 ⟨T2, R2, b2, rfl, hc2, n2, rfl⟩
  cases b
  · have hno := Lib.hid (ok_no1 hc1)
    go_wp2
    refine bodyPost_ret (v := .tuple #[.agg #[.string ⟨#[]⟩, .string ⟨#[]⟩], .bool false]) (by simp [results, Try.results57, go_sem]) rfl ⟨ret_no hno.out, ?_⟩
    exact below_split _ _ _ _ _
  · cases b2
    · have hno := Lib.hid (ok_no2 hc1 hc2)
      go_wp2
      refine bodyPost_ret (v := .tuple #[.agg #[.string ⟨#[]⟩, .string ⟨#[]⟩], .bool false]) (by simp [results, Try.results57, go_sem]) rfl ⟨ret_no hno.out, ?_⟩
      exact below_split _ _ _ _ _
    · have HE := Lib.hid (ok_eq hc1 hc2)
      by_cases h3 : R2.data.toList = []
      · obtain rfl : R2 = ⟨#[]⟩ := bytes_nil h3
        by_cases h4 : T2.data.toList = []
        · obtain rfl : T2 = ⟨#[]⟩ := bytes_nil h4
          have hno : Hid (setOk s.data.toList = false) := Lib.hid (by rw [HE.out]; rfl)
          go_wp2
          refine bodyPost_ret (v := .tuple #[.agg #[.string ⟨#[]⟩, .string ⟨#[]⟩], .bool false]) (by simp [results, Try.results57, go_sem]) rfl ⟨ret_no hno.out, ?_⟩
          exact below_split _ _ _ _ _
        · have h4' : T2.toList.isEmpty = false := bytes_some h4
          have h4n : T2.data.toList.isEmpty = false := by cases h : T2.data.toList with | nil => exact absurd h h4 | cons _ _ => rfl
          have hT := hc1.size
          have hT2 := hc2.size
          have mT : T.size ≤ maxLen := by unfold maxLen; omega
          have mT2 : T2.size ≤ maxLen := by unfold maxLen; omega
          cases h5 : partB T.data.toList
          · have hno : Hid (setOk s.data.toList = false) := Lib.hid (by rw [HE.out, h5, h4n]; rfl)
            go_wp2_with fail
            refine (isPart_any T _ mT).mono ?_
            rintro e w1 ⟨rfl, rfl⟩
            go_wp2
            refine bodyPost_ret (v := .tuple #[.agg #[.string ⟨#[]⟩, .string ⟨#[]⟩], .bool false]) (by simp [results, Try.results57, go_sem]) rfl ⟨ret_no hno.out, ?_⟩
            exact below_split _ _ _ _ _
          · cases h6 : partB T2.data.toList
            · have hno : Hid (setOk s.data.toList = false) := Lib.hid (by rw [HE.out, h5, h6, h4n]; rfl)
              go_wp2_with fail
              refine (isPart_any T _ mT).mono ?_
              rintro e w1 ⟨rfl, rfl⟩
              go_wp2_with fail
              refine (isPart_any T2 _ mT2).mono ?_
              rintro e w1 ⟨rfl, rfl⟩
              go_wp2
              refine bodyPost_ret (v := .tuple #[.agg #[.string ⟨#[]⟩, .string ⟨#[]⟩], .bool false]) (by simp [results, Try.results57, go_sem]) rfl ⟨ret_no hno.out, ?_⟩
              exact below_split _ _ _ _ _
            · have hyes : Hid (setOk s.data.toList = true) := Lib.hid (by rw [HE.out, h5, h6, h4n]; rfl)
              go_wp2_with fail
              refine (isPart_any T _ mT).mono ?_
              rintro e w1 ⟨rfl, rfl⟩
              go_wp2_with fail
              refine (isPart_any T2 _ mT2).mono ?_
              rintro e w1 ⟨rfl, rfl⟩
              go_wp2
              refine bodyPost_ret (v := .tuple #[.agg #[.string T, .string T2], .bool true]) (by simp [results, Try.results57, go_sem]) rfl ⟨ret_yes hc1 hc2 hyes.out, ?_⟩
              exact below_split _ _ _ _ _
      · have h3' : R2.toList.isEmpty = false := bytes_some h3
        have h3n : R2.data.toList.isEmpty = false := by cases h : R2.data.toList with | nil => exact absurd h h3 | cons _ _ => rfl
        have hno : Hid (setOk s.data.toList = false) := Lib.hid (by rw [HE.out, h3n]; rfl)
        go_wp2
        refine bodyPost_ret (v := .tuple #[.agg #[.string ⟨#[]⟩, .string ⟨#[]⟩], .bool false]) (by simp [results, Try.results57, go_sem]) rfl ⟨ret_no hno.out, ?_⟩
        exact below_split _ _ _ _ _

/-- The cell of internal/bytealg.MaxLen, which strings.Cut reads. -/
structure LibAt (m : Int) (w : World) : Prop where
  lt : 0 < w.heap.size
  cell : w.cell? ⟨0, 0, none⟩ = some (.int .i64 m)

theorem LibAt.below {m : Int} {w w' : World} (h : LibAt m w) (hb : Below w.heap.size w w') : LibAt m w' :=
  ⟨Nat.lt_of_lt_of_le h.lt hb.size, (hb.cell (p := ⟨0, 0, none⟩) h.lt).trans h.cell⟩

/-- The program's parts of a text. -/
structure IsSplit (s T R : ByteArray) : Prop where
  tail : sb T.data.toList = setT s
  ring : sb R.data.toList = setR s
  tailLe : T.size ≤ 60
  ringLe : R.size ≤ 60
  ringPos : 0 < R.size
  ringText : R.data.toList = setRing s.data.toList

theorem IsSplit.tailLen {s T R : ByteArray} (h : IsSplit s T R) : (setT s).length = T.size := by rw [← h.tail, sb_length, size_eq]

theorem IsSplit.ringLen {s T R : ByteArray} (h : IsSplit s T R) : (setR s).length = R.size := by rw [← h.ring, sb_length, size_eq]

theorem split_on (s : ByteArray) (m : Int) (w : World) (hs : s.size ≤ 1048576) (hL : LibAt m w) (hok : okS s = true) :
    Calls Try.prog 57 #[.string s] w fun e w' =>
      ∃ T R, e = .returned (.tuple #[.agg #[.string T, .string R], .bool true]) ∧ Below w.heap.size w w' ∧ IsSplit s T R := by
  have hok' : setOk s.data.toList = true := hok
  refine (split_any s m w hs hL.lt hL.cell).mono ?_
  rintro e w' ⟨rfl, hb⟩
  refine ⟨⟨(setTail s.data.toList).toArray⟩, ⟨(setRing s.data.toList).toArray⟩, by unfold splitVal; rw [hok', if_pos rfl], hb, rfl, rfl, ?_, ?_, ?_, rfl⟩
  · exact tail_le hok'
  · exact ring_le hok'
  · exact ring_pos hok'

theorem split_off (s : ByteArray) (m : Int) (w : World) (hs : s.size ≤ 1048576) (hL : LibAt m w) (hok : okS s = false) :
    Calls Try.prog 57 #[.string s] w fun e w' =>
      e = .returned (.tuple #[.agg #[.string ⟨#[]⟩, .string ⟨#[]⟩], .bool false]) ∧ Below w.heap.size w w' := by
  have hok' : setOk s.data.toList = false := hok
  refine (split_any s m w hs hL.lt hL.cell).mono ?_
  rintro e w' ⟨rfl, hb⟩
  exact ⟨by unfold splitVal; rw [hok']; rfl, hb⟩

set_option maxHeartbeats 400000 in
theorem has_any (T R : ByteArray) (n : Int) (w : World) (hT : T.size ≤ 60) (hR : R.size ≤ 60) (hR0 : 0 < R.size) (hn : n ≤ 9223372036854775807) :
    Calls Try.prog 58 #[.agg #[.string T, .string R], .int .i64 n] w fun e w' =>
      e = .returned (.bool (hasI (sb T.data.toList) (sb R.data.toList) n)) ∧ Below w.heap.size w w' := by
  by_cases h0 : n < 0
  · have H := Lib.hid (hasI_neg (sb T.data.toList) (sb R.data.toList) n h0)
    go_enter Try.func58, Try.ntmps58
    go_wp2
    go_ret
    exact ⟨ret_bool H.out.symm, (Below.refl _ _).alloc (Nat.le_refl _) _⟩
  · obtain ⟨k, rfl⟩ := Int.eq_ofNat_of_zero_le (show 0 ≤ n by omega)
    by_cases h1 : k < T.size
    · have H : Hid (hasI (sb T.data.toList) (sb R.data.toList) (k : Int) = ((T[k].toNat : Int) == 49)) := by
        refine Lib.hid ?_
        rw [hasI_nat, hasB_tail _ _ _ (by rw [sb_length, size_eq]; exact h1), at_sb T k h1]
      go_enter Try.func58, Try.ntmps58
      go_wp2
      go_ret
      exact ⟨ret_bool H.out.symm, (Below.refl _ _).alloc (Nat.le_refl _) _⟩
    · obtain ⟨j, rfl⟩ : ∃ j, k = T.size + j := ⟨k - T.size, by omega⟩
      have hj : j % R.size < R.size := Nat.mod_lt _ hR0
      have H : Hid (hasI (sb T.data.toList) (sb R.data.toList) ((T.size + j : Nat) : Int) = ((R[j % R.size].toNat : Int) == 49)) := by
        refine Lib.hid ?_
        have e : T.size + j = (sb T.data.toList).length + j := by rw [sb_length, size_eq]
        rw [hasI_nat, e, hasB_ring, sb_length, size_eq, at_sb R _ hj]
      go_enter Try.func58, Try.ntmps58
      go_wp2
      have hE : ¬ R = ByteArray.empty := by intro e; subst e; exact absurd hR0 (by decide)
      have hw5 : ((j : Int) % (R.size : Int)) < (R.size : Int) := by omega
      have hw6 : (0 : Int) ≤ ((j : Int) % (R.size : Int)) := by omega
      have hw7 : ((j : Int) % (R.size : Int)).toNat = j % R.size := rfl
      have hw1 : IntKind.i64.wrap ((T.size : Int) + (j : Int) - (T.size : Int)) = (j : Int) := by rw [IntWalk.i64_in _ (by omega)]; omega
      go_quiet (fail)
      go_wp2
      go_ret
      exact ⟨ret_bool H.out.symm, below_drewN ((Below.refl _ _).alloc (Nat.le_refl _) _) _⟩

theorem has_on (s T R : ByteArray) (n : Int) (w : World) (h : IsSplit s T R) (hn : n ≤ 9223372036854775807) :
    Calls Try.prog 58 #[.agg #[.string T, .string R], .int .i64 n] w fun e w' =>
      e = .returned (.bool (hasI (setT s) (setR s) n)) ∧ Below w.heap.size w w' := by
  have := has_any T R n w h.tailLe h.ringLe h.ringPos hn
  rw [h.tail, h.ring] at this
  exact this

theorem has_nat {s T R : ByteArray} {n : Nat} {w : World} (h : IsSplit s T R) (hn : n ≤ 1000000) :
    Calls Try.prog 58 #[.agg #[.string T, .string R], .int .i64 n] w fun e w' => e = .returned (.bool (fS s n)) ∧ Below w.heap.size w w' := by
  have := has_on s T R n w h (by omega)
  rw [hasI_nat] at this
  exact this

end Go.Proofs.Ytojjfkabepkhdaa
