/-
  The walks of TermList, of the program and of the model.
-/
import Derived.Test.YtiphooodijbhiaaTermHas
set_option linter.unusedVariables false
set_option linter.unusedSimpArgs false
namespace Go.Proofs.Ytiphooodijbhiaa
open Go.RowKit

/-- The numbers less than k, as a list. -/
noncomputable def listF (f : Nat → Bool) (k : Nat) : List Int := ((List.range k).filter f).map fun (n : Nat) => (n : Int)
theorem listF_hit {f : Nat → Bool} {k : Nat} (h : f k = true) : listF f (k + 1) = listF f k ++ [(k : Int)] := by unfold listF; rw [List.range_succ, List.filter_append, List.map_append]; simp [h]
theorem listF_miss {f : Nat → Bool} {k : Nat} (h : f k = false) : listF f (k + 1) = listF f k := by unfold listF; rw [List.range_succ, List.filter_append, List.map_append]; simp [h]
theorem listF_le (f : Nat → Bool) (k : Nat) : (listF f k).length ≤ k := by
  unfold listF; rw [List.length_map]; exact Nat.le_trans (List.length_filter_le _ _) (by simp)
/-- What TermList answers. -/
noncomputable def tlistV (s : ByteArray) (n : Int) : List Int := match termOf s.data.toList with | some t => if inR n 0 200 = true then listF (tmF t) n.toNat else [] | none => []
def tlistB (s : ByteArray) (n : Int) : Bool := (termOf s.data.toList).isSome && inR n 0 200
theorem tlist_none {s : ByteArray} {n : Int} (h : termOf s.data.toList = none) : tlistV s n = [] ∧ tlistB s n = false := by
  unfold tlistV tlistB; rw [h]; exact ⟨rfl, rfl⟩
theorem tlist_out {s : ByteArray} {n : Int} {t : Tm} (h : termOf s.data.toList = some t) (hn : inR n 0 200 = false) : tlistV s n = [] ∧ tlistB s n = false := by
  unfold tlistV tlistB; rw [h, hn]; exact ⟨rfl, rfl⟩
theorem tlist_in {s : ByteArray} {k : Nat} {t : Tm} (h : termOf s.data.toList = some t) (hk : k ≤ 200) : tlistV s k = listF (tmF t) k ∧ tlistB s k = true := by
  have e : inR (k : Int) 0 200 = true := by
    rcases inR_cases k 0 200 with ⟨e, _⟩ | ⟨_, e⟩
    · exact e
    · omega
  unfold tlistV tlistB; rw [h, e]; exact ⟨by simp, rfl⟩
theorem tlistV_le (s : ByteArray) (n : Int) : (tlistV s n).length ≤ 200 := by
  cases h : termOf s.data.toList with
  | none => rw [(tlist_none h).1]; exact Nat.zero_le _
  | some t =>
    rcases inR_cases n 0 200 with ⟨_, h1, h2⟩ | ⟨e, _⟩
    · obtain ⟨k, rfl⟩ := Int.eq_ofNat_of_zero_le h1
      rw [(tlist_in h (by omega)).1]
      exact Nat.le_trans (listF_le _ _) (by omega)
    · rw [(tlist_out h e).1]; exact Nat.zero_le _
/-- A list of the call's own, and whether it counts. -/
def TListOut (l : List Int) (b : Bool) (w : World) (e : Ending) (w' : World) : Prop :=
  ∃ a c, e = .returned (.tuple #[.slice a l.length c, .bool b]) ∧ Below w.heap.size w w' ∧ w'.ownsRow w.heap.size 3 1 (.slice a l.length c) l.length (ints l)
theorem own_fresh {w w1 : World} (hb : Below w.heap.size w w1) : (w1.alloc (.cells #[] 3)).ownsRow w.heap.size 3 1 (.slice (some ⟨w1.heap.size, 0, none⟩) 0 0) 0 (ints []) :=
  World.ownsRow_made (base := w.heap.size) (e := 3) (size := 1) w1 #[] 0 hb.size (by decide) rfl
theorem own_notB {w : World} {base n D N : Nat} {c : Nat → Bool} {v : Value} {xs : List Value} (h : w.ownsRow base 3 1 v n xs) (hD : BRow w D N c) : v.ownBlock ≠ some D := by
  intro hj
  obtain ⟨cur0, h1, _, _⟩ := hD
  rcases h.2 with ⟨hv, _⟩ | ⟨g, cap, cur, hv, _, hh, _⟩
  · rw [hv] at hj; cases hj
  · rw [hv] at hj
    have : g = D := by injection hj
    subst this
    rw [hh] at h1
    injection h1 with h1
    injection h1 with _ h1 _
    exact absurd h1 (by decide)
/-- The world of TermList's loop. -/
structure ListLoop (f : Nat → Bool) (G o N M k : Nat) (w wr : World) (v : Value) : Prop where
  num : NumAt wr G o N M f
  own : wr.ownsRow w.heap.size 3 1 v (listF f k).length (ints (listF f k))
  below : Below w.heap.size w wr
theorem ListLoop.skip {f : Nat → Bool} {G o N M k : Nat} {w wr : World} {v : Value} (h : ListLoop f G o N M k w wr v) (hf : f k = false) : ListLoop f G o N M (k + 1) w wr v :=
  ⟨h.num, by rw [listF_miss hf]; exact h.own, h.below⟩
theorem ListLoop.grow {f : Nat → Bool} {G o N M k : Nat} {w wr w1 : World} {u v' : Value} {ob : Obj} (h : ListLoop f G o N M k w wr u)
    (hown : w1.ownsRow w.heap.size 3 1 v' ((listF f k).length + 1) (ints (listF f k) ++ [.int .i64 k])) (hgrow : (wr.alloc ob).grownBy w1 u.ownBlock) (hf : f k = true) : ListLoop f G o N M (k + 1) w w1 v' := by
  have hs := h.below.size
  refine ⟨?_, ?_, (h.below.alloc hs ob).grown hgrow (by simp; omega) (fun j hj => (h.own.lt j hj).1)⟩
  · obtain ⟨F, q1, q2⟩ := h.num
    have q3 := q1.step ((Below.refl wr.heap.size wr).alloc (Nat.le_refl _) ob)
    have hl := q3.lt
    have hne := own_notB h.own q1
    obtain ⟨cur, r1, r2, r3⟩ := q3
    exact ⟨F, ⟨cur, (hgrow.block G hl (fun e => hne e.symm)).trans r1, r2, r3⟩, q2⟩
  · rw [listF_hit hf]
    have e : ints (listF f k ++ [(k : Int)]) = ints (listF f k) ++ [.int .i64 k] := by simp [ints]
    rw [e, List.length_append]
    exact hown

set_option maxRecDepth 100000 in
set_option maxHeartbeats 2000000 in
theorem implTermList_in (s : ByteArray) (K : Nat) (t : Tm) (m : Int) (w : World) (hL : LibAt m w) (h : termOf s.data.toList = some t) (hK : K ≤ 200) : Calls Try.prog 44 #[.string s, .int .i64 K] w (TListOut (listF (tmF t) K) true w) := by
  obtain ⟨i0, hi, hz0, hz1, hz2⟩ := info_parts Try.infoInt
  have HL := Lib.hid hL
  have HI := Lib.hid (fun w => readTerm_any s w)
  rw [h] at HI
  obtain ⟨_, ho, _⟩ := termOf_some h
  have HT := Lib.hid (fun w hL => termFirst_any m t w ho hL)
  have hm := method_first t
  have he := first_enters t
  have hin : inR (K : Int) 0 200 = true := by
    rcases inR_cases K 0 200 with ⟨e, _⟩ | ⟨_, e⟩
    · exact e
    · omega
  have HIN := Lib.hid (fun w => between_in K 0 200 w hin)
  clear hin h ho hL
  go_enter Try.func44, Try.ntmps44
  go_wp2_with fail
  refine (HI.out _).mono ?_
  rintro e w1 ⟨hr, j, rfl⟩
  rw [show e = _ from hr]
  clear hr
  have HB := Lib.hid (below_drewN (Below.refl w.heap.size w) j)
  have HO := Lib.hid (own_fresh HB.out)
  have HB1 := Lib.hid (HB.out.alloc HB.out.size (.cells #[] 3))
  simp only [tmV]
  go_wp2_with (go_at_call 65; (with_reducible refine (HIN.out _).mono ?_); rintro e w3 ⟨rfl, rfl⟩)
  go_wp2_with (go_at_fn (firstF t); refine (HT.out _ (HL.out.below HB1.out)).mono ?_; rintro e w2 ⟨⟨G, o, M, rfl, hG, hN⟩, hb⟩; have HL0 : Hid (ListLoop (tmF t) G o 201 M 0 w w2 (.slice (some ⟨w.heap.size, 0, none⟩) 0 0)) := Lib.hid ⟨hN, own_below HO.out hb (Nat.le_refl _), HB1.out.trans (hb.mono HB1.out.size)⟩; clear hG hN hb)
  have hKi : (K : Int) ≤ 201 := by omega
  go_wp2
  go_loopw [8, 30] (fun lv i wr => ∃ k : Nat, k ≤ K ∧ i = .int .i64 k ∧ ListLoop (tmF t) G o 201 M k w wr lv) (fun _ i _ => K - (intOf i).toNat)
  case atStart => exact ⟨0, Nat.zero_le _, rfl, HL0.out⟩
  case round =>
    obtain ⟨k, hkk, rfl, hl⟩ := hrel
    have HL := Lib.hid hl
    have hlen := listF_le (tmF t) k
    have hsz := hl.below.size
    by_cases hlt : k < K
    · have c1 := hl.num.cell (i := k) (by omega)
      clear hl
      cases hf : tmF t k
      · rw [hf] at c1
        have HL5 := Lib.hid (HL.out.skip hf)
        clear hf
        go_wp2
        go_roundw
        case rel => exact ⟨k + 1, by omega, by go_num, HL5.out⟩
        case measure => simp [intOf]; omega
      · rw [hf] at c1
        have HF := Lib.hid hf
        clear hf
        go_wp2_with
          (at_builtin; refine wpList_append_own _ rfl _ _ 23 rfl w.heap.size 3 i0 (.int .i64 0) 1 8 Try.underlying23 hi hz0 hz1 hz2 rfl (by decide) _ _ _ rfl (HL.out.own.alloc _) ⟨wr.heap.size, 0, none⟩ 1 1 [.int .i64 k] rfl rfl ?c1 ?c2 ?c3 ?c4 ?c5 ?_)
        case c1 =>
          intro j u hj
          match j, hj with
          | 0, hj => simp at hj; subst hj; simp [Addr.add]
        case c2 => intro u hu; simp at hu; subst hu; rfl
        case c3 => unfold maxLen; omega
        case c4 => omega
        case c5 => simp; omega
        intro v' w5 hown5 hgrow _
        have HL5 := Lib.hid (HL.out.grow hown5 hgrow HF.out)
        clear hown5 hgrow c1
        go_wp2
        go_roundw
        case rel => exact ⟨k + 1, by omega, by go_num, HL5.out⟩
        case measure => simp [intOf]; omega
    · obtain rfl : k = K := by omega
      obtain ⟨a, c, rfl⟩ := own_form hl.own
      clear hl
      go_wp2
      go_ret2
      exact ⟨a, c, rfl, HL.out.below, HL.out.own⟩

theorem implTermList_off1 (s : ByteArray) (n m : Int) (w : World) (h : termOf s.data.toList = none) : Calls Try.prog 44 #[.string s, .int .i64 n] w (TListOut [] false w) := by
  have HI := Lib.hid (fun w => readTerm_any s w)
  rw [h] at HI
  clear h
  go_enter Try.func44, Try.ntmps44
  go_wp2_with fail
  refine (HI.out _).mono ?_
  rintro e w1 ⟨he, k, rfl⟩
  rw [show e = _ from he]
  clear he
  have HB := Lib.hid (below_drewN (Below.refl w.heap.size w) k)
  have HO := Lib.hid (own_fresh HB.out)
  have HB1 := Lib.hid (HB.out.alloc HB.out.size (.cells #[] 3))
  go_wp2_with fail
  go_ret2
  exact ⟨_, _, rfl, HB1.out, HO.out⟩
theorem implTermList_off2 (s : ByteArray) (n m : Int) (t : Tm) (w : World) (h : termOf s.data.toList = some t) (hn : inR n 0 200 = false) : Calls Try.prog 44 #[.string s, .int .i64 n] w (TListOut [] false w) := by
  have HI := Lib.hid (fun w => readTerm_any s w)
  rw [h] at HI
  have HOUT := Lib.hid (fun w => between_out n 0 200 w hn)
  clear h hn
  go_enter Try.func44, Try.ntmps44
  go_wp2_with fail
  refine (HI.out _).mono ?_
  rintro e w1 ⟨he, k, rfl⟩
  rw [show e = _ from he]
  clear he
  have HB := Lib.hid (below_drewN (Below.refl w.heap.size w) k)
  have HO := Lib.hid (own_fresh HB.out)
  have HB1 := Lib.hid (HB.out.alloc HB.out.size (.cells #[] 3))
  go_wp2_with (go_at_call 65; (with_reducible refine (HOUT.out _).mono ?_); rintro e w3 ⟨rfl, rfl⟩)
  go_ret2
  exact ⟨_, _, rfl, HB1.out, HO.out⟩
theorem implTermList (s : ByteArray) (n m : Int) (w : World) (hL : LibAt m w) : Calls Try.prog 44 #[.string s, .int .i64 n] w (TListOut (tlistV s n) (tlistB s n) w) := by
  cases h : termOf s.data.toList with
  | none => rw [(tlist_none h).1, (tlist_none h).2]; exact implTermList_off1 s n m w h
  | some t =>
    rcases inR_cases n 0 200 with ⟨_, h1, h2⟩ | ⟨e, _⟩
    · obtain ⟨k, rfl⟩ := Int.eq_ofNat_of_zero_le h1
      rw [(tlist_in h (k := k) (by omega)).1, (tlist_in h (k := k) (by omega)).2]
      exact implTermList_in s k t m w hL h (by omega)
    · rw [(tlist_out h e).1, (tlist_out h e).2]; exact implTermList_off2 s n m t w h e

set_option maxRecDepth 100000 in
set_option maxHeartbeats 2000000 in
theorem specTermList_in (s : ByteArray) (K : Nat) (t : Tm) (w : World) (h : termOf s.data.toList = some t) (hK : K ≤ 200) : Calls Try.prog 45 #[.string s, .int .i64 K] w (TListOut (listF (tmF t) K) true w) := by
  obtain ⟨i0, hi, hz0, hz1, hz2⟩ := info_parts Try.infoInt
  have HI := Lib.hid (fun w => l7Of_any s w)
  rw [h] at HI
  obtain ⟨_, ho, _⟩ := termOf_some h
  have HT := Lib.hid (fun B v N w hI hN => marks_any t B v N w ho hI hN)
  clear h ho
  have HO := Lib.hid (own_fresh (Below.refl w.heap.size w))
  go_enter Try.func45, Try.ntmps45
  go_wp2_with fail
  refine (HI.out _).mono ?_
  rintro e w1 ⟨he, hb⟩
  obtain ⟨c, a, q, j, rfl, hI⟩ := he.form
  have HB := Lib.hid ((((Below.refl w.heap.size w).alloc (Nat.le_refl _) (.cells #[] 3)).trans (hb.mono (by simp))).alloc (by have := hb.size; simp at this; omega) (.cells #[.int .u8 c.toNat, .slice a q j] 100))
  have HO1 := Lib.hid (own_below (own_below HO.out hb (Nat.le_refl _)) ((Below.refl _ _).alloc (Nat.le_refl _) (.cells #[.int .u8 c.toNat, .slice a q j] 100)) (Nat.le_refl _))
  have HX := Lib.hid (HT.out _ _ K (w1.alloc (.cells #[.int .u8 c.toNat, .slice a q j] 100)) ((hI t rfl).step ((Below.refl _ _).alloc (Nat.le_refl _) _)) (by omega))
  clear he hb hI
  go_wp2_with fail
  refine (l6In_yes K 0 200 _ (by omega) (by omega)).mono ?_
  rintro e w2 ⟨rfl, rfl⟩
  go_wp2_with fail
  refine HX.out.mono ?_
  rintro e w2 ⟨⟨G, rfl, hG, hr⟩, hb2⟩
  obtain ⟨o, hoo⟩ : ∃ o, o = 0 := ⟨_, rfl⟩
  obtain ⟨M, hM⟩ : ∃ M, M = K := ⟨_, rfl⟩
  have HL0 : Hid (ListLoop (tmF t) G 0 K K 0 w w2 (.slice (some ⟨w.heap.size, 0, none⟩) 0 0)) := Lib.hid ⟨hr.num, own_below HO1.out hb2 (Nat.le_refl _), HB.out.trans (hb2.mono HB.out.size)⟩
  clear hG hr hb2 hoo hM o M
  go_wp2
  go_loopw [6, 10] (fun lv i wr => ∃ k : Nat, k ≤ K ∧ i = .int .i64 k ∧ ListLoop (tmF t) G 0 K K k w wr lv) (fun _ i _ => K - (intOf i).toNat)
  case atStart => exact ⟨0, Nat.zero_le _, rfl, HL0.out⟩
  case round =>
    obtain ⟨k, hkk, rfl, hl⟩ := hrel
    have HL := Lib.hid hl
    have hlen := listF_le (tmF t) k
    have hsz := hl.below.size
    by_cases hlt : k < K
    · have c1 := hl.num.cell (i := k) (by omega)
      rw [Nat.zero_add] at c1
      clear hl
      cases hf : tmF t k
      · rw [hf] at c1
        have HL5 := Lib.hid (HL.out.skip hf)
        clear hf
        go_wp2
        go_roundw
        case rel => exact ⟨k + 1, by omega, by go_num, HL5.out⟩
        case measure => simp [intOf]; omega
      · rw [hf] at c1
        have HF := Lib.hid hf
        clear hf
        go_wp2_with
          (at_builtin; refine wpList_append_own _ rfl _ _ 23 rfl w.heap.size 3 i0 (.int .i64 0) 1 8 Try.underlying23 hi hz0 hz1 hz2 rfl (by decide) _ _ _ rfl (HL.out.own.alloc _) ⟨wr.heap.size, 0, none⟩ 1 1 [.int .i64 k] rfl rfl ?c1 ?c2 ?c3 ?c4 ?c5 ?_)
        case c1 =>
          intro j u hj
          match j, hj with
          | 0, hj => simp at hj; subst hj; simp [Addr.add]
        case c2 => intro u hu; simp at hu; subst hu; rfl
        case c3 => unfold maxLen; omega
        case c4 => omega
        case c5 => simp; omega
        intro v' w5 hown5 hgrow _
        have HL5 := Lib.hid (HL.out.grow hown5 hgrow HF.out)
        clear hown5 hgrow c1
        go_wp2
        go_roundw
        case rel => exact ⟨k + 1, by omega, by go_num, HL5.out⟩
        case measure => simp [intOf]; omega
    · obtain rfl : k = K := by omega
      obtain ⟨a, c, rfl⟩ := own_form hl.own
      clear hl
      go_wp2
      go_ret2
      exact ⟨a, c, rfl, HL.out.below, HL.out.own⟩

set_option maxHeartbeats 1000000 in
theorem specTermList_off1 (s : ByteArray) (n : Int) (w : World) (h : termOf s.data.toList = none) : Calls Try.prog 45 #[.string s, .int .i64 n] w (TListOut [] false w) := by
  have HI := Lib.hid (fun w => l7Of_any s w)
  rw [h] at HI
  clear h
  have HO := Lib.hid (own_fresh (Below.refl w.heap.size w))
  go_enter Try.func45, Try.ntmps45
  go_wp2_with fail
  refine (HI.out _).mono ?_
  rintro e w1 ⟨he, hb⟩
  obtain ⟨c, a, q, j, rfl, _⟩ := he.form
  have HB := Lib.hid ((((Below.refl w.heap.size w).alloc (Nat.le_refl _) (.cells #[] 3)).trans (hb.mono (by simp))).alloc (by have := hb.size; simp at this; omega) (.cells #[.int .u8 c.toNat, .slice a q j] 100))
  have HO1 := Lib.hid (own_below (own_below HO.out hb (Nat.le_refl _)) ((Below.refl _ _).alloc (Nat.le_refl _) (.cells #[.int .u8 c.toNat, .slice a q j] 100)) (Nat.le_refl _))
  clear he hb
  go_wp2_with fail
  go_ret2
  exact ⟨_, _, rfl, HB.out, HO1.out⟩
set_option maxHeartbeats 1000000 in
theorem specTermList_off2 (s : ByteArray) (n : Int) (t : Tm) (w : World) (h : termOf s.data.toList = some t) (hn : n < 0 ∨ 200 < n) : Calls Try.prog 45 #[.string s, .int .i64 n] w (TListOut [] false w) := by
  have HI := Lib.hid (fun w => l7Of_any s w)
  rw [h] at HI
  clear h
  have HO := Lib.hid (own_fresh (Below.refl w.heap.size w))
  go_enter Try.func45, Try.ntmps45
  go_wp2_with fail
  refine (HI.out _).mono ?_
  rintro e w1 ⟨he, hb⟩
  obtain ⟨c, a, q, j, rfl, _⟩ := he.form
  have HB := Lib.hid ((((Below.refl w.heap.size w).alloc (Nat.le_refl _) (.cells #[] 3)).trans (hb.mono (by simp))).alloc (by have := hb.size; simp at this; omega) (.cells #[.int .u8 c.toNat, .slice a q j] 100))
  have HO1 := Lib.hid (own_below (own_below HO.out hb (Nat.le_refl _)) ((Below.refl _ _).alloc (Nat.le_refl _) (.cells #[.int .u8 c.toNat, .slice a q j] 100)) (Nat.le_refl _))
  clear he hb
  go_wp2_with fail
  refine (l6In_no n 0 200 _ hn (by decide)).mono ?_
  rintro e w2 ⟨rfl, rfl⟩
  go_wp2_with fail
  go_ret2
  exact ⟨_, _, rfl, HB.out, HO1.out⟩
theorem specTermList (s : ByteArray) (n : Int) (w : World) : Calls Try.prog 45 #[.string s, .int .i64 n] w (TListOut (tlistV s n) (tlistB s n) w) := by
  cases h : termOf s.data.toList with
  | none => rw [(tlist_none h).1, (tlist_none h).2]; exact specTermList_off1 s n w h
  | some t =>
    rcases inR_cases n 0 200 with ⟨_, h1, h2⟩ | ⟨e, e2⟩
    · obtain ⟨k, rfl⟩ := Int.eq_ofNat_of_zero_le h1
      rw [(tlist_in h (k := k) (by omega)).1, (tlist_in h (k := k) (by omega)).2]
      exact specTermList_in s k t w h (by omega)
    · rw [(tlist_out h e).1, (tlist_out h e).2]; exact specTermList_off2 s n t w h e2

end Go.Proofs.Ytiphooodijbhiaa
