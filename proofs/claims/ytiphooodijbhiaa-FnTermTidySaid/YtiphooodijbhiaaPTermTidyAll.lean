/-
  A slice of integers that came in, as a walk is told of it. A slice of bytes that came in: some bytes. What the walks of chapter 7's promises share. The walks of TermList, of the program and of the model. The walks of spec.l7Tidy, whatever the term, and of spec.TermTidy. The walks of TermSize, of the program and of the model. The walk of the laws' own sameInts. The walk of the law FnTermTidy.
-/
import Derived.Test.YtiphooodijbhiaaInts
import Derived.Test.YtiphooodijbhiaaSetDef
import Derived.Test.YtiphooodijbhiaaDrawOpen
import Derived.Test.YtiphooodijbhiaaDrawSaid
import Derived.Test.YtiphooodijbhiaaTermSem
import Derived.Test.YtiphooodijbhiaaTermHas
import Derived.Test.YtiphooodijbhiaaTermTidyPS
import Derived.Test.YtiphooodijbhiaaTermPair
import Derived.Test.YtiphooodijbhiaaTermI
import Derived.Test.YtiphooodijbhiaaTermPart
import Derived.Test.YtiphooodijbhiaaShelf
import Derived.Test.YtiphooodijbhiaaTermTidyAll

namespace Go.Proofs.Ytiphooodijbhiaa
open Go.RowKit
set_option linter.unusedVariables false

theorem lt_of_cell1 {w : World} {b o : Nat} {v : Value} (h : w.cell? ⟨b, o, none⟩ = some v) : b < w.heap.size := by
  rcases Nat.lt_or_ge b w.heap.size with k | k
  · exact k
  · simp [World.cell?, Array.getElem?_eq_none k] at h
/-- What a walk is told of a slice of integers that came in. -/
def IsRow (k : IntKind) (w : World) (a : Option Addr) (len cap : Nat) (zs : List Int) : Prop :=
  (a = none ∧ len = 0 ∧ cap = 0 ∧ zs = []) ∨
  ∃ x, a = some x ∧ len ≤ cap ∧ cap ≤ maxLen ∧ zs.length = cap ∧ (∀ i, i < zs.length → w.cell? (x.add i) = some (.int k (zs.getD i 0))) ∧ ∀ n ∈ zs, (Lit.int k n).wf = true
theorem IsRow.reads {w : World} {a : Option Addr} {len cap : Nat} {zs : List Int} (h : IsRow .i64 w a len cap zs) : ReadsI w a len (zs.take len) := by
  rcases h with ⟨rfl, rfl, rfl, rfl⟩ | ⟨x, rfl, hl, hm, hz, hc, _⟩
  · exact ⟨rfl, .inl rfl⟩
  · refine ⟨by rw [List.length_take]; omega, ?_⟩
    rcases Nat.eq_zero_or_pos len with h0 | h0
    · exact .inl h0
    · right
      obtain ⟨b, off, spot⟩ := x
      have h1 := hc 0 (by omega)
      have hspot : spot = none := by simpa [Addr.add] using World.cell?_spot h1
      subst hspot
      have hadd : ∀ j, (⟨b, off, none⟩ : Addr).add j = ⟨b, off + j, none⟩ := fun j => by unfold Addr.add; split <;> simp_all
      refine ⟨b, off, rfl, lt_of_cell1 (by rw [hadd] at h1; exact h1), fun i hi => ?_⟩
      have := hc i (by omega)
      rw [hadd] at this
      rw [this, List.getD_eq_getElem?_getD, List.getD_eq_getElem?_getD, List.getElem?_take_of_lt hi]

theorem IsRow.cap {k : IntKind} {w : World} {a : Option Addr} {len cap : Nat} {zs : List Int} (h : IsRow k w a len cap zs) : len ≤ cap := by
  rcases h with ⟨_, rfl, rfl, _⟩ | ⟨x, _, hl, _⟩
  · exact Nat.le_refl _
  · exact hl

end Go.Proofs.Ytiphooodijbhiaa

namespace Go.Proofs.Ytiphooodijbhiaa
open Go.RowKit

theorem IsRow.bytes {w : World} {a : Option Addr} {len cap : Nat} {zs : List Int} (h : IsRow .u8 w a len cap zs) : Bytes w a len := by
  rcases h with ⟨rfl, rfl, rfl, rfl⟩ | ⟨x, rfl, hl, hm, hz, hc, hw⟩
  · exact .inl rfl
  · rcases Nat.eq_zero_or_pos len with h0 | h0
    · exact .inl h0
    · right
      obtain ⟨b, off, spot⟩ := x
      have h1 := hc 0 (by omega)
      have hspot : spot = none := by simpa [Addr.add] using World.cell?_spot h1
      subst hspot
      have hadd : ∀ j, (⟨b, off, none⟩ : Addr).add j = ⟨b, off + j, none⟩ := fun j => by unfold Addr.add; split <;> simp_all
      refine ⟨b, off, rfl, lt_of_some (by rw [hadd] at h1; exact h1), fun i hi => ⟨zs.getD i 0, ?_, ?_⟩⟩
      · have := hc i (by omega)
        rw [hadd] at this
        exact this
      · have hmem : zs.getD i 0 ∈ zs := by
          rw [List.getD_eq_getElem?_getD, List.getElem?_eq_getElem (by omega)]; exact List.getElem_mem _
        have := hw _ hmem
        simp only [Lit.wf, Bool.and_eq_true, decide_eq_true_eq] at this
        have e1 : IntKind.u8.min = 0 := rfl
        have e2 : IntKind.u8.max = 255 := rfl
        rw [e1, e2] at this
        exact this
end Go.Proofs.Ytiphooodijbhiaa

set_option linter.unusedVariables false
set_option linter.unusedSimpArgs false
namespace Go.Proofs.Ytiphooodijbhiaa
open Go.RowKit

/-- A number is drawn from a row of five. -/
theorem pick_at {R : Nat} {a : Option Addr} {n c p : Nat} {w w0 : World} (h : Rd R a n c p w) (hp : p ≤ 1000) (hR : R < w.heap.size) (hb : Below w.heap.size w w0) (M : Int) (m : Nat) (hM : M = (m : Int)) (hm0 : 0 < m) (hm : m ≤ 1000000) :
    Calls Try.prog 60 #[.pointer (some ⟨R, 0, none⟩), .int .i64 M] w0 fun e w' =>
      ∃ v : Nat, e = .returned (.int .i64 v) ∧ v < m ∧ Rd R a n c (p + 1) w' ∧ Apart R w0 w' ∧ Apart R w w' := by
  subst hM
  refine (pick_rd (h.below hb hR) m (by omega) hm0 hm).mono ?_
  rintro e w' ⟨v, h1, h2, h3, h4, _⟩
  exact ⟨v, h1, h2, h3, h4, (Apart.of_below (Nat.le_of_lt hR) hb).trans h4⟩
theorem five_at (y1 y2 v : Nat) (h1 : y1 < 30) (h2 : y2 < 201) (hv : v < 5) : ∃ x : Int, (-1 ≤ x ∧ x ≤ 201) ∧ (#[.int .i64 y1, .int .i64 y2, .int .i64 200, .int .i64 201, .int .i64 (-1)] : Array Value)[v]? = some (.int .i64 x) ∧
    ∀ W : World, (W.alloc (.cells #[.int .i64 y1, .int .i64 y2, .int .i64 200, .int .i64 201, .int .i64 (-1)] 3)).cell? ⟨W.heap.size, v, none⟩ = some (.int .i64 x) := by
  have key : ∀ x : Int, (#[.int .i64 y1, .int .i64 y2, .int .i64 200, .int .i64 201, .int .i64 (-1)] : Array Value)[v]? = some (.int .i64 x) → ∀ W : World, (W.alloc (.cells #[.int .i64 y1, .int .i64 y2, .int .i64 200, .int .i64 201, .int .i64 (-1)] 3)).cell? ⟨W.heap.size, v, none⟩ = some (.int .i64 x) := fun x h W => by
    rw [World.cell?_alloc_at _ _ _ _ rfl]; exact h
  have : v = 0 ∨ v = 1 ∨ v = 2 ∨ v = 3 ∨ v = 4 := by omega
  rcases this with rfl | rfl | rfl | rfl | rfl
  · exact ⟨y1, by omega, rfl, key _ rfl⟩
  · exact ⟨y2, by omega, rfl, key _ rfl⟩
  · exact ⟨200, by omega, rfl, key _ rfl⟩
  · exact ⟨201, by omega, rfl, key _ rfl⟩
  · exact ⟨-1, by omega, rfl, key _ rfl⟩
/-- What the text of a set that a term tells says. -/
theorem text_says {s T : ByteArray} (h : TextOf s T true) : ∃ t, termOf s.data.toList = some t ∧ tmOk t = true ∧ TidyText (tmF t) T := by
  unfold TextOf at h
  cases e : termOf s.data.toList with
  | none => rw [e] at h; exact absurd h.2 (by decide)
  | some t =>
    rw [e] at h
    obtain ⟨_, ho, _⟩ := termOf_some e
    exact ⟨t, rfl, ho, termText_told ho h⟩
theorem told_size {T : ByteArray} (h : okS T = true) : T.size ≤ 1048576 := by
  rw [set_size h]
  have h1 := setT_le h
  have h2 := setR_le h
  omega
theorem textOf_size {s T : ByteArray} {b : Bool} (h : TextOf s T b) : T.size ≤ 1048576 := by
  unfold TextOf at h
  cases e : termOf s.data.toList with
  | none => rw [e] at h; rw [h.1]; decide
  | some t =>
    rw [e] at h
    exact termText_size (termOf_some e).2.1 h

end Go.Proofs.Ytiphooodijbhiaa

set_option linter.unusedVariables false
set_option linter.unusedSimpArgs false
namespace Go.Proofs.Ytiphooodijbhiaa
open Go.RowKit

/-- The numbers less than k, as a list. -/
noncomputable def listF (f : Nat → Bool) (k : Nat) : List Int := ((List.range k).filter f).map fun (n : Nat) => (n : Int)
theorem listF_hit {f : Nat → Bool} {k : Nat} (h : f k = true) : listF f (k + 1) = listF f k ++ [(k : Int)] := by unfold listF; rw [List.range_succ, List.filter_append, List.map_append]; simp [h]
theorem listF_miss {f : Nat → Bool} {k : Nat} (h : f k = false) : listF f (k + 1) = listF f k := by unfold listF; rw [List.range_succ, List.filter_append, List.map_append]; simp [h]
theorem listF_le (f : Nat → Bool) (k : Nat) : (listF f k).length ≤ k := by
  unfold listF; rw [List.length_map]; exact Nat.le_trans (List.length_filter_le _ _) (by simp)
/-- What TermList answers. -/
noncomputable def tlistV (s : ByteArray) (n : Int) : List Int := match termOf s.data.toList with | some t => if inR n 0 200 = true then listF (tmF t) n.toNat else [] | none => []
def tlistB (s : ByteArray) (n : Int) : Bool := (termOf s.data.toList).isSome && inR n 0 200
theorem tlist_none {s : ByteArray} {n : Int} (h : termOf s.data.toList = none) : tlistV s n = [] ∧ tlistB s n = false := by
  unfold tlistV tlistB; rw [h]; exact ⟨rfl, rfl⟩
theorem tlist_out {s : ByteArray} {n : Int} {t : Tm} (h : termOf s.data.toList = some t) (hn : inR n 0 200 = false) : tlistV s n = [] ∧ tlistB s n = false := by
  unfold tlistV tlistB; rw [h, hn]; exact ⟨rfl, rfl⟩
theorem tlist_in {s : ByteArray} {k : Nat} {t : Tm} (h : termOf s.data.toList = some t) (hk : k ≤ 200) : tlistV s k = listF (tmF t) k ∧ tlistB s k = true := by
  have e : inR (k : Int) 0 200 = true := by
    rcases inR_cases k 0 200 with ⟨e, _⟩ | ⟨_, e⟩
    · exact e
    · omega
  unfold tlistV tlistB; rw [h, e]; exact ⟨by simp, rfl⟩
theorem tlistV_le (s : ByteArray) (n : Int) : (tlistV s n).length ≤ 200 := by
  cases h : termOf s.data.toList with
  | none => rw [(tlist_none h).1]; exact Nat.zero_le _
  | some t =>
    rcases inR_cases n 0 200 with ⟨_, h1, h2⟩ | ⟨e, _⟩
    · obtain ⟨k, rfl⟩ := Int.eq_ofNat_of_zero_le h1
      rw [(tlist_in h (by omega)).1]
      exact Nat.le_trans (listF_le _ _) (by omega)
    · rw [(tlist_out h e).1]; exact Nat.zero_le _
/-- A list of the call's own, and whether it counts. -/
def TListOut (l : List Int) (b : Bool) (w : World) (e : Ending) (w' : World) : Prop :=
  ∃ a c, e = .returned (.tuple #[.slice a l.length c, .bool b]) ∧ Below w.heap.size w w' ∧ w'.ownsRow w.heap.size 3 1 (.slice a l.length c) l.length (ints l)
theorem own_fresh {w w1 : World} (hb : Below w.heap.size w w1) : (w1.alloc (.cells #[] 3)).ownsRow w.heap.size 3 1 (.slice (some ⟨w1.heap.size, 0, none⟩) 0 0) 0 (ints []) :=
  World.ownsRow_made (base := w.heap.size) (e := 3) (size := 1) w1 #[] 0 hb.size (by decide) rfl
theorem own_notB {w : World} {base n D N : Nat} {c : Nat → Bool} {v : Value} {xs : List Value} (h : w.ownsRow base 3 1 v n xs) (hD : BRow w D N c) : v.ownBlock ≠ some D := by
  intro hj
  obtain ⟨cur0, h1, _, _⟩ := hD
  rcases h.2 with ⟨hv, _⟩ | ⟨g, cap, cur, hv, _, hh, _⟩
  · rw [hv] at hj; cases hj
  · rw [hv] at hj
    have : g = D := by injection hj
    subst this
    rw [hh] at h1
    injection h1 with h1
    injection h1 with _ h1 _
    exact absurd h1 (by decide)
/-- The world of TermList's loop. -/
structure ListLoop (f : Nat → Bool) (G o N M k : Nat) (w wr : World) (v : Value) : Prop where
  num : NumAt wr G o N M f
  own : wr.ownsRow w.heap.size 3 1 v (listF f k).length (ints (listF f k))
  below : Below w.heap.size w wr
theorem ListLoop.skip {f : Nat → Bool} {G o N M k : Nat} {w wr : World} {v : Value} (h : ListLoop f G o N M k w wr v) (hf : f k = false) : ListLoop f G o N M (k + 1) w wr v :=
  ⟨h.num, by rw [listF_miss hf]; exact h.own, h.below⟩
theorem ListLoop.grow {f : Nat → Bool} {G o N M k : Nat} {w wr w1 : World} {u v' : Value} {ob : Obj} (h : ListLoop f G o N M k w wr u)
    (hown : w1.ownsRow w.heap.size 3 1 v' ((listF f k).length + 1) (ints (listF f k) ++ [.int .i64 k])) (hgrow : (wr.alloc ob).grownBy w1 u.ownBlock) (hf : f k = true) : ListLoop f G o N M (k + 1) w w1 v' := by
  have hs := h.below.size
  refine ⟨?_, ?_, (h.below.alloc hs ob).grown hgrow (by simp; omega) (fun j hj => (h.own.lt j hj).1)⟩
  · obtain ⟨F, q1, q2⟩ := h.num
    have q3 := q1.step ((Below.refl wr.heap.size wr).alloc (Nat.le_refl _) ob)
    have hl := q3.lt
    have hne := own_notB h.own q1
    obtain ⟨cur, r1, r2, r3⟩ := q3
    exact ⟨F, ⟨cur, (hgrow.block G hl (fun e => hne e.symm)).trans r1, r2, r3⟩, q2⟩
  · rw [listF_hit hf]
    have e : ints (listF f k ++ [(k : Int)]) = ints (listF f k) ++ [.int .i64 k] := by simp [ints]
    rw [e, List.length_append]
    exact hown

set_option maxRecDepth 100000 in
set_option maxHeartbeats 2000000 in
theorem implTermList_in (s : ByteArray) (K : Nat) (t : Tm) (m : Int) (w : World) (hL : LibAt m w) (h : termOf s.data.toList = some t) (hK : K ≤ 200) : Calls Try.prog 44 #[.string s, .int .i64 K] w (TListOut (listF (tmF t) K) true w) := by
  obtain ⟨i0, hi, hz0, hz1, hz2⟩ := info_parts Try.infoInt
  have HL := Lib.hid hL
  have HI := Lib.hid (fun w => readTerm_any s w)
  rw [h] at HI
  obtain ⟨_, ho, _⟩ := termOf_some h
  have HT := Lib.hid (fun w hL => termFirst_any m t w ho hL)
  have hm := method_first t
  have he := first_enters t
  have hin : inR (K : Int) 0 200 = true := by
    rcases inR_cases K 0 200 with ⟨e, _⟩ | ⟨_, e⟩
    · exact e
    · omega
  have HIN := Lib.hid (fun w => between_in K 0 200 w hin)
  clear hin h ho hL
  go_enter Try.func44, Try.ntmps44
  go_wp2_with fail
  refine (HI.out _).mono ?_
  rintro e w1 ⟨hr, j, rfl⟩
  rw [show e = _ from hr]
  clear hr
  have HB := Lib.hid (below_drewN (Below.refl w.heap.size w) j)
  have HO := Lib.hid (own_fresh HB.out)
  have HB1 := Lib.hid (HB.out.alloc HB.out.size (.cells #[] 3))
  simp only [tmV]
  go_wp2_with (go_at_call 65; (with_reducible refine (HIN.out _).mono ?_); rintro e w3 ⟨rfl, rfl⟩)
  go_wp2_with (go_at_fn (firstF t); refine (HT.out _ (HL.out.below HB1.out)).mono ?_; rintro e w2 ⟨⟨G, o, M, rfl, hG, hN⟩, hb⟩; have HL0 : Hid (ListLoop (tmF t) G o 201 M 0 w w2 (.slice (some ⟨w.heap.size, 0, none⟩) 0 0)) := Lib.hid ⟨hN, own_below HO.out hb (Nat.le_refl _), HB1.out.trans (hb.mono HB1.out.size)⟩; clear hG hN hb)
  have hKi : (K : Int) ≤ 201 := by omega
  go_wp2
  go_loopw [8, 30] (fun lv i wr => ∃ k : Nat, k ≤ K ∧ i = .int .i64 k ∧ ListLoop (tmF t) G o 201 M k w wr lv) (fun _ i _ => K - (intOf i).toNat)
  case atStart => exact ⟨0, Nat.zero_le _, rfl, HL0.out⟩
  case round =>
    obtain ⟨k, hkk, rfl, hl⟩ := hrel
    have HL := Lib.hid hl
    have hlen := listF_le (tmF t) k
    have hsz := hl.below.size
    by_cases hlt : k < K
    · have c1 := hl.num.cell (i := k) (by omega)
      clear hl
      cases hf : tmF t k
      · rw [hf] at c1
        have HL5 := Lib.hid (HL.out.skip hf)
        clear hf
        go_wp2
        go_roundw
        case rel => exact ⟨k + 1, by omega, by go_num, HL5.out⟩
        case measure => simp [intOf]; omega
      · rw [hf] at c1
        have HF := Lib.hid hf
        clear hf
        go_wp2_with
          (at_builtin; refine wpList_append_own _ rfl _ _ 23 rfl w.heap.size 3 i0 (.int .i64 0) 1 8 Try.underlying23 hi hz0 hz1 hz2 rfl (by decide) _ _ _ rfl (HL.out.own.alloc _) ⟨wr.heap.size, 0, none⟩ 1 1 [.int .i64 k] rfl rfl ?c1 ?c2 ?c3 ?c4 ?c5 ?_)
        case c1 =>
          intro j u hj
          match j, hj with
          | 0, hj => simp at hj; subst hj; simp [Addr.add]
        case c2 => intro u hu; simp at hu; subst hu; rfl
        case c3 => unfold maxLen; omega
        case c4 => omega
        case c5 => simp; omega
        intro v' w5 hown5 hgrow _
        have HL5 := Lib.hid (HL.out.grow hown5 hgrow HF.out)
        clear hown5 hgrow c1
        go_wp2
        go_roundw
        case rel => exact ⟨k + 1, by omega, by go_num, HL5.out⟩
        case measure => simp [intOf]; omega
    · obtain rfl : k = K := by omega
      obtain ⟨a, c, rfl⟩ := own_form hl.own
      clear hl
      go_wp2
      go_ret2
      exact ⟨a, c, rfl, HL.out.below, HL.out.own⟩

theorem implTermList_off1 (s : ByteArray) (n m : Int) (w : World) (h : termOf s.data.toList = none) : Calls Try.prog 44 #[.string s, .int .i64 n] w (TListOut [] false w) := by
  have HI := Lib.hid (fun w => readTerm_any s w)
  rw [h] at HI
  clear h
  go_enter Try.func44, Try.ntmps44
  go_wp2_with fail
  refine (HI.out _).mono ?_
  rintro e w1 ⟨he, k, rfl⟩
  rw [show e = _ from he]
  clear he
  have HB := Lib.hid (below_drewN (Below.refl w.heap.size w) k)
  have HO := Lib.hid (own_fresh HB.out)
  have HB1 := Lib.hid (HB.out.alloc HB.out.size (.cells #[] 3))
  go_wp2_with fail
  go_ret2
  exact ⟨_, _, rfl, HB1.out, HO.out⟩
theorem implTermList_off2 (s : ByteArray) (n m : Int) (t : Tm) (w : World) (h : termOf s.data.toList = some t) (hn : inR n 0 200 = false) : Calls Try.prog 44 #[.string s, .int .i64 n] w (TListOut [] false w) := by
  have HI := Lib.hid (fun w => readTerm_any s w)
  rw [h] at HI
  have HOUT := Lib.hid (fun w => between_out n 0 200 w hn)
  clear h hn
  go_enter Try.func44, Try.ntmps44
  go_wp2_with fail
  refine (HI.out _).mono ?_
  rintro e w1 ⟨he, k, rfl⟩
  rw [show e = _ from he]
  clear he
  have HB := Lib.hid (below_drewN (Below.refl w.heap.size w) k)
  have HO := Lib.hid (own_fresh HB.out)
  have HB1 := Lib.hid (HB.out.alloc HB.out.size (.cells #[] 3))
  go_wp2_with (go_at_call 65; (with_reducible refine (HOUT.out _).mono ?_); rintro e w3 ⟨rfl, rfl⟩)
  go_ret2
  exact ⟨_, _, rfl, HB1.out, HO.out⟩
theorem implTermList (s : ByteArray) (n m : Int) (w : World) (hL : LibAt m w) : Calls Try.prog 44 #[.string s, .int .i64 n] w (TListOut (tlistV s n) (tlistB s n) w) := by
  cases h : termOf s.data.toList with
  | none => rw [(tlist_none h).1, (tlist_none h).2]; exact implTermList_off1 s n m w h
  | some t =>
    rcases inR_cases n 0 200 with ⟨_, h1, h2⟩ | ⟨e, _⟩
    · obtain ⟨k, rfl⟩ := Int.eq_ofNat_of_zero_le h1
      rw [(tlist_in h (k := k) (by omega)).1, (tlist_in h (k := k) (by omega)).2]
      exact implTermList_in s k t m w hL h (by omega)
    · rw [(tlist_out h e).1, (tlist_out h e).2]; exact implTermList_off2 s n m t w h e

set_option maxRecDepth 100000 in
set_option maxHeartbeats 2000000 in
theorem specTermList_in (s : ByteArray) (K : Nat) (t : Tm) (w : World) (h : termOf s.data.toList = some t) (hK : K ≤ 200) : Calls Try.prog 45 #[.string s, .int .i64 K] w (TListOut (listF (tmF t) K) true w) := by
  obtain ⟨i0, hi, hz0, hz1, hz2⟩ := info_parts Try.infoInt
  have HI := Lib.hid (fun w => l7Of_any s w)
  rw [h] at HI
  obtain ⟨_, ho, _⟩ := termOf_some h
  have HT := Lib.hid (fun B v N w hI hN => marks_any t B v N w ho hI hN)
  clear h ho
  have HO := Lib.hid (own_fresh (Below.refl w.heap.size w))
  go_enter Try.func45, Try.ntmps45
  go_wp2_with fail
  refine (HI.out _).mono ?_
  rintro e w1 ⟨he, hb⟩
  obtain ⟨c, a, q, j, rfl, hI⟩ := he.form
  have HB := Lib.hid ((((Below.refl w.heap.size w).alloc (Nat.le_refl _) (.cells #[] 3)).trans (hb.mono (by simp))).alloc (by have := hb.size; simp at this; omega) (.cells #[.int .u8 c.toNat, .slice a q j] 100))
  have HO1 := Lib.hid (own_below (own_below HO.out hb (Nat.le_refl _)) ((Below.refl _ _).alloc (Nat.le_refl _) (.cells #[.int .u8 c.toNat, .slice a q j] 100)) (Nat.le_refl _))
  have HX := Lib.hid (HT.out _ _ K (w1.alloc (.cells #[.int .u8 c.toNat, .slice a q j] 100)) ((hI t rfl).step ((Below.refl _ _).alloc (Nat.le_refl _) _)) (by omega))
  clear he hb hI
  go_wp2_with fail
  refine (l6In_yes K 0 200 _ (by omega) (by omega)).mono ?_
  rintro e w2 ⟨rfl, rfl⟩
  go_wp2_with fail
  refine HX.out.mono ?_
  rintro e w2 ⟨⟨G, rfl, hG, hr⟩, hb2⟩
  obtain ⟨o, hoo⟩ : ∃ o, o = 0 := ⟨_, rfl⟩
  obtain ⟨M, hM⟩ : ∃ M, M = K := ⟨_, rfl⟩
  have HL0 : Hid (ListLoop (tmF t) G 0 K K 0 w w2 (.slice (some ⟨w.heap.size, 0, none⟩) 0 0)) := Lib.hid ⟨hr.num, own_below HO1.out hb2 (Nat.le_refl _), HB.out.trans (hb2.mono HB.out.size)⟩
  clear hG hr hb2 hoo hM o M
  go_wp2
  go_loopw [6, 10] (fun lv i wr => ∃ k : Nat, k ≤ K ∧ i = .int .i64 k ∧ ListLoop (tmF t) G 0 K K k w wr lv) (fun _ i _ => K - (intOf i).toNat)
  case atStart => exact ⟨0, Nat.zero_le _, rfl, HL0.out⟩
  case round =>
    obtain ⟨k, hkk, rfl, hl⟩ := hrel
    have HL := Lib.hid hl
    have hlen := listF_le (tmF t) k
    have hsz := hl.below.size
    by_cases hlt : k < K
    · have c1 := hl.num.cell (i := k) (by omega)
      rw [Nat.zero_add] at c1
      clear hl
      cases hf : tmF t k
      · rw [hf] at c1
        have HL5 := Lib.hid (HL.out.skip hf)
        clear hf
        go_wp2
        go_roundw
        case rel => exact ⟨k + 1, by omega, by go_num, HL5.out⟩
        case measure => simp [intOf]; omega
      · rw [hf] at c1
        have HF := Lib.hid hf
        clear hf
        go_wp2_with
          (at_builtin; refine wpList_append_own _ rfl _ _ 23 rfl w.heap.size 3 i0 (.int .i64 0) 1 8 Try.underlying23 hi hz0 hz1 hz2 rfl (by decide) _ _ _ rfl (HL.out.own.alloc _) ⟨wr.heap.size, 0, none⟩ 1 1 [.int .i64 k] rfl rfl ?c1 ?c2 ?c3 ?c4 ?c5 ?_)
        case c1 =>
          intro j u hj
          match j, hj with
          | 0, hj => simp at hj; subst hj; simp [Addr.add]
        case c2 => intro u hu; simp at hu; subst hu; rfl
        case c3 => unfold maxLen; omega
        case c4 => omega
        case c5 => simp; omega
        intro v' w5 hown5 hgrow _
        have HL5 := Lib.hid (HL.out.grow hown5 hgrow HF.out)
        clear hown5 hgrow c1
        go_wp2
        go_roundw
        case rel => exact ⟨k + 1, by omega, by go_num, HL5.out⟩
        case measure => simp [intOf]; omega
    · obtain rfl : k = K := by omega
      obtain ⟨a, c, rfl⟩ := own_form hl.own
      clear hl
      go_wp2
      go_ret2
      exact ⟨a, c, rfl, HL.out.below, HL.out.own⟩

set_option maxHeartbeats 1000000 in
theorem specTermList_off1 (s : ByteArray) (n : Int) (w : World) (h : termOf s.data.toList = none) : Calls Try.prog 45 #[.string s, .int .i64 n] w (TListOut [] false w) := by
  have HI := Lib.hid (fun w => l7Of_any s w)
  rw [h] at HI
  clear h
  have HO := Lib.hid (own_fresh (Below.refl w.heap.size w))
  go_enter Try.func45, Try.ntmps45
  go_wp2_with fail
  refine (HI.out _).mono ?_
  rintro e w1 ⟨he, hb⟩
  obtain ⟨c, a, q, j, rfl, _⟩ := he.form
  have HB := Lib.hid ((((Below.refl w.heap.size w).alloc (Nat.le_refl _) (.cells #[] 3)).trans (hb.mono (by simp))).alloc (by have := hb.size; simp at this; omega) (.cells #[.int .u8 c.toNat, .slice a q j] 100))
  have HO1 := Lib.hid (own_below (own_below HO.out hb (Nat.le_refl _)) ((Below.refl _ _).alloc (Nat.le_refl _) (.cells #[.int .u8 c.toNat, .slice a q j] 100)) (Nat.le_refl _))
  clear he hb
  go_wp2_with fail
  go_ret2
  exact ⟨_, _, rfl, HB.out, HO1.out⟩
set_option maxHeartbeats 1000000 in
theorem specTermList_off2 (s : ByteArray) (n : Int) (t : Tm) (w : World) (h : termOf s.data.toList = some t) (hn : n < 0 ∨ 200 < n) : Calls Try.prog 45 #[.string s, .int .i64 n] w (TListOut [] false w) := by
  have HI := Lib.hid (fun w => l7Of_any s w)
  rw [h] at HI
  clear h
  have HO := Lib.hid (own_fresh (Below.refl w.heap.size w))
  go_enter Try.func45, Try.ntmps45
  go_wp2_with fail
  refine (HI.out _).mono ?_
  rintro e w1 ⟨he, hb⟩
  obtain ⟨c, a, q, j, rfl, _⟩ := he.form
  have HB := Lib.hid ((((Below.refl w.heap.size w).alloc (Nat.le_refl _) (.cells #[] 3)).trans (hb.mono (by simp))).alloc (by have := hb.size; simp at this; omega) (.cells #[.int .u8 c.toNat, .slice a q j] 100))
  have HO1 := Lib.hid (own_below (own_below HO.out hb (Nat.le_refl _)) ((Below.refl _ _).alloc (Nat.le_refl _) (.cells #[.int .u8 c.toNat, .slice a q j] 100)) (Nat.le_refl _))
  clear he hb
  go_wp2_with fail
  refine (l6In_no n 0 200 _ hn (by decide)).mono ?_
  rintro e w2 ⟨rfl, rfl⟩
  go_wp2_with fail
  go_ret2
  exact ⟨_, _, rfl, HB.out, HO1.out⟩
theorem specTermList (s : ByteArray) (n : Int) (w : World) : Calls Try.prog 45 #[.string s, .int .i64 n] w (TListOut (tlistV s n) (tlistB s n) w) := by
  cases h : termOf s.data.toList with
  | none => rw [(tlist_none h).1, (tlist_none h).2]; exact specTermList_off1 s n w h
  | some t =>
    rcases inR_cases n 0 200 with ⟨_, h1, h2⟩ | ⟨e, e2⟩
    · obtain ⟨k, rfl⟩ := Int.eq_ofNat_of_zero_le h1
      rw [(tlist_in h (k := k) (by omega)).1, (tlist_in h (k := k) (by omega)).2]
      exact specTermList_in s k t w h (by omega)
    · rw [(tlist_out h e).1, (tlist_out h e).2]; exact specTermList_off2 s n t w h e2

end Go.Proofs.Ytiphooodijbhiaa

set_option linter.unusedVariables false
set_option linter.unusedSimpArgs false
namespace Go.Proofs.Ytiphooodijbhiaa
open Go.RowKit

/-- The walk of spec.l7Tidy, whatever the term. -/
theorem tidyS_any : ∀ (t : Tm) (B : Nat) (v : Value) (w : World), tmOk t = true → (tmText t).length ≤ 1000 → IsT B w t v → Calls Try.prog 92 #[v] w fun e w' => e = .returned (.string (tmS (tidy t))) ∧ Below w.heap.size w w' := by
  intro t
  induction t with
  | sign c =>
    rintro B v w _ _ ⟨a, k, rfl⟩
    exact tidyS_sign c a k w
  | star t ih =>
    rintro B v w ho hn ⟨g, m, x, rfl, _, hx, hT⟩
    simp [tmText] at hn
    have ho' : tmOk t = true := ho
    have hu := tidy_ok ho'
    obtain ⟨c, a, n, k, rfl, hp⟩ := part_of hx hT
    have ih' := fun W (hb : Below w.heap.size w W) => ih B _ W ho' (by omega) (hT.step hb)
    have hX := tmS_toList (tidy t)
    have hs := tmS_size (tidy t)
    have hr := tidyStar_text hu.1
    have h01 := tidyStar_one (u := tidy t)
    have hcat := text_cat ⟨#[42]⟩ (tidy t) rfl
    show Calls _ _ _ _ fun e w' => e = .returned (.string (tmS (tidyStar (tidy t)))) ∧ _
    by_cases h0 : tmText (tidy t) = [48]
    · rw [h01 (.inl h0)]
      exact tidyS_star0 (tmS (tidy t)) g m c a n k w hp (by rw [hX]; exact h0) ih'
    · by_cases h1 : tmText (tidy t) = [49]
      · rw [h01 (.inr h1)]
        exact tidyS_star1 (tmS (tidy t)) g m c a n k w hp (by rw [hX]; exact h1) ih'
      · rcases hr h0 h1 with ⟨y, hy⟩ | ⟨hy, d, l, hl, hd⟩
        · have e : tidyStar (tidy t) = tidy t := by rw [hy]; rfl
          have hl : (tmS (tidy t)).toList = 42 :: tmText y := by rw [hX, hy]; rfl
          rw [e]
          exact tidyS_starS (tmS (tidy t)) g m c a n k w hp (by rw [hX]; exact h0) (by rw [hX]; exact h1) (size_one hl) (by rw [first_one hl]; rfl) ih'
        · have hl2 : (tmS (tidy t)).toList = d :: l := by rw [hX, hl]
          have e : tmS (tidyStar (tidy t)) = ⟨#[42]⟩ ++ tmS (tidy t) := by rw [hy, hcat]; rfl
          rw [e]
          exact tidyS_starN (tmS (tidy t)) g m c a n k w hp (by rw [hX]; exact h0) (by rw [hX]; exact h1) (by omega) (size_one hl2) (by rw [first_one hl2]; exact fun x => hd ((byte_is (k := 42) (by decide)).1 x)) ih'
  | times d t ih =>
    rintro B v w ho hn ⟨g, m, x, rfl, _, hx, hT⟩
    simp [tmText] at hn
    rw [tmOk, Bool.and_eq_true] at ho
    have hu := tidy_ok ho.2
    obtain ⟨c, a, n, k, rfl, hp⟩ := part_of hx hT
    have ih' := fun W (hb : Below w.heap.size w W) => ih B _ W ho.2 (by omega) (hT.step hb)
    have hX := tmS_toList (tidy t)
    have hs := tmS_size (tidy t)
    have hcat := text_cat ⟨#[d]⟩ (tidy t) rfl
    have hd : ¬ (d.toNat : Int) = 42 := by rcases dig_cases ho.1 with rfl | rfl | rfl | rfl <;> decide
    show Calls _ _ _ _ fun e w' => e = .returned (.string (tmS (tidyTimes d (tidy t)))) ∧ _
    by_cases h0 : tmText (tidy t) = [48]
    · rw [show tidyTimes d (tidy t) = tidy t by unfold tidyTimes; rw [if_pos (.inl h0)]]
      exact tidyS_times0 d (tmS (tidy t)) g m c a n k w hp hd (by rw [hX]; exact h0) ih'
    · by_cases h1 : tmText (tidy t) = [49]
      · rw [show tidyTimes d (tidy t) = tidy t by unfold tidyTimes; rw [if_pos (.inr h1)]]
        exact tidyS_times1 d (tmS (tidy t)) g m c a n k w hp hd (by rw [hX]; exact h1) ih'
      · rw [show tidyTimes d (tidy t) = .times d (tidy t) by unfold tidyTimes; rw [if_neg (by rintro (x | x); exact h0 x; exact h1 x)]]
        have e : tmS (.times d (tidy t)) = ⟨#[d]⟩ ++ tmS (tidy t) := by rw [hcat]; rfl
        rw [e]
        exact tidyS_timesN d (tmS (tidy t)) g m c a n k w hp hd (by rw [hX]; exact h0) (by rw [hX]; exact h1) (by omega) ih'
  | pair l s r ihl ihr =>
    rintro B v w ho hn ⟨g, m, x, y, rfl, _, hx, hT, hy, hU⟩
    simp [tmText] at hn
    rw [tmOk, Bool.and_eq_true, Bool.and_eq_true] at ho
    have hou := tidy_ok ho.1
    have hov := tidy_ok ho.2.2
    obtain ⟨c, a, n, k, rfl, hp⟩ := part_of hx hT
    obtain ⟨c2, a2, n2, k2, rfl, hq⟩ := part_of hy hU
    have ih1 := fun W (hb : Below w.heap.size w W) => ihl B _ W ho.1 (by omega) (hT.step hb)
    have ih2 := fun W (hb : Below w.heap.size w W) => ihr B _ W ho.2.2 (by omega) (hU.step hb)
    have hX := tmS_toList (tidy l)
    have hY := tmS_toList (tidy r)
    have hs1 := tmS_size (tidy l)
    have hs2 := tmS_size (tidy r)
    have heq := text_pair_eq (tidy l) (tidy r)
    show Calls _ _ _ _ fun e w' => e = .returned (.string (tmS (tidyPair (tidy l) s (tidy r)))) ∧ _
    have z1 : (tmS (tidy l)).size ≤ 1000 := by omega
    have z2 : (tmS (tidy r)).size ≤ 1000 := by omega
    generalize tidy l = u at *
    generalize tidy r = v at *
    rcases mid_cases ho.2.1 with rfl | rfl | rfl
    · by_cases hx : tmText u = [48]
      · rw [tidyPair_43a u v hx]
        exact tidyS_43a (tmS u) (tmS v) g m c a n k c2 a2 n2 k2 w hp hq z1 z2 (by rw [hX]; exact hx) ih1 ih2
      · by_cases hy : tmText v = [48]
        · rw [tidyPair_43b u v hx hy]
          exact tidyS_43b (tmS u) (tmS v) g m c a n k c2 a2 n2 k2 w hp hq z1 z2 (by rw [hX]; exact hx) (by rw [hY]; exact hy) ih1 ih2
        · by_cases hz : tmText u = tmText v
          · rw [tidyPair_43c u v hx hy hz]
            exact tidyS_43c (tmS u) (tmS v) g m c a n k c2 a2 n2 k2 w hp hq z1 z2 (by rw [hX]; exact hx) (by rw [hY]; exact hy) (by rw [hX, hY]; exact hz) ih1 ih2
          · rw [tidyPair_43d u v hx hy hz]
            rw [← heq 43]
            exact tidyS_43d (tmS u) (tmS v) g m c a n k c2 a2 n2 k2 w hp hq z1 z2 (by rw [hX]; exact hx) (by rw [hY]; exact hy) (by rw [hX, hY]; exact hz) ih1 ih2
    · by_cases hx : tmText u = [48]
      · rw [tidyPair_46a u v hx]
        exact tidyS_46a (tmS u) (tmS v) g m c a n k c2 a2 n2 k2 w hp hq z1 z2 (by rw [hX]; exact hx) ih1 ih2
      · by_cases hy : tmText v = [48]
        · rw [tidyPair_46b u v hx hy]
          exact tidyS_46b (tmS u) (tmS v) g m c a n k c2 a2 n2 k2 w hp hq z1 z2 (by rw [hX]; exact hx) (by rw [hY]; exact hy) ih1 ih2
        · by_cases hu : tmText u = [49]
          · rw [tidyPair_46c u v hx hy hu]
            exact tidyS_46c (tmS u) (tmS v) g m c a n k c2 a2 n2 k2 w hp hq z1 z2 (by rw [hX]; exact hx) (by rw [hY]; exact hy) (by rw [hX]; exact hu) ih1 ih2
          · by_cases hv : tmText v = [49]
            · rw [tidyPair_46d u v hx hy hu hv]
              exact tidyS_46d (tmS u) (tmS v) g m c a n k c2 a2 n2 k2 w hp hq z1 z2 (by rw [hX]; exact hx) (by rw [hY]; exact hy) (by rw [hX]; exact hu) (by rw [hY]; exact hv) ih1 ih2
            · rw [tidyPair_46e u v hx hy hu hv]
              rw [← heq 46]
              exact tidyS_46e (tmS u) (tmS v) g m c a n k c2 a2 n2 k2 w hp hq z1 z2 (by rw [hX]; exact hx) (by rw [hY]; exact hy) (by rw [hX]; exact hu) (by rw [hY]; exact hv) ih1 ih2
    · by_cases hx : tmText u = [48]
      · rw [tidyPair_38a u v hx]
        exact tidyS_38a (tmS u) (tmS v) g m c a n k c2 a2 n2 k2 w hp hq z1 z2 (by rw [hX]; exact hx) ih1 ih2
      · by_cases hy : tmText v = [48]
        · rw [tidyPair_38b u v hx hy]
          exact tidyS_38b (tmS u) (tmS v) g m c a n k c2 a2 n2 k2 w hp hq z1 z2 (by rw [hX]; exact hx) (by rw [hY]; exact hy) ih1 ih2
        · by_cases hz : tmText u = tmText v
          · rw [tidyPair_38c u v hx hy hz]
            exact tidyS_38c (tmS u) (tmS v) g m c a n k c2 a2 n2 k2 w hp hq z1 z2 (by rw [hX]; exact hx) (by rw [hY]; exact hy) (by rw [hX, hY]; exact hz) ih1 ih2
          · rw [tidyPair_38d u v hx hy hz]
            rw [← heq 38]
            exact tidyS_38d (tmS u) (tmS v) g m c a n k c2 a2 n2 k2 w hp hq z1 z2 (by rw [hX]; exact hx) (by rw [hY]; exact hy) (by rw [hX, hY]; exact hz) ih1 ih2

theorem tidyV_none {s : ByteArray} {V : ByteArray} (h : termOf s.data.toList = none) (hV : V = match termOf s.data.toList with | some t => tmS (tidy t) | none => ⟨#[]⟩) : V = ⟨#[]⟩ := by rw [h] at hV; exact hV
theorem tidyV_some {s : ByteArray} {t : Tm} {V : ByteArray} (h : termOf s.data.toList = some t) (hV : V = match termOf s.data.toList with | some t => tmS (tidy t) | none => ⟨#[]⟩) : V = tmS (tidy t) := by rw [h] at hV; exact hV
set_option maxRecDepth 100000 in
set_option maxHeartbeats 1000000 in
theorem specTermTidy (s V : ByteArray) (w : World) (hV : V = match termOf s.data.toList with | some t => tmS (tidy t) | none => ⟨#[]⟩) : Calls Try.prog 52 #[.string s] w fun e w' => e = .returned (.tuple #[.string V, .bool (termOf s.data.toList).isSome]) ∧ Below w.heap.size w w' := by
  have HI := Lib.hid (fun w => l7Of_any s w)
  cases h : termOf s.data.toList with
  | none =>
    obtain rfl := tidyV_none h hV
    rw [h] at HI
    clear h hV
    go_enter Try.func52, Try.ntmps52
    go_wp2_with fail
    refine (HI.out _).mono ?_
    rintro e w1 ⟨he, hb⟩
    obtain ⟨c, a, n, k, rfl, _⟩ := he.form
    have HB := Lib.hid (hb.alloc hb.size (.cells #[.int .u8 c.toNat, .slice a n k] 100))
    clear he hb
    go_wp2_with fail
    go_ret2
    exact ⟨rfl, HB.out⟩
  | some t =>
    obtain rfl := tidyV_some h hV
    rw [h] at HI
    obtain ⟨_, ho, hl⟩ := termOf_some h
    have HT := Lib.hid (fun B v w hI => tidyS_any t B v w ho (by omega) hI)
    clear h hV ho hl
    generalize tmS (tidy t) = X at HT
    go_enter Try.func52, Try.ntmps52
    go_wp2_with fail
    refine (HI.out _).mono ?_
    rintro e w1 ⟨he, hb⟩
    obtain ⟨c, a, n, k, rfl, hI⟩ := he.form
    have HB := Lib.hid (hb.alloc hb.size (.cells #[.int .u8 c.toNat, .slice a n k] 100))
    have HX := Lib.hid (HT.out _ _ (w1.alloc (.cells #[.int .u8 c.toNat, .slice a n k] 100)) ((hI t rfl).step ((Below.refl _ _).alloc (Nat.le_refl _) _)))
    clear he hb hI
    go_wp2_with fail
    refine HX.out.mono ?_
    rintro e w2 ⟨rfl, hb2⟩
    go_wp2_with fail
    go_ret2
    exact ⟨rfl, HB.out.trans (hb2.mono HB.out.size)⟩

end Go.Proofs.Ytiphooodijbhiaa

set_option linter.unusedVariables false
set_option linter.unusedSimpArgs false
namespace Go.Proofs.Ytiphooodijbhiaa
open Go.RowKit

theorem tmSigns_count (l : List UInt8) : tmSigns l + l.count 40 + l.count 41 = l.length := by
  induction l with
  | nil => rfl
  | cons c l ih =>
    by_cases h : c = 40
    · subst h; rw [tmSigns_skip l (by decide), List.count_cons_self, List.count_cons_of_ne (by decide)]; simp; omega
    · by_cases h2 : c = 41
      · subst h2; rw [tmSigns_skip l (by decide), List.count_cons_self, List.count_cons_of_ne (by decide)]; simp; omega
      · rw [tmSigns_cons l (by simp [h, h2]), List.count_cons_of_ne (by simpa using h), List.count_cons_of_ne (by simpa using h2)]; simp; omega
/-- What TermSize answers. -/
def sizeV (s : ByteArray) : Nat := if (termOf s.data.toList).isSome = true then tmSigns s.data.toList else 0

set_option maxHeartbeats 1000000 in
theorem implTermSize (s : ByteArray) (w : World) (hs : s.size ≤ 1048576) : Calls Try.prog 37 #[.string s] w fun e w' => e = .returned (.tuple #[.int .i64 (sizeV s), .bool (termOf s.data.toList).isSome]) ∧ ∃ m, w' = w.drewN m := by
  have hc := tmSigns_count s.data.toList
  rw [size_eq] at hc
  cases ho : (termOf s.data.toList).isSome
  · have HV : Hid (sizeV s = 0) := Lib.hid (by unfold sizeV; rw [ho]; rfl)
    have HO := Lib.hid ho
    clear ho hc
    go_enter Try.func37, Try.ntmps37
    go_wp2_with fail
    refine (implTermIn s _).mono ?_
    rintro e w1 ⟨rfl, m, rfl⟩
    rw [HO.out]
    go_wp2_with fail
    go_ret2
    exact ⟨by rw [HV.out]; rfl, _, rfl⟩
  · have HV : Hid (sizeV s = tmSigns s.data.toList) := Lib.hid (by unfold sizeV; rw [ho]; rfl)
    have HO := Lib.hid ho
    obtain ⟨a, ha⟩ : ∃ a, a = Lib.countByte s.data.toList 40 := ⟨_, rfl⟩
    obtain ⟨b, hb⟩ : ∃ b, b = Lib.countByte s.data.toList 41 := ⟨_, rfl⟩
    have H1 := Lib.hid (fun w => Try.strings_Count_one s 40 w)
    have H2 := Lib.hid (fun w => Try.strings_Count_one s 41 w)
    have HC : Hid (tmSigns s.data.toList + a + b = s.size) := Lib.hid (by rw [ha, hb]; exact hc)
    have l1 : a ≤ s.size := by have := HC.out; omega
    have l2 : b ≤ s.size := by have := HC.out; omega
    rw [← ha] at H1
    rw [← hb] at H2
    clear ho hc ha hb
    go_enter Try.func37, Try.ntmps37
    go_wp2_with fail
    refine (implTermIn s _).mono ?_
    rintro e w1 ⟨rfl, m, rfl⟩
    rw [HO.out]
    go_wp2_with fail
    refine (H1.out _).mono ?_
    rintro e w1 ⟨rfl, rfl⟩
    go_wp2_with fail
    refine (H2.out _).mono ?_
    rintro e w1 ⟨rfl, rfl⟩
    go_wp2_with fail
    go_ret2
    refine ⟨?_, _, rfl⟩
    have e : (s.size : Int) - (a : Int) - (b : Int) = ((sizeV s : Nat) : Int) := by rw [HV.out]; have := HC.out; omega
    rw [← e]; rfl

theorem signs_take {l : List UInt8} {k : Nat} (h : k < l.length) : tmSigns (l.take (k + 1)) = tmSigns (l.take k) + (if (l[k] == 40 || l[k] == 41) = true then 0 else 1) := by
  rw [List.take_succ_eq_append_getElem h, tmSigns_append]
  congr 1
  split
  · rename_i e; rw [tmSigns_skip [] e]; rfl
  · rename_i e; rw [tmSigns_cons [] (by simpa using e)]; rfl
theorem signs_le (l : List UInt8) : tmSigns l ≤ l.length := by have := tmSigns_count l; omega
theorem signs_hit {s : ByteArray} {k : Nat} (h : k < s.size) (h1 : ¬ (s[k].toNat : Int) = 40) (h2 : ¬ (s[k].toNat : Int) = 41) : tmSigns (s.data.toList.take (k + 1)) = tmSigns (s.data.toList.take k) + 1 := by
  have hk : k < s.data.toList.length := by rw [size_eq]; exact h
  have e : s.data.toList[k] = s[k] := rfl
  have n1 : ¬ s[k] = 40 := fun x => h1 (by rw [x]; rfl)
  have n2 : ¬ s[k] = 41 := fun x => h2 (by rw [x]; rfl)
  rw [signs_take hk, e, if_neg (by simp [n1, n2])]
theorem signs_miss {s : ByteArray} {k : Nat} (h : k < s.size) (h1 : (s[k].toNat : Int) = 40 ∨ (s[k].toNat : Int) = 41) : tmSigns (s.data.toList.take (k + 1)) = tmSigns (s.data.toList.take k) := by
  have hk : k < s.data.toList.length := by rw [size_eq]; exact h
  have e : s.data.toList[k] = s[k] := rfl
  have n : s[k] = 40 ∨ s[k] = 41 := h1.imp (fun x => (byte_is (k := 40) (by decide)).1 x) (fun x => (byte_is (k := 41) (by decide)).1 x)
  rw [signs_take hk, e, if_pos (by rcases n with x | x <;> rw [x] <;> decide), Nat.add_zero]

set_option maxRecDepth 100000 in
set_option maxHeartbeats 1000000 in
theorem specTermSize (s : ByteArray) (w : World) (hs : s.size ≤ 1048576) : Calls Try.prog 57 #[.string s] w fun e w' => e = .returned (.tuple #[.int .i64 (sizeV s), .bool (termOf s.data.toList).isSome]) ∧ Below w.heap.size w w' := by
  cases ho : (termOf s.data.toList).isSome
  · have HV : Hid (sizeV s = 0) := Lib.hid (by unfold sizeV; rw [ho]; rfl)
    have HO := Lib.hid ho
    clear ho
    go_enter Try.func57, Try.ntmps57
    go_wp2_with fail
    refine (specTermIn s _).mono ?_
    rintro e w1 ⟨rfl, hb⟩
    rw [HO.out]
    go_wp2_with fail
    go_ret2
    exact ⟨by rw [HV.out]; rfl, hb⟩
  · have HV : Hid (sizeV s = tmSigns s.data.toList) := Lib.hid (by unfold sizeV; rw [ho]; rfl)
    have HO := Lib.hid ho
    clear ho
    go_enter Try.func57, Try.ntmps57
    go_wp2_with fail
    refine (specTermIn s _).mono ?_
    rintro e w1 ⟨rfl, hb⟩
    rw [HO.out]
    go_wp2
    go_loop [4, 5] (fun n i => ∃ k : Nat, k ≤ s.size ∧ i = .int .i64 k ∧ n = .int .i64 ((tmSigns (s.data.toList.take k) : Nat) : Int)) (fun _ i => s.size - (intOf i).toNat)
    case atStart => exact ⟨0, Nat.zero_le _, rfl, rfl⟩
    case round =>
      obtain ⟨k, hk, rfl, rfl⟩ := hrel
      by_cases hlt : k < s.size
      · have hle := signs_le (s.data.toList.take k)
        have hle2 : (s.data.toList.take k).length ≤ k := by rw [List.length_take]; omega
        obtain ⟨z, hz⟩ : ∃ z, z = tmSigns (s.data.toList.take k) := ⟨_, rfl⟩
        by_cases h1 : (s[k].toNat : Int) = 40
        · have hm := signs_miss hlt (.inl h1)
          rw [← hz] at hm hle ⊢
          have HM := Lib.hid hm
          have b1 : ((s[k].toNat : Int) != 40) = false := by simp [h1]
          clear hm hz
          go_wp2
          go_round
          case rel => exact ⟨k + 1, by omega, by go_num, by rw [HM.out]⟩
          case measure => simp [intOf]; omega
        · by_cases h2 : (s[k].toNat : Int) = 41
          · have hm := signs_miss hlt (.inr h2)
            rw [← hz] at hm hle ⊢
            have HM := Lib.hid hm
            have b1 : ((s[k].toNat : Int) != 40) = true := by simp [h1]
            have b2 : ((s[k].toNat : Int) != 41) = false := by simp [h2]
            clear hm hz
            go_wp2
            go_round
            case rel => exact ⟨k + 1, by omega, by go_num, by rw [HM.out]⟩
            case measure => simp [intOf]; omega
          · have hm := signs_hit hlt h1 h2
            rw [← hz] at hm hle ⊢
            have HM := Lib.hid hm
            have b1 : ((s[k].toNat : Int) != 40) = true := by simp [h1]
            have b2 : ((s[k].toNat : Int) != 41) = true := by simp [h2]
            clear hm hz
            go_wp2
            go_round
            case rel => exact ⟨k + 1, by omega, by go_num, by rw [HM.out]; go_num⟩
            case measure => simp [intOf]; omega
      · obtain rfl : k = s.size := by omega
        have ht : s.data.toList.take s.size = s.data.toList := List.take_of_length_le (by rw [size_eq]; exact Nat.le_refl _)
        rw [ht, ← HV.out]
        go_wp2
        go_ret2
        exact ⟨rfl, hb⟩

end Go.Proofs.Ytiphooodijbhiaa

namespace Go.Proofs.Ytiphooodijbhiaa
open Go.RowKit
set_option linter.unusedVariables false

set_option maxHeartbeats 400000 in
theorem sameInts_same (a1 a2 : Option Addr) (n c1 c2 : Nat) (zs : List Int) (w : World) (h1 : ReadsI w a1 n zs) (h2 : ReadsI w a2 n zs) (hn : n ≤ 1048576) :
    Calls Try.prog 46 #[.slice a1 n c1, .slice a2 n c2] w fun e w' => e = .returned (.bool true) ∧ ∃ nd, w' = w.drewN nd := by
  have H1 := Lib.hid h1
  have H2 := Lib.hid h2
  clear h1 h2
  go_enter Try.func46, Try.ntmps46
  go_wp2
  go_loopw [5] (fun i wr => ∃ k : Nat, k ≤ n ∧ i = .int .i64 k ∧ ∃ nd, wr = w.drewN nd) (fun i _ => n - (intOf i).toNat)
  case atStart => exact ⟨0, Nat.zero_le _, rfl, 0, rfl⟩
  case round =>
    obtain ⟨k, hk, rfl, nd, rfl⟩ := hrel
    by_cases hlt : k < n
    · rcases H1.out.cells with h | ⟨g1, o1, rfl, hg1, hc1⟩
      · omega
      rcases H2.out.cells with h | ⟨g2, o2, rfl, hg2, hc2⟩
      · omega
      have q1 := hc1 k hlt
      have q2 := hc2 k hlt
      clear hc1 hc2
      have b1 : (k : Int) < (n : Int) := by omega
      have b2 : (0 : Int) ≤ (k : Int) := by omega
      go_wp2
      go_quiet (fail)
      go_wp2
      go_roundw
      case rel => exact ⟨k + 1, by omega, by go_num, _, rfl⟩
      case measure => simp [intOf]; omega
    · go_wp2
      go_ret
      exact ⟨rfl, nd, rfl⟩
end Go.Proofs.Ytiphooodijbhiaa

set_option linter.unusedVariables false
set_option linter.unusedSimpArgs false
namespace Go.Proofs.Ytiphooodijbhiaa
open Go.RowKit

theorem sizeI (s : ByteArray) (w : World)  (hs : s.size ≤ 1048576) : Calls Try.prog 37 #[.string s] w fun e w' => e = .returned (.tuple #[.int .i64 (sizeV s), .bool (termOf s.data.toList).isSome]) ∧ Below w.heap.size w w' := by
  refine (implTermSize s w hs).mono ?_
  rintro e w' ⟨rfl, m, rfl⟩
  exact ⟨rfl, below_drewN (Below.refl _ _) m⟩
theorem sameB (a1 a2 : Option Addr) (n c1 c2 : Nat) (zs : List Int) (w : World) (h1 : ReadsI w a1 n zs) (h2 : ReadsI w a2 n zs) (hn : n ≤ 1048576) :
    Calls Try.prog 46 #[.slice a1 n c1, .slice a2 n c2] w fun e w' => e = .returned (.bool true) ∧ Below w.heap.size w w' := by
  refine (sameInts_same a1 a2 n c1 c2 zs w h1 h2 hn).mono ?_
  rintro e w' ⟨rfl, nd, rfl⟩
  exact ⟨rfl, below_drewN (Below.refl _ _) nd⟩
theorem tidy_on (s : ByteArray) : (termOf s.data.toList).isSome = true → ∃ t : Tm, tlistV s 80 = listF (tmF t) 80 ∧ tlistB s 80 = true ∧ tlistV (tidyS s) 80 = listF (tmF t) 80 ∧ tlistB (tidyS s) 80 = true ∧ (termOf (tidyS s).data.toList).isSome = true ∧ tidyS (tidyS s) = tidyS s ∧ sizeV (tidyS s) ≤ sizeV s ∧ (tidyS s).size ≤ 60 := fun h => by
  cases ht : termOf s.data.toList with
  | none => rw [ht] at h; cases h
  | some t =>
    obtain ⟨h1, h2, h3⟩ := termOf_some ht
    obtain ⟨k1, k2⟩ := tidy_ok h2
    have e : (tidyS s).data.toList = tmText (tidy t) := by rw [tidyS_some ht]; rfl
    have ht2 : termOf (tidyS s).data.toList = some (tidy t) := by rw [e]; exact termOf_text k1 (by omega)
    refine ⟨t, (show tlistV s 80 = listF (tmF t) 80 ∧ tlistB s 80 = true from tlist_in (k := 80) ht (by decide)).1, (show tlistV s 80 = listF (tmF t) 80 ∧ tlistB s 80 = true from tlist_in (k := 80) ht (by decide)).2, ?_, (show tlistV (tidyS s) 80 = listF (tmF (tidy t)) 80 ∧ tlistB (tidyS s) 80 = true from tlist_in (k := 80) ht2 (by decide)).2, by rw [ht2]; rfl, ?_, ?_, ?_⟩
    · rw [(show tlistV (tidyS s) 80 = listF (tmF (tidy t)) 80 ∧ tlistB (tidyS s) 80 = true from tlist_in (k := 80) ht2 (by decide)).1, tidy_same h2]
    · rw [tidyS_some ht2, tidy_again, tidyS_some ht]
    · unfold sizeV
      rw [ht, ht2]
      show tmSigns _ ≤ tmSigns _
      rw [e, h1, tmSigns_text k1, tmSigns_text h2]
      exact tidy_size t
    · rw [← size_eq, e]; omega

set_option maxRecDepth 100000 in
set_option maxHeartbeats 4000000 in
theorem drawTermTidy (a : Option Addr) (n c : Nat) (w : World) (h : Bytes w a n) (hn : n ≤ 1048576) (hc : n ≤ c) :
    Calls Try.prog 50 #[.slice a n c] w fun e w' => ∃ s : ByteArray, e = .returned (.string s) ∧ s.size ≤ 30 ∧ Below w.heap.size w w' := by
  go_enter Try.func50, Try.ntmps50
  go_wp2_with fail
  refine (open_rd a n c _ h hn hc).mono ?_
  rintro e w1 ⟨n', rfl, hrd, hap⟩
  go_wp2_with fail
  refine (said_rd hrd (by omega)).mono ?_
  rintro e w2 ⟨s, p2, rfl, hs, hp2, hrd2, hap2⟩
  go_wp2
  go_ret
  exact ⟨s, rfl, hs, (hap.trans hap2).below⟩

set_option maxRecDepth 100000 in
set_option maxHeartbeats 4000000 in
theorem pTermTidy (a : Option Addr) (n c : Nat) (zs : List Int) (w : World) (hr : IsRow .u8 w a n c zs) (m : Int) (hg : 0 < w.heap.size) (hm : w.cell? ⟨0, 0, none⟩ = some (.int .i64 m)) :
    Calls Try.prog 12 #[.slice a n c] w fun e w' => e = .returned (.bool true) ∧ Below w.heap.size w w' := by
  by_cases hn : n ≤ 1048576
  · have hL : LibAt m w := ⟨hg, hm⟩
    clear hg hm
    have hB := Lib.hid hr.bytes
    have hC := Lib.hid hr.cap
    clear hr
    go_enter Try.func12, Try.ntmps12
    go_wp2_with fail
    refine (drawTermTidy a n c _ hB.out hn hC.out).mono ?_
    rintro e w1 ⟨s, rfl, hs, hb1⟩
    have HB1 := Lib.hid hb1
    have HL1 := Lib.hid (hL.below hb1)
    clear hb1
    have H1 := Lib.hid (fun W => implTermTidy s W)
    have H2 := Lib.hid (fun W => specTermTidy s (tidyS s) W (by unfold tidyS; rfl))
    have hon := tidy_on s
    obtain ⟨b, hb⟩ : ∃ b, b = (termOf s.data.toList).isSome := ⟨_, rfl⟩
    obtain ⟨V, hV⟩ : ∃ V, V = tidyS s := ⟨_, rfl⟩
    have hsz := sizeI s
    rw [← hb] at H1 H2 hon hsz
    rw [← hV] at H1 H2 hon
    have HOn := Lib.hid hon
    have HSz := Lib.hid hsz
    clear hb hV hon hsz
    go_wp2_with fail
    refine (H1.out _).mono ?_
    rintro e w2 ⟨rfl, hx2⟩
    have HB2 := Lib.hid (below_step HB1.out hx2)
    have HL2 := Lib.hid (HL1.out.below hx2)
    clear hx2
    go_wp2_with fail
    refine (H2.out _).mono ?_
    rintro e w3 ⟨rfl, hx3⟩
    have HB3 := Lib.hid (below_step HB2.out hx3)
    have HL3 := Lib.hid (HL2.out.below hx3)
    clear hx3
    cases b
    · go_wp2
      go_ret
      exact ⟨ret_bool (by simp), HB3.out⟩
    · obtain ⟨t, h1, h2, h3, h4, h5, h6, h7, h8⟩ := HOn.out rfl
      have A1 := Lib.hid (fun W hL => implTermList s 80 m W hL)
      have A2 := Lib.hid (fun W hL => implTermList V 80 m W hL)
      have A3 := Lib.hid (fun W => sizeI V W (by omega))
      have A4 := Lib.hid (fun W => implTermTidy V W)
      rw [h1, h2] at A1
      rw [h3, h4] at A2
      rw [h5] at A3 A4
      rw [h6] at A4
      have hle := listF_le (tmF t) 80
      obtain ⟨L, hLd⟩ : ∃ L, L = listF (tmF t) 80 := ⟨_, rfl⟩
      rw [← hLd] at A1 A2 hle
      obtain ⟨x, hx⟩ : ∃ x, x = sizeV s := ⟨_, rfl⟩
      obtain ⟨y, hy⟩ : ∃ y, y = sizeV V := ⟨_, rfl⟩
      rw [← hx] at HSz h7
      rw [← hy] at A3 h7
      have hyx : (y : Int) ≤ (x : Int) := by omega
      clear h1 h2 h3 h4 h5 h6 h7 h8 hx hy hLd
      go_wp2_with fail
      refine (A1.out _ HL3.out).mono ?_
      rintro e w4 ⟨la2, lc2, rfl, hx4, ho4⟩
      have HB4 := Lib.hid (below_step HB3.out hx4)
      have HL4 := Lib.hid (HL3.out.below hx4)
      have R2 := Lib.hid (readsI_own ho4)
      clear hx4 ho4
      go_wp2_with fail
      refine (A2.out _ HL4.out).mono ?_
      rintro e w5 ⟨la3, lc3, rfl, hx5, ho5⟩
      have HB5 := Lib.hid (below_step HB4.out hx5)
      have HL5 := Lib.hid (HL4.out.below hx5)
      have R3 := Lib.hid (readsI_own ho5)
      have R2 := Lib.hid (R2.out.below hx5 (Nat.le_refl _))
      clear hx5 ho5
      go_wp2_with fail
      refine (HSz.out _ (by omega)).mono ?_
      rintro e w6 ⟨rfl, hx6⟩
      have HB6 := Lib.hid (below_step HB5.out hx6)
      have HL6 := Lib.hid (HL5.out.below hx6)
      have R2 := Lib.hid (R2.out.below hx6 (Nat.le_refl _))
      have R3 := Lib.hid (R3.out.below hx6 (Nat.le_refl _))
      clear hx6
      go_wp2_with fail
      refine (A3.out _).mono ?_
      rintro e w7 ⟨rfl, hx7⟩
      have HB7 := Lib.hid (below_step HB6.out hx7)
      have HL7 := Lib.hid (HL6.out.below hx7)
      have R2 := Lib.hid (R2.out.below hx7 (Nat.le_refl _))
      have R3 := Lib.hid (R3.out.below hx7 (Nat.le_refl _))
      clear hx7
      go_wp2_with fail
      refine (A4.out _).mono ?_
      rintro e w8 ⟨rfl, hx8⟩
      have HB8 := Lib.hid (below_step HB7.out hx8)
      have HL8 := Lib.hid (HL7.out.below hx8)
      have R2 := Lib.hid (R2.out.below hx8 (Nat.le_refl _))
      have R3 := Lib.hid (R3.out.below hx8 (Nat.le_refl _))
      clear hx8
      go_wp2_with fail
      refine (sameB la2 la3 L.length lc2 lc3 L _ R2.out R3.out (by omega)).mono ?_
      rintro e w9 ⟨rfl, hx9⟩
      have HB9 := Lib.hid (below_step HB8.out hx9)
      have HL9 := Lib.hid (HL8.out.below hx9)
      clear hx9
      go_wp2
      go_ret
      exact ⟨ret_bool (by simp), HB9.out⟩
  · have hd : (1048576 : Int) < (n : Int) := by omega
    go_enter Try.func12, Try.ntmps12
    go_wp2
    go_ret
    exact ⟨rfl, Below.refl _ _⟩

end Go.Proofs.Ytiphooodijbhiaa
