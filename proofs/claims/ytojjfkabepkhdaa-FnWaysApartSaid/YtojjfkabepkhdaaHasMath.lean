/-
  Plain facts on set texts as lists of bytes: no program in sight. What every walk of this seat uses: closed facts on types, a slice that reads as a list of truths, small lemmas on worlds. Set texts, cut into tail and ring: plain facts, no program in sight. A set of a tail and a ring, as truths; and a slice that reads as truths.
-/
import Derived.Lib.CutLaws
import Derived.Lib.IndexLaws
import Derived.Lib.IndexMore
import Derived.Test.YtojjfkabepkhdaaRows
import Derived.WalkKit
import Derived.WalkSpells
import Derived.WalkLawsBesides
import Derived.Lib.Hide
import Derived.Lib.Strings
import Derived.Lib.IndexBytes
import Derived.Deep.QuietTactic
import Derived.BigQuiet
import Derived.IntWalk
namespace Go.Proofs.Ytojjfkabepkhdaa
open Go.RowKit

open Go

/-- A sign: '0' or '1'. -/
def isSign (c : UInt8) : Bool := c == 48 || c == 49
def allSigns (l : List UInt8) : Bool := l.all isSign
/-- What impl.isPart asks. -/
def partB (l : List UInt8) : Bool := decide (l.length ≤ 60) && allSigns l

theorem isSign_iff (c : UInt8) : isSign c = true ↔ ((c.toNat : Int) = 48 ∨ (c.toNat : Int) = 49) := by
  unfold isSign
  simp only [Bool.or_eq_true, beq_iff_eq, ← UInt8.toNat_inj]
  have e1 : (48 : UInt8).toNat = 48 := rfl
  have e2 : (49 : UInt8).toNat = 49 := rfl
  rw [e1, e2]; omega
theorem size_eq (s : ByteArray) : s.data.toList.length = s.size := by simp
theorem take_snoc (s : ByteArray) (k : Nat) (h : k < s.size) : s.data.toList.take (k + 1) = s.data.toList.take k ++ [s[k]] := by
  rw [List.take_succ_eq_append_getElem (by simpa using h)]; rfl
theorem take_size (s : ByteArray) (k : Nat) (h : ¬ k < s.size) : s.data.toList.take k = s.data.toList := List.take_of_length_le (by simp; omega)
theorem allSigns_snoc (l : List UInt8) (c : UInt8) : allSigns (l ++ [c]) = (allSigns l && isSign c) := by simp [allSigns, List.all_append]
theorem allSigns_step (s : ByteArray) (k : Nat) (h : k < s.size) (ha : allSigns (s.data.toList.take k) = true) (hc : (s[k].toNat : Int) = 48 ∨ (s[k].toNat : Int) = 49) :
    allSigns (s.data.toList.take (k + 1)) = true := by
  rw [take_snoc s k h, allSigns_snoc, ha, (isSign_iff _).2 hc]; rfl
theorem allSigns_mem (l : List UInt8) (h : allSigns l = true) (c : UInt8) (hc : c ∈ l) : isSign c = true := by
  unfold allSigns at h; exact List.all_eq_true.1 h c hc
theorem allSigns_bad (s : ByteArray) (k : Nat) (h : k < s.size) (hc : ¬ ((s[k].toNat : Int) = 48 ∨ (s[k].toNat : Int) = 49)) :
    allSigns s.data.toList = false := by
  rw [Bool.eq_false_iff]; intro ha
  exact hc ((isSign_iff _).1 (allSigns_mem _ ha s[k] (List.getElem_mem (l := s.data.toList) (by simpa using h))))
theorem part_yes (s : ByteArray) (k : Nat) (h60 : s.size ≤ 60) (h : ¬ k < s.size) (ha : allSigns (s.data.toList.take k) = true) : partB s.data.toList = true := by
  rw [take_size s k h] at ha; unfold partB; rw [ha]; simpa using h60
theorem part_bad (s : ByteArray) (k : Nat) (h : k < s.size) (hc : ¬ ((s[k].toNat : Int) = 48 ∨ (s[k].toNat : Int) = 49)) : partB s.data.toList = false := by
  unfold partB; rw [allSigns_bad s k h hc]; simp
theorem part_long (s : ByteArray) (h : ¬ s.size ≤ 60) : partB s.data.toList = false := by
  unfold partB; rw [decide_eq_false (by simpa using h)]; rfl

theorem ret_bool {a b : Bool} (h : a = b) : Ending.returned (.bool a) = .returned (.bool b) := by rw [h]
theorem ret2_bool {v : Value} {a b : Bool} (h : a = b) : Ending.returned (.tuple #[v, .bool a]) = .returned (.tuple #[v, .bool b]) := by rw [h]
theorem Try.infoBool : (Try.prog.info? 4).map (fun i => (i.zero, i.size, i.bytes)) = some (some (.bool false), 1, 1) := by kernel_rfl

theorem bcell {W w1 : World} (hb : Below W.heap.size W w1) : (∀ b o, b < W.heap.size → w1.cell? ⟨b, o, none⟩ = W.cell? ⟨b, o, none⟩) ∧ (∀ b o, b < W.heap.size → w1.frozen? ⟨b, o, none⟩ = W.frozen? ⟨b, o, none⟩) :=
  ⟨fun b o h => hb.cell (p := ⟨b, o, none⟩) h, fun b o h => hb.frozen (p := ⟨b, o, none⟩) h⟩

/-- Signs as truths, as the model holds them. -/
def bits (l : List UInt8) : List Value := l.map fun c => .bool (c == 49)
theorem bits_length (l : List UInt8) : (bits l).length = l.length := by simp [bits]
theorem bits_snoc (l : List UInt8) (c : UInt8) : bits (l ++ [c]) = bits l ++ [.bool (c == 49)] := by simp [bits]
theorem sign0 {c : UInt8} (h : (c.toNat : Int) = 48) : (c == 49) = false := by
  rw [beq_eq_false_iff_ne]; intro e; subst e; exact absurd h (by decide)
theorem sign1 {c : UInt8} (h : (c.toNat : Int) = 49) : (c == 49) = true := by
  rw [beq_iff_eq, ← UInt8.toNat_inj]; have : (49 : UInt8).toNat = 49 := rfl; omega

/-- A row of the call's own stays what it is where nothing that was there turns. -/
theorem own_below {w w' : World} {base size n B : Nat} {e : TypeId} {v : Value} {xs : List Value} (h : w.ownsRow base e size v n xs) (hb : Below B w w') (hB : w.heap.size ≤ B) : w'.ownsRow base e size v n xs := by
  obtain ⟨h1, h2⟩ := h
  refine ⟨h1, ?_⟩
  rcases h2 with h2 | ⟨g, cap, cur, hv, hg, hh, hr⟩
  · exact .inl h2
  · refine .inr ⟨g, cap, cur, hv, hg, ?_, hr⟩
    have hlt : g < w.heap.size := by
      rcases Nat.lt_or_ge g w.heap.size with h | h
      · exact h
      · rw [Array.getElem?_eq_none h] at hh; cases hh
    rw [hb.block g (by omega)]; exact hh
theorem own_base {w : World} {base base' size n : Nat} {e : TypeId} {v : Value} {xs : List Value} (h : w.ownsRow base e size v n xs) (hb : base' ≤ base) : w.ownsRow base' e size v n xs := by
  obtain ⟨h1, h2⟩ := h
  refine ⟨h1, ?_⟩
  rcases h2 with h2 | ⟨g, cap, cur, hv, hg, hr⟩
  · exact .inl h2
  · exact .inr ⟨g, cap, cur, hv, by omega, hr⟩
/-- Two cells of one block are written, a block of the call's own below both rows. -/
theorem below_two {w W : World} {S : Nat} (h : Below S w W) (u v : Value) : Below S w ((W.setCell ⟨S, 0, none⟩ u).setCell ⟨S, 1, none⟩ v) := (h.setCell (Nat.le_refl _) u).setCell (Nat.le_refl _) v
theorem own_two {W : World} {S base size n : Nat} {e : TypeId} {r : Value} {xs : List Value} (h : W.ownsRow base e size r n xs) (hS : S < base) (u v : Value) : ((W.setCell ⟨S, 0, none⟩ u).setCell ⟨S, 1, none⟩ v).ownsRow base e size r n xs :=
  ownsRow_setCell_below (ownsRow_setCell_below h (by exact hS) u) (by exact hS) v

theorem own_form {w : World} {base size n : Nat} {e : TypeId} {v : Value} {xs : List Value} (h : w.ownsRow base e size v n xs) : ∃ a cap, v = .slice a n cap := by
  obtain ⟨_, h2⟩ := h
  rcases h2 with ⟨hv, hn⟩ | ⟨g, cap, cur, hv, _⟩
  · exact ⟨.none, 0, by rw [hv, hn]⟩
  · exact ⟨_, cap, hv⟩

open Go

/-- A list cut at the first c: what is before it, what is behind it, whether there is one. -/
def cut1 (c : UInt8) : List UInt8 → List UInt8 × List UInt8 × Bool
  | [] => ([], [], false)
  | x :: l => if x == c then ([], l, true) else (x :: (cut1 c l).1, (cut1 c l).2.1, (cut1 c l).2.2)

theorem index_cons_hit (c : UInt8) (l : List UInt8) : Lib.index (c :: l) [c] = 0 := by unfold Lib.index; rw [if_pos (by simp)]
theorem index_cons_miss (c x : UInt8) (l : List UInt8) (h : (x == c) = false) : Lib.index (x :: l) [c] = if Lib.index l [c] == -1 then -1 else Lib.index l [c] + 1 := by
  conv => lhs; unfold Lib.index
  have h2 : (c == x) = false := by rw [beq_eq_false_iff_ne] at h ⊢; exact fun e => h e.symm
  rw [if_neg (by simp [List.isPrefixOf, h2])]

theorem cut_eq (c : UInt8) (l : List UInt8) : Lib.cut l [c] = cut1 c l := by
  induction l with
  | nil => rfl
  | cons x l ih =>
    unfold cut1
    by_cases h : x == c
    · rw [if_pos h]
      have e := eq_of_beq h; subst e
      unfold Lib.cut; rw [index_cons_hit]; simp
    · rw [if_neg h, ← ih]
      have h' : (x == c) = false := by simpa using h
      have hge := Lib.index_ge l [c]
      unfold Lib.cut
      rw [index_cons_miss c x l h']
      by_cases hm : Lib.index l [c] = -1
      · rw [hm]; simp
      · have hp : 0 ≤ Lib.index l [c] := by omega
        obtain ⟨n, hn⟩ := Int.eq_ofNat_of_zero_le hp
        rw [hn]
        have e1 : ((n : Int) == -1) = false := by rw [beq_eq_false_iff_ne]; omega
        have e2 : ((n : Int) + 1).toNat = n + 1 := by omega
        have e3 : ((n : Int)).toNat = n := by omega
        have e4 : n + 1 + 1 = (n + 1) + 1 := rfl
        have p1 : (0 : Int) ≤ (n : Int) + 1 := by omega
        have p2 : (0 : Int) ≤ (n : Int) := by omega
        simp only [e1, e2, e3, p1, p2, if_true, Bool.false_eq_true, if_false]
        simp

/-- The tail and the ring of a text; they count only where `setOk` holds. -/
def setTail (l : List UInt8) : List UInt8 := (cut1 40 l).1
def setRest (l : List UInt8) : List UInt8 := (cut1 40 l).2.1
def setRing (l : List UInt8) : List UInt8 := (cut1 41 (setRest l)).1
def setOk (l : List UInt8) : Bool :=
  (cut1 40 l).2.2 && (cut1 41 (setRest l)).2.2 && (cut1 41 (setRest l)).2.1.isEmpty && !(setRing l).isEmpty && partB (setTail l) && partB (setRing l)

theorem cut1_free (c : UInt8) (t r : List UInt8) (h : ∀ x ∈ t, x ≠ c) : cut1 c (t ++ c :: r) = (t, r, true) := by
  induction t with
  | nil => simp [cut1]
  | cons x t ih =>
    have hx : (x == c) = false := by rw [beq_eq_false_iff_ne]; exact h x (by simp)
    simp [cut1, hx, ih (fun y hy => h y (by simp [hy]))]

theorem cut1_back (c : UInt8) (l : List UInt8) (h : (cut1 c l).2.2 = true) : l = (cut1 c l).1 ++ c :: (cut1 c l).2.1 ∧ ∀ x ∈ (cut1 c l).1, x ≠ c := by
  induction l with
  | nil => simp [cut1] at h
  | cons x l ih =>
    unfold cut1 at h ⊢
    by_cases hx : x == c
    · rw [if_pos hx]; have e := eq_of_beq hx; subst e; simp
    · rw [if_neg hx] at h ⊢
      obtain ⟨a, b⟩ := ih h
      refine ⟨by simp only [List.cons_append]; rw [← a], ?_⟩
      intro y hy
      simp only [List.mem_cons] at hy
      rcases hy with rfl | hy
      · simpa using hx
      · exact b y hy

theorem sign_ne (c : UInt8) (h : isSign c = true) : c ≠ 40 ∧ c ≠ 41 := by
  constructor <;> (intro e; subst e; exact absurd h (by decide))
theorem part_free {l : List UInt8} (h : partB l = true) (x : UInt8) (hx : x ∈ l) : x ≠ 40 ∧ x ≠ 41 := by
  unfold partB at h; simp only [Bool.and_eq_true] at h
  exact sign_ne x (allSigns_mem _ h.2 x hx)
theorem part_len {l : List UInt8} (h : partB l = true) : l.length ≤ 60 := by
  unfold partB at h; simp only [Bool.and_eq_true] at h; exact of_decide_eq_true h.1
theorem part_signs {l : List UInt8} (h : partB l = true) : allSigns l = true := by
  unfold partB at h; simp only [Bool.and_eq_true] at h; exact h.2

/-- A text that is a tail, '(', a ring and ')'. -/
structure IsText (l t r : List UInt8) : Prop where
  eq : l = t ++ 40 :: (r ++ [41])
  tail : partB t = true
  ring : partB r = true
  some : r ≠ []

theorem ok_text {l : List UInt8} (h : setOk l = true) : IsText l (setTail l) (setRing l) := by
  unfold setOk at h
  simp only [Bool.and_eq_true, Bool.not_eq_true'] at h
  obtain ⟨⟨⟨⟨⟨h1, h2⟩, h3⟩, h4⟩, h5⟩, h6⟩ := h
  have e1 := (cut1_back 40 l h1).1
  have e2 := (cut1_back 41 (setRest l) h2).1
  have e3 : (cut1 41 (setRest l)).2.1 = [] := by simpa using h3
  refine ⟨?_, h5, h6, by intro e; rw [e] at h4; simp at h4⟩
  have e4 : setRest l = setRing l ++ [41] := by rw [e3] at e2; exact e2
  exact e1.trans (congrArg (fun z => setTail l ++ 40 :: z) e4)
theorem text_cut {l t r : List UInt8} (h : IsText l t r) : cut1 40 l = (t, r ++ [41], true) := by
  rw [h.eq]; exact cut1_free 40 t _ (fun x hx => (part_free h.tail x hx).1)
theorem text_cut2 {l t r : List UInt8} (h : IsText l t r) : cut1 41 (r ++ [41]) = (r, [], true) := cut1_free 41 r [] (fun x hx => (part_free h.ring x hx).2)
theorem text_tail {l t r : List UInt8} (h : IsText l t r) : setTail l = t := by unfold setTail; rw [text_cut h]
theorem text_rest {l t r : List UInt8} (h : IsText l t r) : setRest l = r ++ [41] := by unfold setRest; rw [text_cut h]
theorem text_ring {l t r : List UInt8} (h : IsText l t r) : setRing l = r := by unfold setRing; rw [text_rest h, text_cut2 h]
theorem text_ok {l t r : List UInt8} (h : IsText l t r) : setOk l = true := by
  have h5 : (r.isEmpty) = false := by cases r with | nil => exact absurd rfl h.some | cons _ _ => rfl
  unfold setOk
  rw [text_tail h, text_ring h, text_rest h, text_cut h, text_cut2 h, h.tail, h.ring, h5]; rfl

theorem tail_le {l : List UInt8} (h : setOk l = true) : (setTail l).length ≤ 60 := part_len (ok_text h).tail
theorem ring_le {l : List UInt8} (h : setOk l = true) : (setRing l).length ≤ 60 := part_len (ok_text h).ring
theorem ring_pos {l : List UInt8} (h : setOk l = true) : 0 < (setRing l).length := List.length_pos_iff.2 (ok_text h).some
theorem text_length {l t r : List UInt8} (h : IsText l t r) : l.length = t.length + r.length + 2 := by rw [h.eq]; simp; omega

/-- Signs as truths. -/
def sb (l : List UInt8) : List Bool := l.map (· == 49)

theorem sb_length (l : List UInt8) : (sb l).length = l.length := by simp [sb]

theorem bits_sb (l : List UInt8) : bits l = (sb l).map Value.bool := by simp [bits, sb]

/-- Is n in the set of a tail and a ring? -/
def hasB (t r : List Bool) (n : Nat) : Bool := if n < t.length then t.getD n false else r.getD ((n - t.length) % r.length) false

def hasI (t r : List Bool) (n : Int) : Bool := decide (0 ≤ n) && hasB t r n.toNat

theorem hasI_neg (t r : List Bool) (n : Int) (h : n < 0) : hasI t r n = false := by unfold hasI; rw [decide_eq_false (by omega)]; rfl

theorem hasI_nat (t r : List Bool) (k : Nat) : hasI t r (k : Int) = hasB t r k := by unfold hasI; rw [decide_eq_true (by omega)]; simp

theorem hasB_tail (t r : List Bool) (k : Nat) (h : k < t.length) : hasB t r k = t.getD k false := by unfold hasB; rw [if_pos h]

theorem hasB_ring (t r : List Bool) (j : Nat) : hasB t r (t.length + j) = r.getD (j % r.length) false := by
  unfold hasB; rw [if_neg (by omega), show t.length + j - t.length = j from by omega]

theorem at_sb (s : ByteArray) (k : Nat) (h : k < s.size) : (sb s.data.toList).getD k false = ((s[k].toNat : Int) == 49) := by
  have h' : k < (sb s.data.toList).length := by rw [sb_length, size_eq]; exact h
  rw [List.getD_eq_getElem?_getD, List.getElem?_eq_getElem h', Option.getD_some]
  have e : (sb s.data.toList)[k] = (s[k] == 49) := by simp only [sb, List.getElem_map]; rfl
  rw [e]
  rw [Bool.eq_iff_iff, beq_iff_eq, beq_iff_eq, ← UInt8.toNat_inj]
  have e49 : (49 : UInt8).toNat = 49 := rfl
  rw [e49]; omega

/-- A slice reads as a list of truths. -/
structure Reads (w : World) (a : Option Addr) (n : Nat) (bs : List Bool) : Prop where
  len : bs.length = n
  cells : n = 0 ∨ ∃ g o, a = some ⟨g, o, none⟩ ∧ g < w.heap.size ∧ ∀ i, i < n → w.cell? ⟨g, o + i, none⟩ = some (.bool (bs.getD i false))

theorem Reads.below {w w' : World} {a : Option Addr} {n B : Nat} {bs : List Bool} (h : Reads w a n bs) (hb : Below B w w') (hB : w.heap.size ≤ B) : Reads w' a n bs := by
  obtain ⟨hl, hc⟩ := h
  refine ⟨hl, ?_⟩
  rcases hc with hc | ⟨g, o, ha, hg, hc⟩
  · exact .inl hc
  · exact .inr ⟨g, o, ha, by have := hb.size; omega, fun i hi => (hb.cell (p := ⟨g, o + i, none⟩) (by exact Nat.lt_of_lt_of_le hg hB)).trans (hc i hi)⟩

theorem reads_own2 {w : World} {base c n : Nat} {a : Option Addr} {l : List Bool} (h : w.ownsRow base 4 1 (.slice a n c) n (l.map Value.bool)) (hn : l.length = n) : Reads w a n l := by
  obtain ⟨h1, h2⟩ := h
  refine ⟨hn, ?_⟩
  rcases h2 with ⟨hv, h0⟩ | ⟨g, cap, cur, hv, hg, hh, hn', hm, hs, ht⟩
  · exact .inl h0
  · right
    injection hv with ha hn2 hc
    subst ha
    have hlt : g < w.heap.size := by
      rcases Nat.lt_or_ge g w.heap.size with h | h
      · exact h
      · rw [Array.getElem?_eq_none h] at hh; cases hh
    refine ⟨g, 0, rfl, hlt, fun i hi => ?_⟩
    have e : cur[i]? = some (.bool (l.getD i false)) := by
      rw [← Array.getElem?_toList]
      have : (cur.toList.take (n * 1))[i]? = (l.map Value.bool)[i]? := by rw [ht]
      rw [List.getElem?_take_of_lt (by omega)] at this
      rw [this, List.getElem?_map, List.getElem?_eq_getElem (by omega), List.getD_eq_getElem?_getD, List.getElem?_eq_getElem (by omega)]
      rfl
    simp only [Nat.zero_add, World.cell?, hh]
    exact e

theorem reads_own {w : World} {base c n : Nat} {a : Option Addr} {l : List UInt8} (h : w.ownsRow base 4 1 (.slice a n c) n (bits l)) (hn : l.length = n) : Reads w a n (sb l) := by
  obtain ⟨h1, h2⟩ := h
  refine ⟨by rw [sb_length]; exact hn, ?_⟩
  rcases h2 with ⟨hv, h0⟩ | ⟨g, cap, cur, hv, hg, hh, hn', hm, hs, ht⟩
  · exact .inl h0
  · right
    injection hv with ha hn2 hc
    subst ha
    have hlt : g < w.heap.size := by
      rcases Nat.lt_or_ge g w.heap.size with h | h
      · exact h
      · rw [Array.getElem?_eq_none h] at hh; cases hh
    refine ⟨g, 0, rfl, hlt, fun i hi => ?_⟩
    have e : cur[i]? = some (.bool ((sb l).getD i false)) := by
      rw [← Array.getElem?_toList]
      have : (cur.toList.take (n * 1))[i]? = (bits l)[i]? := by rw [ht]
      rw [List.getElem?_take_of_lt (by omega)] at this
      rw [this, bits_sb, List.getElem?_map, List.getElem?_eq_getElem (by rw [sb_length]; omega), List.getD_eq_getElem?_getD, List.getElem?_eq_getElem (by rw [sb_length]; omega)]
      rfl
    simp only [Nat.zero_add, World.cell?, hh]
    exact e

theorem hasB_round (t r : List Bool) (n : Nat) (h : t.length ≤ n) : hasB t r (n + r.length) = hasB t r n := by
  unfold hasB
  rw [if_neg (by omega), if_neg (by omega), show n + r.length - t.length = (n - t.length) + r.length from by omega, Nat.add_mod_right]

theorem hasB_rounds (t r : List Bool) (n k : Nat) (h : t.length ≤ n) : hasB t r (n + k * r.length) = hasB t r n := by
  induction k with
  | zero => simp
  | succ k ih => rw [Nat.succ_mul, ← Nat.add_assoc, hasB_round t r _ (by omega), ih]

end Go.Proofs.Ytojjfkabepkhdaa
