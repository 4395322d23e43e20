/-
  Plain facts on set texts as lists of bytes: no program in sight. What every walk of this seat uses: closed facts on types, a slice that reads as a list of truths, small lemmas on worlds.
-/
import Derived.Lib.CutLaws
import Derived.Lib.IndexLaws
import Derived.Lib.IndexMore
import Derived.Test.YtifodjlfjnmnkabRows
import Derived.WalkKit
import Derived.WalkSpells
import Derived.WalkLawsBesides
import Derived.Lib.Hide
namespace Go.Proofs.Ytifodjlfjnmnkab
open Go.RowKit

open Go

/-- A sign: '0' or '1'. -/
def isSign (c : UInt8) : Bool := c == 48 || c == 49
def allSigns (l : List UInt8) : Bool := l.all isSign
/-- What impl.isPart asks. -/
def partB (l : List UInt8) : Bool := decide (l.length ≤ 60) && allSigns l

theorem isSign_iff (c : UInt8) : isSign c = true ↔ ((c.toNat : Int) = 48 ∨ (c.toNat : Int) = 49) := by
  unfold isSign
  simp only [Bool.or_eq_true, beq_iff_eq, ← UInt8.toNat_inj]
  have e1 : (48 : UInt8).toNat = 48 := rfl
  have e2 : (49 : UInt8).toNat = 49 := rfl
  rw [e1, e2]; omega
theorem size_eq (s : ByteArray) : s.data.toList.length = s.size := by simp
theorem take_snoc (s : ByteArray) (k : Nat) (h : k < s.size) : s.data.toList.take (k + 1) = s.data.toList.take k ++ [s[k]] := by
  rw [List.take_succ_eq_append_getElem (by simpa using h)]; rfl
theorem take_size (s : ByteArray) (k : Nat) (h : ¬ k < s.size) : s.data.toList.take k = s.data.toList := List.take_of_length_le (by simp; omega)
theorem allSigns_snoc (l : List UInt8) (c : UInt8) : allSigns (l ++ [c]) = (allSigns l && isSign c) := by simp [allSigns, List.all_append]
theorem allSigns_step (s : ByteArray) (k : Nat) (h : k < s.size) (ha : allSigns (s.data.toList.take k) = true) (hc : (s[k].toNat : Int) = 48 ∨ (s[k].toNat : Int) = 49) :
    allSigns (s.data.toList.take (k + 1)) = true := by
  rw [take_snoc s k h, allSigns_snoc, ha, (isSign_iff _).2 hc]; rfl
theorem allSigns_mem (l : List UInt8) (h : allSigns l = true) (c : UInt8) (hc : c ∈ l) : isSign c = true := by
  unfold allSigns at h; exact List.all_eq_true.1 h c hc
theorem allSigns_bad (s : ByteArray) (k : Nat) (h : k < s.size) (hc : ¬ ((s[k].toNat : Int) = 48 ∨ (s[k].toNat : Int) = 49)) :
    allSigns s.data.toList = false := by
  rw [Bool.eq_false_iff]; intro ha
  exact hc ((isSign_iff _).1 (allSigns_mem _ ha s[k] (List.getElem_mem (l := s.data.toList) (by simpa using h))))
theorem part_yes (s : ByteArray) (k : Nat) (h60 : s.size ≤ 60) (h : ¬ k < s.size) (ha : allSigns (s.data.toList.take k) = true) : partB s.data.toList = true := by
  rw [take_size s k h] at ha; unfold partB; rw [ha]; simpa using h60
theorem part_bad (s : ByteArray) (k : Nat) (h : k < s.size) (hc : ¬ ((s[k].toNat : Int) = 48 ∨ (s[k].toNat : Int) = 49)) : partB s.data.toList = false := by
  unfold partB; rw [allSigns_bad s k h hc]; simp
theorem part_long (s : ByteArray) (h : ¬ s.size ≤ 60) : partB s.data.toList = false := by
  unfold partB; rw [decide_eq_false (by simpa using h)]; rfl

theorem ret_bool {a b : Bool} (h : a = b) : Ending.returned (.bool a) = .returned (.bool b) := by rw [h]
theorem ret2_bool {v : Value} {a b : Bool} (h : a = b) : Ending.returned (.tuple #[v, .bool a]) = .returned (.tuple #[v, .bool b]) := by rw [h]
theorem Try.infoBool : (Try.prog.info? 4).map (fun i => (i.zero, i.size, i.bytes)) = some (some (.bool false), 1, 1) := by kernel_rfl

theorem bcell {W w1 : World} (hb : Below W.heap.size W w1) : (∀ b o, b < W.heap.size → w1.cell? ⟨b, o, none⟩ = W.cell? ⟨b, o, none⟩) ∧ (∀ b o, b < W.heap.size → w1.frozen? ⟨b, o, none⟩ = W.frozen? ⟨b, o, none⟩) :=
  ⟨fun b o h => hb.cell (p := ⟨b, o, none⟩) h, fun b o h => hb.frozen (p := ⟨b, o, none⟩) h⟩

/-- Signs as truths, as the model holds them. -/
def bits (l : List UInt8) : List Value := l.map fun c => .bool (c == 49)
theorem bits_length (l : List UInt8) : (bits l).length = l.length := by simp [bits]
theorem bits_snoc (l : List UInt8) (c : UInt8) : bits (l ++ [c]) = bits l ++ [.bool (c == 49)] := by simp [bits]
theorem sign0 {c : UInt8} (h : (c.toNat : Int) = 48) : (c == 49) = false := by
  rw [beq_eq_false_iff_ne]; intro e; subst e; exact absurd h (by decide)
theorem sign1 {c : UInt8} (h : (c.toNat : Int) = 49) : (c == 49) = true := by
  rw [beq_iff_eq, ← UInt8.toNat_inj]; have : (49 : UInt8).toNat = 49 := rfl; omega

/-- A row of the call's own stays what it is where nothing that was there turns. -/
theorem own_below {w w' : World} {base size n B : Nat} {e : TypeId} {v : Value} {xs : List Value} (h : w.ownsRow base e size v n xs) (hb : Below B w w') (hB : w.heap.size ≤ B) : w'.ownsRow base e size v n xs := by
  obtain ⟨h1, h2⟩ := h
  refine ⟨h1, ?_⟩
  rcases h2 with h2 | ⟨g, cap, cur, hv, hg, hh, hr⟩
  · exact .inl h2
  · refine .inr ⟨g, cap, cur, hv, hg, ?_, hr⟩
    have hlt : g < w.heap.size := by
      rcases Nat.lt_or_ge g w.heap.size with h | h
      · exact h
      · rw [Array.getElem?_eq_none h] at hh; cases hh
    rw [hb.block g (by omega)]; exact hh
theorem own_base {w : World} {base base' size n : Nat} {e : TypeId} {v : Value} {xs : List Value} (h : w.ownsRow base e size v n xs) (hb : base' ≤ base) : w.ownsRow base' e size v n xs := by
  obtain ⟨h1, h2⟩ := h
  refine ⟨h1, ?_⟩
  rcases h2 with h2 | ⟨g, cap, cur, hv, hg, hr⟩
  · exact .inl h2
  · exact .inr ⟨g, cap, cur, hv, by omega, hr⟩
/-- Two cells of one block are written, a block of the call's own below both rows. -/
theorem below_two {w W : World} {S : Nat} (h : Below S w W) (u v : Value) : Below S w ((W.setCell ⟨S, 0, none⟩ u).setCell ⟨S, 1, none⟩ v) := (h.setCell (Nat.le_refl _) u).setCell (Nat.le_refl _) v
theorem own_two {W : World} {S base size n : Nat} {e : TypeId} {r : Value} {xs : List Value} (h : W.ownsRow base e size r n xs) (hS : S < base) (u v : Value) : ((W.setCell ⟨S, 0, none⟩ u).setCell ⟨S, 1, none⟩ v).ownsRow base e size r n xs :=
  ownsRow_setCell_below (ownsRow_setCell_below h (by exact hS) u) (by exact hS) v

theorem own_form {w : World} {base size n : Nat} {e : TypeId} {v : Value} {xs : List Value} (h : w.ownsRow base e size v n xs) : ∃ a cap, v = .slice a n cap := by
  obtain ⟨_, h2⟩ := h
  rcases h2 with ⟨hv, hn⟩ | ⟨g, cap, cur, hv, _⟩
  · exact ⟨.none, 0, by rw [hv, hn]⟩
  · exact ⟨_, cap, hv⟩

end Go.Proofs.Ytifodjlfjnmnkab
