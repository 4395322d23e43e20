/-
  Plain facts on set texts as lists of bytes: no program in sight.
-/
import Derived.Lib.CutLaws
import Derived.Lib.IndexLaws
import Derived.Lib.IndexMore
namespace Go.Proofs.Ytonphojjlilcnab
open Go

/-- A sign: '0' or '1'. -/
def isSign (c : UInt8) : Bool := c == 48 || c == 49
def allSigns (l : List UInt8) : Bool := l.all isSign
/-- What impl.isPart asks. -/
def partB (l : List UInt8) : Bool := decide (l.length ≤ 60) && allSigns l

theorem isSign_iff (c : UInt8) : isSign c = true ↔ ((c.toNat : Int) = 48 ∨ (c.toNat : Int) = 49) := by
  unfold isSign
  simp only [Bool.or_eq_true, beq_iff_eq, ← UInt8.toNat_inj]
  have e1 : (48 : UInt8).toNat = 48 := rfl
  have e2 : (49 : UInt8).toNat = 49 := rfl
  rw [e1, e2]; omega
theorem size_eq (s : ByteArray) : s.data.toList.length = s.size := by simp
theorem take_snoc (s : ByteArray) (k : Nat) (h : k < s.size) : s.data.toList.take (k + 1) = s.data.toList.take k ++ [s[k]] := by
  rw [List.take_succ_eq_append_getElem (by simpa using h)]; rfl
theorem take_size (s : ByteArray) (k : Nat) (h : ¬ k < s.size) : s.data.toList.take k = s.data.toList := List.take_of_length_le (by simp; omega)
theorem allSigns_snoc (l : List UInt8) (c : UInt8) : allSigns (l ++ [c]) = (allSigns l && isSign c) := by simp [allSigns, List.all_append]
theorem allSigns_step (s : ByteArray) (k : Nat) (h : k < s.size) (ha : allSigns (s.data.toList.take k) = true) (hc : (s[k].toNat : Int) = 48 ∨ (s[k].toNat : Int) = 49) :
    allSigns (s.data.toList.take (k + 1)) = true := by
  rw [take_snoc s k h, allSigns_snoc, ha, (isSign_iff _).2 hc]; rfl
theorem allSigns_mem (l : List UInt8) (h : allSigns l = true) (c : UInt8) (hc : c ∈ l) : isSign c = true := by
  unfold allSigns at h; exact List.all_eq_true.1 h c hc
theorem allSigns_bad (s : ByteArray) (k : Nat) (h : k < s.size) (hc : ¬ ((s[k].toNat : Int) = 48 ∨ (s[k].toNat : Int) = 49)) :
    allSigns s.data.toList = false := by
  rw [Bool.eq_false_iff]; intro ha
  exact hc ((isSign_iff _).1 (allSigns_mem _ ha s[k] (List.getElem_mem (l := s.data.toList) (by simpa using h))))
theorem part_yes (s : ByteArray) (k : Nat) (h60 : s.size ≤ 60) (h : ¬ k < s.size) (ha : allSigns (s.data.toList.take k) = true) : partB s.data.toList = true := by
  rw [take_size s k h] at ha; unfold partB; rw [ha]; simpa using h60
theorem part_bad (s : ByteArray) (k : Nat) (h : k < s.size) (hc : ¬ ((s[k].toNat : Int) = 48 ∨ (s[k].toNat : Int) = 49)) : partB s.data.toList = false := by
  unfold partB; rw [allSigns_bad s k h hc]; simp
theorem part_long (s : ByteArray) (h : ¬ s.size ≤ 60) : partB s.data.toList = false := by
  unfold partB; rw [decide_eq_false (by simpa using h)]; rfl

end Go.Proofs.Ytonphojjlilcnab
