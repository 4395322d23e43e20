/-
  The walks of spec.l1Bit, spec.l1Write and spec.l1Done: the tidy text of a set of the model's.
-/
import Derived.Test.YtojjfkabepkhdaaLess
import Derived.Test.YtojjfkabepkhdaaTidyText
import Derived.Laws.IdiomStrings
namespace Go.Proofs.Ytojjfkabepkhdaa
open Go.RowKit

theorem bit_true (w : World) : Calls Try.prog 67 #[.bool true] w fun e w' => e = .returned (.int .i64 1) ∧ w = w' := by
  go_enter Try.func67, Try.ntmps67
  go_wp2
  go_ret
  exact ⟨rfl, rfl⟩

theorem bit_false (w : World) : Calls Try.prog 67 #[.bool false] w fun e w' => e = .returned (.int .i64 0) ∧ w = w' := by
  go_enter Try.func67, Try.ntmps67
  go_wp2
  go_ret
  exact ⟨rfl, rfl⟩

/-- Behind an append of one byte. -/
theorem bytes_rel {B S0 : Nat} {W wr w1 : World} {u v' : Value} {l : List UInt8} {c : UInt8} {n : Nat} {o : Obj}
    (hown : wr.ownsRow B 5 1 u n (Lib.byteCells l)) (hnx : Below S0 W wr) (hBT : S0 ≤ B) (hBs : S0 ≤ wr.heap.size)
    (hown' : w1.ownsRow B 5 1 v' (n + 1) (Lib.byteCells l ++ [.int .u8 c.toNat])) (hgrow : (wr.alloc o).grownBy w1 u.ownBlock) :
    w1.ownsRow B 5 1 v' (n + 1) (Lib.byteCells (l ++ [c])) ∧ Below S0 W w1 := by
  refine ⟨by rw [byteCells_snoc]; exact hown', ?_⟩
  exact (hnx.alloc hBs o).grown hgrow (by simp; omega) (fun j hj => Nat.le_trans hBT (hown.lt j hj).1)

theorem bytes_start (w : World) (o : Obj) : ((w.alloc o).alloc (.cells #[] 5)).ownsRow (w.heap.size + 1) 5 1 (.slice (some ⟨w.heap.size + 1, 0, none⟩) 0 0) 0 (Lib.byteCells []) := by
  have h := World.ownsRow_made (base := w.heap.size + 1) (e := 5) (size := 1) (w.alloc o) #[] 0 (by simp) (by decide) rfl
  simp at h
  exact h

theorem signs_assoc (a b : List UInt8) (c : UInt8) : a ++ ([40] ++ (b ++ [c])) = a ++ ([40] ++ b) ++ [c] := by simp

theorem signsOf_take_length (t : List Bool) (k : Nat) (h : k ≤ t.length) : (signsOf (t.take k)).length = k := by rw [signsOf_length, List.length_take]; omega

theorem bytes_back {w : World} {B g n cap : Nat} {l : List UInt8} (h : w.ownsRow B 5 1 (.slice (some ⟨g, 0, none⟩) n cap) n (Lib.byteCells l)) (hn : l.length = n) :
    (convert 22 9 (.slice (some ⟨g, 0, none⟩) n cap)).run Try.prog w = .ok (.string ⟨l.toArray⟩) w := by
  subst hn
  refine run_convert_bytes_back w _ _ 5 ⟨g, 0, none⟩ cap l Try.underlying22 Try.underlying5 Try.underlying9 ?_
  intro j hj
  have h1 := h.cellAt j (by omega)
  have e : (⟨g, 0, none⟩ : Addr).add j = ⟨g, j, none⟩ := by unfold Addr.add; split <;> simp_all
  rw [e, h1]
  unfold Lib.byteCells
  rw [List.getElem?_map, List.getElem?_eq_getElem hj]; rfl

end Go.Proofs.Ytojjfkabepkhdaa
