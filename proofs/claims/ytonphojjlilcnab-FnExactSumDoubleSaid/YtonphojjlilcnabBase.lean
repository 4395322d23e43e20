/-
  What every walk of this seat uses: closed facts on types, a slice that reads as a list of truths, small lemmas on worlds.
-/
import Derived.Test.YtonphojjlilcnabRows
import Derived.Test.YtonphojjlilcnabMath
import Derived.WalkKit
import Derived.WalkSpells
import Derived.WalkLawsBesides
import Derived.Lib.Hide
namespace Go.Proofs.Ytonphojjlilcnab
open Go.RowKit

theorem ret_bool {a b : Bool} (h : a = b) : Ending.returned (.bool a) = .returned (.bool b) := by rw [h]
theorem ret2_bool {v : Value} {a b : Bool} (h : a = b) : Ending.returned (.tuple #[v, .bool a]) = .returned (.tuple #[v, .bool b]) := by rw [h]
theorem Try.infoBool : (Try.prog.info? 4).map (fun i => (i.zero, i.size, i.bytes)) = some (some (.bool false), 1, 1) := by kernel_rfl

theorem bcell {W w1 : World} (hb : Below W.heap.size W w1) : (∀ b o, b < W.heap.size → w1.cell? ⟨b, o, none⟩ = W.cell? ⟨b, o, none⟩) ∧ (∀ b o, b < W.heap.size → w1.frozen? ⟨b, o, none⟩ = W.frozen? ⟨b, o, none⟩) :=
  ⟨fun b o h => hb.cell (p := ⟨b, o, none⟩) h, fun b o h => hb.frozen (p := ⟨b, o, none⟩) h⟩

/-- Signs as truths, as the model holds them. -/
def bits (l : List UInt8) : List Value := l.map fun c => .bool (c == 49)
theorem bits_length (l : List UInt8) : (bits l).length = l.length := by simp [bits]
theorem bits_snoc (l : List UInt8) (c : UInt8) : bits (l ++ [c]) = bits l ++ [.bool (c == 49)] := by simp [bits]
theorem sign0 {c : UInt8} (h : (c.toNat : Int) = 48) : (c == 49) = false := by
  rw [beq_eq_false_iff_ne]; intro e; subst e; exact absurd h (by decide)
theorem sign1 {c : UInt8} (h : (c.toNat : Int) = 49) : (c == 49) = true := by
  rw [beq_iff_eq, ← UInt8.toNat_inj]; have : (49 : UInt8).toNat = 49 := rfl; omega

/-- A row of the call's own stays what it is where nothing that was there turns. -/
theorem own_below {w w' : World} {base size n B : Nat} {e : TypeId} {v : Value} {xs : List Value} (h : w.ownsRow base e size v n xs) (hb : Below B w w') (hB : w.heap.size ≤ B) : w'.ownsRow base e size v n xs := by
  obtain ⟨h1, h2⟩ := h
  refine ⟨h1, ?_⟩
  rcases h2 with h2 | ⟨g, cap, cur, hv, hg, hh, hr⟩
  · exact .inl h2
  · refine .inr ⟨g, cap, cur, hv, hg, ?_, hr⟩
    have hlt : g < w.heap.size := by
      rcases Nat.lt_or_ge g w.heap.size with h | h
      · exact h
      · rw [Array.getElem?_eq_none h] at hh; cases hh
    rw [hb.block g (by omega)]; exact hh
theorem own_base {w : World} {base base' size n : Nat} {e : TypeId} {v : Value} {xs : List Value} (h : w.ownsRow base e size v n xs) (hb : base' ≤ base) : w.ownsRow base' e size v n xs := by
  obtain ⟨h1, h2⟩ := h
  refine ⟨h1, ?_⟩
  rcases h2 with h2 | ⟨g, cap, cur, hv, hg, hr⟩
  · exact .inl h2
  · exact .inr ⟨g, cap, cur, hv, by omega, hr⟩
/-- Two cells of one block are written, a block of the call's own below both rows. -/
theorem below_two {w W : World} {S : Nat} (h : Below S w W) (u v : Value) : Below S w ((W.setCell ⟨S, 0, none⟩ u).setCell ⟨S, 1, none⟩ v) := (h.setCell (Nat.le_refl _) u).setCell (Nat.le_refl _) v
theorem own_two {W : World} {S base size n : Nat} {e : TypeId} {r : Value} {xs : List Value} (h : W.ownsRow base e size r n xs) (hS : S < base) (u v : Value) : ((W.setCell ⟨S, 0, none⟩ u).setCell ⟨S, 1, none⟩ v).ownsRow base e size r n xs :=
  ownsRow_setCell_below (ownsRow_setCell_below h (by exact hS) u) (by exact hS) v

theorem own_form {w : World} {base size n : Nat} {e : TypeId} {v : Value} {xs : List Value} (h : w.ownsRow base e size v n xs) : ∃ a cap, v = .slice a n cap := by
  obtain ⟨_, h2⟩ := h
  rcases h2 with ⟨hv, hn⟩ | ⟨g, cap, cur, hv, _⟩
  · exact ⟨.none, 0, by rw [hv, hn]⟩
  · exact ⟨_, cap, hv⟩

end Go.Proofs.Ytonphojjlilcnab
