/-
  What a machine that is turned takes: plain facts.
-/
import Derived.Test.YtiphooodijbhiaaMachMath
import Derived.Test.YtiphooodijbhiaaMachRes
namespace Go.Proofs.Ytiphooodijbhiaa
open Go.RowKit

theorem okM_of {l : List Nat} {n s t : Nat} (h : GoodM l n s t) : okM (castM l) (s : Int) (t : Int) = true := by
  unfold okM
  have hl : (castM l).length = n := by rw [castM_length]; exact h.good.len
  rw [hl]
  have hp := pow_cast n
  have hpos := Nat.two_pow_pos n
  have hs := h.starts
  have ht := h.ends
  simp only [Bool.and_eq_true, decide_eq_true_eq, List.all_eq_true]
  refine ⟨⟨⟨⟨h.pos, h.le⟩, fun z hz => ?_⟩, ?_, ?_⟩, ?_, ?_⟩
  · obtain ⟨x, hx, rfl⟩ := List.mem_map.1 hz
    obtain ⟨i, hi, rfl⟩ := List.mem_iff_getElem.1 hx
    have := h.good.lt i
    rw [List.getD_eq_getElem?_getD, List.getElem?_eq_getElem hi] at this
    simp at this
    refine ⟨Int.natCast_nonneg _, ?_⟩
    rw [hp]
    show ((l[i] : Nat) : Int) ≤ _
    omega
  · omega
  · rw [hp]; omega
  · omega
  · rw [hp]; omega
theorem turn_says {ys : List Int} {x y : Int} (h : okM ys x y = true) :
    okM (castM (turnL (natsM ys))) (y.toNat : Int) (x.toNat : Int) = true ∧ (∀ n : Nat, takesV (castM (turnL (natsM ys))) (y.toNat : Int) (x.toNat : Int) n = takesV ys x y n) ∧
    castM (turnL (natsM (castM (turnL (natsM ys))))) = ys ∧ (x.toNat : Int) = x ∧ (y.toNat : Int) = y ∧ (turnL (natsM ys)).length = ys.length := by
  have h0 := h
  obtain ⟨l, n, s, t, rfl, hl, rfl, rfl, hg⟩ := okM_good h
  rw [natsM_cast]
  have hlen := hg.good.len
  have htg : GoodM (turnL l) n t s := ⟨by have := turnL_good l; rw [hlen] at this; exact this, hg.pos, hg.le, hg.ends, hg.starts⟩
  have ho := okM_of htg
  refine ⟨ho, fun k => ?_, by rw [natsM_cast, turn_twice hg.good], rfl, rfl, by rw [turnL_length, castM_length]⟩
  unfold takesV okAt
  have e1 : okM (castM (turnL l)) ((((t : Int)).toNat : Nat) : Int) ((((s : Int)).toNat : Nat) : Int) = true := ho
  rw [e1, h0]
  congr 1
  unfold fM
  rw [natsM_cast, natsM_cast]
  exact turn_takes hg.good _ _ _

end Go.Proofs.Ytiphooodijbhiaa
