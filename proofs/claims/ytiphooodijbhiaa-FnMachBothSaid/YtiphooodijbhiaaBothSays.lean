/-
  What the pair of two machines takes: plain facts.
-/
import Derived.Test.YtiphooodijbhiaaTurnSays
import Derived.Test.YtiphooodijbhiaaBothMI
set_option linter.unusedVariables false
namespace Go.Proofs.Ytiphooodijbhiaa
open Go.RowKit

theorem both_says {zs ys : List Int} {b e d f : Int} (h : okBoth zs b e ys d f = true) :
    okM zs b e = true ∧ okM ys d f = true ∧ okM (castM (pairL (natsM zs) (natsM ys))) (pairN b.toNat d.toNat ys.length : Nat) (pairN e.toNat f.toNat ys.length : Nat) = true ∧
    (∀ k : Nat, k ≤ 1000000 → takesV (castM (pairL (natsM zs) (natsM ys))) (pairN b.toNat d.toNat ys.length : Nat) (pairN e.toNat f.toNat ys.length : Nat) k = (takesV zs b e k && takesV ys d f k)) ∧
    (∀ k : Nat, fM (castM (pairL (natsM zs) (natsM ys))) (pairN b.toNat d.toNat ys.length : Nat) (pairN e.toNat f.toNat ys.length : Nat) k = (fM zs b e k && fM ys d f k)) ∧
    (pairL (natsM zs) (natsM ys)).length ≤ 5 := by
  unfold okBoth at h
  simp only [Bool.and_eq_true, decide_eq_true_eq] at h
  obtain ⟨⟨h1, h2⟩, h3⟩ := h
  have h1' := h1
  have h2' := h2
  obtain ⟨l, n, s, t, rfl, hl, rfl, rfl, hg⟩ := okM_good h1
  obtain ⟨l2, n2, s2, t2, rfl, hl2, rfl, rfl, hg2⟩ := okM_good h2
  rw [hl, hl2] at h3
  rw [natsM_cast, natsM_cast, hl2]
  have hlen : (pairL l l2).length = n * n2 := (pair_good hg.good hg2.good hg2.pos hg.le).len
  have hpg : GoodM (pairL l l2) (n * n2) (pairN s s2 n2) (pairN t t2 n2) := ⟨pair_good hg.good hg2.good hg2.pos hg.le, Nat.mul_pos hg.pos hg2.pos, h3, pairN_lt hg2.pos hg2.starts hg.starts hg.le, pairN_lt hg2.pos hg2.ends hg.ends hg.le⟩
  have ho := okM_of hpg
  have hf : ∀ k : Nat, fM (castM (pairL l l2)) (pairN s s2 n2 : Nat) (pairN t t2 n2 : Nat) k = (fM (castM l) s t k && fM (castM l2) s2 t2 k) := fun k => by
    unfold fM
    rw [natsM_cast, natsM_cast, natsM_cast]
    exact pair_takes hg.good hg2.good hg2.pos hg.le hg.starts hg2.starts hg.ends hg2.ends k
  refine ⟨h1', h2', ho, fun k hk => ?_, hf, by rw [hlen]; exact h3⟩
  have hd : decide (0 ≤ (k : Int) ∧ (k : Int) ≤ 1000000) = true := decide_eq_true ⟨by omega, by omega⟩
  unfold takesV okAt
  show (okM (castM (pairL l l2)) (pairN s s2 n2 : Nat) (pairN t t2 n2 : Nat) && _ && fM (castM (pairL l l2)) (pairN s s2 n2 : Nat) (pairN t t2 n2 : Nat) k) = _
  rw [ho, h1', h2', hd]
  exact hf k

end Go.Proofs.Ytiphooodijbhiaa
