/-
  The walk of the exact law on MachOf, out of the walks of the program and of the model.
-/
import Derived.Test.YtjaifkpmhcekcabLawHeld
import Derived.Test.YtjaifkpmhcekcabOfI
import Derived.Test.YtjaifkpmhcekcabOfS
namespace Go.Proofs.Ytjaifkpmhcekcab
open Go.RowKit
set_option linter.unusedVariables false

theorem ofIs_len {k : Bool} {f : Nat → Bool} {ok : Bool} {L : List Nat} {t : Nat} (h : OfIs k f ok L t) : L.length ≤ 5 := by
  cases ok
  · obtain ⟨rfl, _⟩ := h.2 rfl
    decide
  · obtain ⟨_, m, q, _, h5, rfl, _⟩ := h.1 rfl
    rw [ofL_length]; exact h5

set_option maxRecDepth 100000 in
set_option maxHeartbeats 4000000 in
theorem lawMachOf (s : ByteArray) (_ : s.size ≤ maxLen) (m0 : Int) (w : World) (hg : 0 < w.heap.size) (hm : w.cell? ⟨0, 0, none⟩ = some (.int .i64 m0)) :
    Calls Try.prog 7 #[.string s] w fun e w' => e = .returned (.bool true) ∧ Below w.heap.size w w' := by
  by_cases hs : s.size ≤ 1048576
  · have HLA : Hid (LibAt m0 w) := Lib.hid ⟨hg, hm⟩
    clear hg hm
    go_enter Try.func7, Try.ntmps7
    go_wp2_with fail
    refine (specOf s _ hs).mono ?_
    rintro e1 w1 ⟨ok, L, t, hU, hM⟩
    have him : ∀ W, LibAt m0 W → Calls Try.prog 24 #[.string s] W (MachAs ok (castM L) L.length ((if ok then 1 else 0 : Nat) : Int) t W) := fun W hW => by
      refine (implOf s m0 W hs hW).mono ?_
      rintro e w' ⟨ok2, L2, t2, hU2, h⟩
      obtain ⟨rfl, rfl, rfl⟩ := ofIs_unique hU hU2
      exact h.as
    obtain ⟨a0, c0, rfl, hown0, hb1⟩ := hM.as
    have hn5 := ofIs_len hU
    obtain ⟨zs, hzs⟩ : ∃ zs, zs = castM L := ⟨_, rfl⟩
    obtain ⟨n, hnn⟩ : ∃ n, n = L.length := ⟨_, rfl⟩
    obtain ⟨E, hE⟩ : ∃ E : Int, E = ((if ok then 1 else 0 : Nat) : Int) := ⟨_, rfl⟩
    rw [← hzs, ← hnn, ← hE] at him
    rw [← hzs, ← hnn] at hown0
    rw [← hnn] at hn5 ⊢
    rw [← hE]
    obtain ⟨T, hT⟩ : ∃ T : Int, T = (t : Int) := ⟨_, rfl⟩
    rw [← hT] at him ⊢
    have HIM := Lib.hid him
    have BX0 := Lib.hid (boxM_start a0 n c0 E T w1 28)
    have R0 := Lib.hid (readsI_own hown0)
    have HB1 := Lib.hid hb1
    clear hU hM him hzs hnn hE hown0 hb1 hT
    have p0 := BX0.out.q0
    have p1 := BX0.out.q1
    have p2 := BX0.out.q2
    go_wp2_with fail
    refine (HIM.out _ ((HLA.out.below HB1.out).alloc _)).mono ?_
    rintro e1 w2 ⟨a1, c1, rfl, hown1, hb2⟩
    have hlt1 : ∀ j, (Value.slice a1 n c1).ownBlock = some j → w1.heap.size < j ∧ j < w2.heap.size := fun j hj => by
      have := hown1.lt j hj
      rw [World.size_alloc] at this
      exact ⟨by omega, this.2⟩
    have HLT := Lib.hid hlt1
    have hal := (Below.refl w2.heap.size w2).alloc (Nat.le_refl _) (.cells #[.slice a1 n c1, .int .i64 E, .int .i64 T] 28)
    have BX3 := Lib.hid ((BX0.out.step hb2).step hal)
    have BY3 := Lib.hid (boxM_start a1 n c1 E T w2 28).only
    have O3 := Lib.hid (own_below hown1 hal (Nat.le_refl _))
    obtain ⟨b1, hb1⟩ : ∃ b1, b1 = (w1.alloc (.cells #[.slice a0 n c0, .int .i64 E, .int .i64 T] 28)).heap.size := ⟨_, rfl⟩
    rw [← hb1] at O3
    clear hlt1 hown1 hb2 hal hb1 p0 p1 p2
    have p0 := BX3.out.q0
    have p1 := BX3.out.q1
    have p2 := BX3.out.q2
    have s0 := BY3.out.q0
    have s1 := BY3.out.q1
    have s2 := BY3.out.q2
    go_wp2_with fail
    refine (eqMachine_same a1 a0 n c1 c0 zs E T _ (readsI_own O3.out) (R0.out.below BX3.out.below (Nat.le_refl _)) (by omega)).mono ?_
    rintro e1 w4 ⟨rfl, hb4⟩
    have BX4 := Lib.hid (BX3.out.step hb4)
    have BY4 := Lib.hid (BY3.out.step hb4)
    have O4 := Lib.hid (own_below O3.out hb4 (Nat.le_refl _))
    clear hb4 p0 p1 p2 s0 s1 s2
    have s0 := BY4.out.q0
    have s1 := BY4.out.q1
    have s2 := BY4.out.q2
    obtain ⟨d, hd⟩ : ∃ d, d = 1 + n := ⟨_, rfl⟩
    have HMK := Lib.hid (markMachine_is b1 a1 n c1 1 E T zs w4 O4.out (by omega) (by omega))
    have HHD : Hid (∀ W, ReadsI W a1 n (marks 1 n) → Calls Try.prog 20 #[.agg #[.slice a1 n c1, .int .i64 E, .int .i64 T], .int .i64 1] W fun e1 w' => e1 = .returned (.int .i64 (d : Int)) ∧ Below W.heap.size W w') := Lib.hid (fun W hW => by rw [hd]; exact heldMachine_is a1 n c1 1 E T W hW (by omega) (by omega))
    rw [← hd] at HMK
    have hdn : ¬ (d : Int) < 0 := by omega
    clear hd
    go_wp2_with fail
    refine HMK.out.mono ?_
    rintro e1 w5 ⟨rfl, hg5, hown5⟩
    have BX5 := Lib.hid (BX4.out.grown hg5 (fun j hj => (HLT.out j hj).1))
    have BY5 := Lib.hid (BY4.out.grown hg5 (fun e => by have := (HLT.out _ e.symm).2; omega))
    have R5 := Lib.hid (readsI_own hown5)
    clear hg5 hown5 s0 s1 s2 HMK
    have s0 := BY5.out.q0
    have s1 := BY5.out.q1
    have s2 := BY5.out.q2
    go_wp2_with fail
    refine (HHD.out _ R5.out).mono ?_
    rintro e1 w6 ⟨rfl, hb6⟩
    have BX6 := Lib.hid (BX5.out.step hb6)
    have BY6 := Lib.hid (BY5.out.step hb6)
    have R6 := Lib.hid (R5.out.below hb6 (Nat.le_refl _))
    clear hb6 s0 s1 s2
    go_wp2_with fail
    refine (HIM.out _ (HLA.out.below (HB1.out.trans (BX6.out.below.mono HB1.out.size)))).mono ?_
    rintro e1 w7 ⟨a2, c2, rfl, hown7, hb7⟩
    have hal := (Below.refl w7.heap.size w7).alloc (Nat.le_refl _) (.cells #[.slice a2 n c2, .int .i64 E, .int .i64 T] 28)
    have BX8 := Lib.hid ((BX6.out.step hb7).step hal)
    have BY8 := Lib.hid ((BY6.out.step hb7).step hal)
    have R8 := Lib.hid ((R6.out.below hb7 (Nat.le_refl _)).below hal (Nat.le_refl _))
    have BZ8 := Lib.hid (boxM_start a2 n c2 E T w7 28).only
    have O8 := Lib.hid (own_below hown7 hal (Nat.le_refl _))
    clear hown7 hb7 hal
    have p0 := BX8.out.q0
    have p1 := BX8.out.q1
    have p2 := BX8.out.q2
    have z0 := BZ8.out.q0
    have z1 := BZ8.out.q1
    have z2 := BZ8.out.q2
    go_wp2_with fail
    refine (eqMachine_same a2 a0 n c2 c0 zs E T _ (readsI_own O8.out) (R0.out.below BX8.out.below (Nat.le_refl _)) (by omega)).mono ?_
    rintro e1 w9 ⟨rfl, hb9⟩
    have BX9 := Lib.hid (BX8.out.step hb9)
    have BY9 := Lib.hid (BY8.out.step hb9)
    have R9 := Lib.hid (R8.out.below hb9 (Nat.le_refl _))
    clear hb9 p0 p1 p2 z0 z1 z2
    have s0 := BY9.out.q0
    have s1 := BY9.out.q1
    have s2 := BY9.out.q2
    go_wp2_with fail
    refine (HHD.out _ R9.out).mono ?_
    rintro e1 w10 ⟨rfl, hb10⟩
    have HE := Lib.hid (HB1.out.trans ((BX9.out.step hb10).below.mono HB1.out.size))
    clear hb10
    go_wp2
    go_ret
    exact ⟨rfl, HE.out⟩
  · have hd : (1048576 : Int) < (s.size : Int) := by omega
    go_enter Try.func7, Try.ntmps7
    go_wp2
    go_ret
    exact ⟨rfl, Below.refl _ _⟩

end Go.Proofs.Ytjaifkpmhcekcab
