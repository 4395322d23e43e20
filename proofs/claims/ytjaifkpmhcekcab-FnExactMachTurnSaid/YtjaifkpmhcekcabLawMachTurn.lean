/-
  The walk of the exact law on MachTurn, out of the walks of the program and of the model.
-/
import Derived.Test.YtjaifkpmhcekcabLawHeld
import Derived.Test.YtjaifkpmhcekcabTurnI
import Derived.Test.YtjaifkpmhcekcabTurnS
import Derived.Deep.DeepCutAuto
import Derived.Deep.CutRange
import Derived.Deep.RegionWith
namespace Go.Proofs.Ytjaifkpmhcekcab
open Go.RowKit
set_option linter.unusedVariables false

theorem own_grown {W w1 : World} {base size n : Nat} {e : TypeId} {v : Value} {xs : List Value} {r : Option Nat} (h : W.ownsRow base e size v n xs) (hg : W.grownBy w1 r) (hne : ∀ j, v.ownBlock = some j → some j ≠ r) : w1.ownsRow base e size v n xs := by
  have hl := h.lt
  obtain ⟨h1, h2⟩ := h
  refine ⟨h1, ?_⟩
  rcases h2 with h2 | ⟨g, cap, cur, hv, hb, hh, hr⟩
  · exact .inl h2
  · have hj : v.ownBlock = some g := by rw [hv]; rfl
    exact .inr ⟨g, cap, cur, hv, hb, (hg.block g (hl g hj).2 (hne g hj)).trans hh, hr⟩

theorem natsM_length (zs : List Int) : (natsM zs).length = zs.length := by simp [natsM]

set_option maxRecDepth 100000 in
set_option maxHeartbeats 8000000 in
theorem lawMachTurn (w : World) (a : Option Addr) (n c : Nat) (zs : List Int) (b e : Int) (h : ReadsI w a n zs) (hn : n ≤ maxLen) :
    Calls Try.prog 5 #[.agg #[.slice a n c, .int .i64 b, .int .i64 e]] w fun e1 w' => e1 = .returned (.bool true) ∧ Below w.heap.size w w' := by
  have H := Lib.hid h
  have HZ := Lib.hid (fun W => szMachine_top a n c b e W hn)
  have HA0 := Lib.hid (boxM_start a n c b e w 24)
  have q0 := HA0.out.q0
  have q1 := HA0.out.q1
  have q2 := HA0.out.q2
  by_cases hs : n ≤ 1048576
  · obtain ⟨ok, hok⟩ : ∃ ok, ok = okM zs b e := ⟨_, rfl⟩
    obtain ⟨L, hL⟩ : ∃ L, L = (if okM zs b e then turnL (natsM zs) else []) := ⟨_, rfl⟩
    obtain ⟨E, hE⟩ : ∃ E : Int, E = ((if okM zs b e then e.toNat else 0 : Nat) : Int) := ⟨_, rfl⟩
    obtain ⟨T, hT⟩ : ∃ T : Int, T = ((if okM zs b e then b.toNat else 0 : Nat) : Int) := ⟨_, rfl⟩
    have hN : L.length ≤ 1048576 := by
      rw [hL]
      split
      · rw [turnL_length, natsM_length, h.len]; exact hs
      · exact Nat.zero_le _
    have him : ∀ W a' c', ReadsI W a' n zs → Calls Try.prog 18 #[.agg #[.slice a' n c', .int .i64 b, .int .i64 e]] W (MachAs ok (castM L) L.length E T W) := fun W a' c' hW => by
      rw [hok, hL, hE, hT]
      exact (implTurn a' n c' zs b e W hW hs).mono fun _ _ h => h.as
    have hsp : ∀ W a' c', ReadsI W a' n zs → Calls Try.prog 17 #[.agg #[.slice a' n c', .int .i64 b, .int .i64 e]] W (MachAs ok (castM L) L.length E T W) := fun W a' c' hW => by
      rw [hok, hL, hE, hT]
      exact (specTurn a' n c' zs b e W hW hs).mono fun _ _ h => h.as
    clear hok hL hE hT
    obtain ⟨us, hus⟩ : ∃ us, us = castM L := ⟨_, rfl⟩
    obtain ⟨N, hNN⟩ : ∃ N, N = L.length := ⟨_, rfl⟩
    rw [← hus, ← hNN] at him hsp
    rw [← hNN] at hN
    have HIM := Lib.hid him
    have HSP := Lib.hid hsp
    clear him hsp hus hNN h
    simp only [if_pos hs] at HZ
    have hd0 : ¬ ((1048576 - n : Nat) : Int) < 0 := by omega
    obtain ⟨d0, hd⟩ : ∃ d, d = 1048576 - n := ⟨_, rfl⟩
    rw [← hd] at HZ hd0
    clear hd
    go_enter Try.func5, Try.ntmps5
    go_wp2_with fail
    refine (HZ.out _).mono ?_
    rintro e1 w1 ⟨rfl, hb1⟩
    have HA1 := Lib.hid (HA0.out.step hb1)
    clear hb1 HZ q0 q1 q2
    have q0 := HA1.out.q0
    have q1 := HA1.out.q1
    have q2 := HA1.out.q2
    go_wp2_with fail
    refine (toMachine_is a n c zs b e _ (H.out.below HA1.out.below (Nat.le_refl _)) hs).mono ?_
    rintro e1 w2 ⟨G, rfl, hb2, hown2⟩
    have HA2 := Lib.hid (HA1.out.step hb2)
    have HO2 := Lib.hid (readsI_own hown2)
    clear hb2 hown2 q0 q1 q2
    go_wp2_with fail
    refine (HSP.out _ _ _ HO2.out).mono ?_
    rintro e1 w3 ⟨a0, c0, rfl, hown3, hb3⟩
    have hal := (Below.refl w3.heap.size w3).alloc (Nat.le_refl _) (.cells #[.slice a0 N c0, .int .i64 E, .int .i64 T] 28)
    have R0 := Lib.hid (readsI_own hown3)
    have HA3 := Lib.hid ((HA2.out.step hb3).step hal)
    have BX3 := Lib.hid (boxM_start a0 N c0 E T w3 28)
    clear hown3 hb3 hal
    have q0 := HA3.out.q0
    have q1 := HA3.out.q1
    have q2 := HA3.out.q2
    go_wp2_with fail
    refine (toMachine_is a n c zs b e _ (H.out.below HA3.out.below (Nat.le_refl _)) hs).mono ?_
    rintro e1 w4 ⟨G4, rfl, hb4, hown4⟩
    have hal := (Below.refl w4.heap.size w4).alloc (Nat.le_refl _) (.cells #[.slice (some ⟨G4, 0, none⟩) n n, .int .i64 b, .int .i64 e] 28)
    have hG4 := hown4.lt G4 rfl
    rw [World.size_alloc] at hG4
    have HG4 : Hid (w3.heap.size < G4 ∧ G4 < w4.heap.size) := Lib.hid ⟨by omega, hG4.2⟩
    have HA5 := Lib.hid ((HA3.out.step hb4).step hal)
    have BX5 := Lib.hid ((BX3.out.step hb4).step hal)
    have X5 := Lib.hid (own_below hown4 hal (Nat.le_refl _))
    have BW5 := Lib.hid (boxM_start (some ⟨G4, 0, none⟩) n n b e w4 28).only
    obtain ⟨bb, hbb⟩ : ∃ bb, bb = (w3.alloc (.cells #[.slice a0 N c0, .int .i64 E, .int .i64 T] 28)).heap.size := ⟨_, rfl⟩
    rw [← hbb] at X5
    clear hb4 hown4 hal hG4 hbb q0 q1 q2
    have q0 := BW5.out.q0
    have q1 := BW5.out.q1
    have q2 := BW5.out.q2
    go_wp2_with fail
    refine (HIM.out _ _ _ (readsI_own X5.out)).mono ?_
    rintro e1 w6 ⟨a1, c1, rfl, hown6, hb6⟩
    have hlt1 : ∀ j, (Value.slice a1 N c1).ownBlock = some j → w4.heap.size < j ∧ j < w6.heap.size := fun j hj => by
      have := hown6.lt j hj
      rw [World.size_alloc] at this
      exact ⟨by omega, this.2⟩
    have HLT := Lib.hid hlt1
    have HW6 : w4.heap.size < w6.heap.size := by have h1 := hb6.size; rw [World.size_alloc] at h1; omega
    have hal := (Below.refl w6.heap.size w6).alloc (Nat.le_refl _) (.cells #[.slice a1 N c1, .int .i64 E, .int .i64 T] 28)
    have HA7 := Lib.hid ((HA5.out.step hb6).step hal)
    have BX7 := Lib.hid ((BX5.out.step hb6).step hal)
    have BW7 := Lib.hid ((BW5.out.step hb6).step hal)
    have X7 := Lib.hid (own_below (own_below X5.out hb6 (Nat.le_refl _)) hal (Nat.le_refl _))
    have BY7 := Lib.hid (boxM_start a1 N c1 E T w6 28).only
    have O7 := Lib.hid (own_below hown6 hal (Nat.le_refl _))
    obtain ⟨b1, hb1⟩ : ∃ b1, b1 = (w4.alloc (.cells #[.slice (some ⟨G4, 0, none⟩) n n, .int .i64 b, .int .i64 e] 28)).heap.size := ⟨_, rfl⟩
    rw [← hb1] at O7
    clear hlt1 hown6 hb6 hal hb1 q0 q1 q2
    have p0 := BX7.out.q0
    have p1 := BX7.out.q1
    have p2 := BX7.out.q2
    have s0 := BY7.out.q0
    have s1 := BY7.out.q1
    have s2 := BY7.out.q2
    go_wp2_with fail
    refine (eqMachine_same a1 a0 N c1 c0 us E T _ (readsI_own O7.out) (R0.out.below BX7.out.below (Nat.le_refl _)) hN).mono ?_
    rintro e1 w8 ⟨rfl, hb8⟩
    have HA8 := Lib.hid (HA7.out.step hb8)
    have BX8 := Lib.hid (BX7.out.step hb8)
    have BW8 := Lib.hid (BW7.out.step hb8)
    have BY8 := Lib.hid (BY7.out.step hb8)
    have X8 := Lib.hid (own_below X7.out hb8 (Nat.le_refl _))
    have O8 := Lib.hid (own_below O7.out hb8 (Nat.le_refl _))
    clear hb8 p0 p1 p2 s0 s1 s2
    have q0 := HA8.out.q0
    have q1 := HA8.out.q1
    have q2 := HA8.out.q2
    have p0 := BW8.out.q0
    have p1 := BW8.out.q1
    have p2 := BW8.out.q2
    have HTM := Lib.hid (toMach_later a n c zs b e w8 (H.out.below HA8.out.below (Nat.le_refl _)) hs)
    have RX8 := Lib.hid (readsI_own X8.out)
    go_upto_region 10 with fail
    go_cut [45] (fun u wr => u = .bool false ∧ Below w8.heap.size w8 wr)
    case first =>
      go_region_with (first
        | (go_at_call 12; (with_reducible refine (HTM.out _ ?_).mono ?_); exact (Below.refl _ _).drew; rintro e1 w9 ⟨G9, rfl, hb9, hr9⟩; have HR9 := Lib.hid hr9; have HRX := Lib.hid (RX8.out.below hb9 (Nat.le_refl _)); have HB9 := Lib.hid hb9; have BW9 := Lib.hid (BW8.out.step hb9); have t0 := BW9.out.q0; have t1 := BW9.out.q1; have t2 := BW9.out.q2; clear hb9 hr9)
        | (go_at_call 14; (with_reducible refine (eqMachine_same _ _ n n n zs b e _ HRX.out HR9.out hs).mono ?_); rintro e1 w10 ⟨rfl, hb10⟩; have HB10 := Lib.hid (HB9.out.trans (hb10.mono HB9.out.size)); clear hb10))
      all_goals
        go_wp2_with fail
        go_meet
        exact ⟨rfl, HB10.out⟩
    case rest =>
    obtain ⟨rfl, hb9⟩ := hcut
    have HA9 := Lib.hid (HA8.out.step hb9)
    have BX9 := Lib.hid (BX8.out.step hb9)
    have BW9 := Lib.hid (BW8.out.step hb9)
    have BY9 := Lib.hid (BY8.out.step hb9)
    have X9 := Lib.hid (own_below X8.out hb9 (Nat.le_refl _))
    have O9 := Lib.hid (own_below O8.out hb9 (Nat.le_refl _))
    clear hb9 p0 p1 p2 q0 q1 q2 RX8 HTM
    have p0 := BW9.out.q0
    have p1 := BW9.out.q1
    have p2 := BW9.out.q2
    obtain ⟨dx, hdx⟩ : ∃ d, d = 1 + n := ⟨_, rfl⟩
    have HMX := Lib.hid (markMachine_is bb (some ⟨G4, 0, none⟩) n n 1 b e zs wc X9.out hs (by omega))
    rw [← hdx] at HMX
    have hdxn : ¬ (dx : Int) < 0 := by omega
    clear hdx
    go_wp2_with fail
    refine HMX.out.mono ?_
    rintro e1 w10 ⟨rfl, hg10, hown10⟩
    have HA10 := Lib.hid (HA9.out.grown hg10 (fun j hj => by have h1 := HG4.out; have h2 := HA3.out.lt; have hj : some G4 = some j := hj; injection hj with hj; rw [World.size_alloc] at h2; omega))
    have BX10 := Lib.hid (BX9.out.grown hg10 (fun j hj => by have h1 := HG4.out; have hj : some G4 = some j := hj; injection hj with hj; omega))
    have BY10 := Lib.hid (BY9.out.grown hg10 (fun hj => by have h1 := HG4.out; have h2 := HW6; have hj : some w6.heap.size = some G4 := hj; injection hj with hj; omega))
    have O10 := Lib.hid (own_grown O9.out hg10 (fun j hj he => by have h1 := HG4.out; have h2 := (HLT.out j hj).1; have he : some j = some G4 := he; injection he with he; omega))
    clear hg10 hown10 p0 p1 p2 HMX
    have p0 := BX10.out.q0
    have p1 := BX10.out.q1
    have p2 := BX10.out.q2
    have s0 := BY10.out.q0
    have s1 := BY10.out.q1
    have s2 := BY10.out.q2
    go_wp2_with fail
    refine (eqMachine_same a1 a0 N c1 c0 us E T _ (readsI_own O10.out) (R0.out.below BX10.out.below (Nat.le_refl _)) hN).mono ?_
    rintro e1 w11 ⟨rfl, hb11⟩
    have HA11 := Lib.hid (HA10.out.step hb11)
    have BX11 := Lib.hid (BX10.out.step hb11)
    have BY11 := Lib.hid (BY10.out.step hb11)
    have O11 := Lib.hid (own_below O10.out hb11 (Nat.le_refl _))
    clear hb11 p0 p1 p2 s0 s1 s2
    have s0 := BY11.out.q0
    have s1 := BY11.out.q1
    have s2 := BY11.out.q2
    obtain ⟨d, hd⟩ : ∃ d, d = 1 + N := ⟨_, rfl⟩
    have HMK := Lib.hid (markMachine_is b1 a1 N c1 1 E T us w11 O11.out hN (by omega))
    have HHD : Hid (∀ W, ReadsI W a1 N (marks 1 N) → Calls Try.prog 20 #[.agg #[.slice a1 N c1, .int .i64 E, .int .i64 T], .int .i64 1] W fun e1 w' => e1 = .returned (.int .i64 (d : Int)) ∧ Below W.heap.size W w') := Lib.hid (fun W hW => by rw [hd]; exact heldMachine_is a1 N c1 1 E T W hW hN (by omega))
    rw [← hd] at HMK
    have hdn : ¬ (d : Int) < 0 := by omega
    clear hd
    go_wp2_with fail
    refine HMK.out.mono ?_
    rintro e1 w12 ⟨rfl, hg12, hown12⟩
    have HA12 := Lib.hid (HA11.out.grown hg12 (fun j hj => by have h1 := (HLT.out j hj).1; have h2 := HA5.out.lt; rw [World.size_alloc] at h2; omega))
    have BX12 := Lib.hid (BX11.out.grown hg12 (fun j hj => by have h1 := (HLT.out j hj).1; have h3 := HG4.out; omega))
    have BY12 := Lib.hid (BY11.out.grown hg12 (fun hj => by have := (HLT.out _ hj.symm).2; omega))
    have R12 := Lib.hid (readsI_own hown12)
    clear hg12 hown12 s0 s1 s2 HMK
    have s0 := BY12.out.q0
    have s1 := BY12.out.q1
    have s2 := BY12.out.q2
    go_wp2_with fail
    refine (HHD.out _ R12.out).mono ?_
    rintro e1 w13 ⟨rfl, hb13⟩
    have HA13 := Lib.hid (HA12.out.step hb13)
    have BX13 := Lib.hid (BX12.out.step hb13)
    have BY13 := Lib.hid (BY12.out.step hb13)
    have R13 := Lib.hid (R12.out.below hb13 (Nat.le_refl _))
    clear hb13 s0 s1 s2
    have q0 := HA13.out.q0
    have q1 := HA13.out.q1
    have q2 := HA13.out.q2
    go_wp2_with fail
    refine (toMachine_is a n c zs b e _ (H.out.below HA13.out.below (Nat.le_refl _)) hs).mono ?_
    rintro e1 w14 ⟨G14, rfl, hb14, hown14⟩
    have HA14 := Lib.hid (HA13.out.step hb14)
    have BX14 := Lib.hid (BX13.out.step hb14)
    have BY14 := Lib.hid (BY13.out.step hb14)
    have R14 := Lib.hid (R13.out.below hb14 (Nat.le_refl _))
    have RH14 := Lib.hid (readsI_own hown14)
    clear hb14 hown14 q0 q1 q2
    go_wp2_with fail
    refine (HIM.out _ _ _ RH14.out).mono ?_
    rintro e1 w15 ⟨a2, c2, rfl, hown15, hb15⟩
    have hal := (Below.refl w15.heap.size w15).alloc (Nat.le_refl _) (.cells #[.slice a2 N c2, .int .i64 E, .int .i64 T] 28)
    have HA16 := Lib.hid ((HA14.out.step hb15).step hal)
    have BX16 := Lib.hid ((BX14.out.step hb15).step hal)
    have BY16 := Lib.hid ((BY14.out.step hb15).step hal)
    have R16 := Lib.hid ((R14.out.below hb15 (Nat.le_refl _)).below hal (Nat.le_refl _))
    have BZ16 := Lib.hid (boxM_start a2 N c2 E T w15 28).only
    have O16 := Lib.hid (own_below hown15 hal (Nat.le_refl _))
    clear hown15 hb15 hal
    have p0 := BX16.out.q0
    have p1 := BX16.out.q1
    have p2 := BX16.out.q2
    have z0 := BZ16.out.q0
    have z1 := BZ16.out.q1
    have z2 := BZ16.out.q2
    go_wp2_with fail
    refine (eqMachine_same a2 a0 N c2 c0 us E T _ (readsI_own O16.out) (R0.out.below BX16.out.below (Nat.le_refl _)) hN).mono ?_
    rintro e1 w17 ⟨rfl, hb17⟩
    have HA17 := Lib.hid (HA16.out.step hb17)
    have BY17 := Lib.hid (BY16.out.step hb17)
    have R17 := Lib.hid (R16.out.below hb17 (Nat.le_refl _))
    clear hb17 p0 p1 p2 z0 z1 z2
    have s0 := BY17.out.q0
    have s1 := BY17.out.q1
    have s2 := BY17.out.q2
    go_wp2_with fail
    refine (HHD.out _ R17.out).mono ?_
    rintro e1 w18 ⟨rfl, hb18⟩
    have HE := Lib.hid (HA17.out.step hb18).below
    clear hb18
    go_wp2
    go_ret
    exact ⟨rfl, HE.out⟩
  · simp only [if_neg hs] at HZ
    clear h
    go_enter Try.func5, Try.ntmps5
    go_wp2_with fail
    refine (HZ.out _).mono ?_
    rintro e1 w1 ⟨rfl, hb1⟩
    have HB1 := Lib.hid (HA0.out.step hb1)
    clear hb1 HZ
    go_wp2
    go_ret
    exact ⟨rfl, HB1.out.below⟩

end Go.Proofs.Ytjaifkpmhcekcab
