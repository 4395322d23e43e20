/-
  The walk of the exact law on MachBoth, out of the walks of the program and of the model.
-/
import Derived.Test.YtiphooodijbhiabLawHeld
import Derived.Test.YtiphooodijbhiabBothMI
import Derived.Test.YtiphooodijbhiabBothMS
import Derived.Deep.DeepCutAuto
import Derived.Deep.CutRange
import Derived.Deep.RegionWith
namespace Go.Proofs.Ytiphooodijbhiab
open Go.RowKit
set_option linter.unusedVariables false

theorem own_grown {W w1 : World} {base size n : Nat} {e : TypeId} {v : Value} {xs : List Value} {r : Option Nat} (h : W.ownsRow base e size v n xs) (hg : W.grownBy w1 r) (hne : ∀ j, v.ownBlock = some j → some j ≠ r) : w1.ownsRow base e size v n xs := by
  have hl := h.lt
  obtain ⟨h1, h2⟩ := h
  refine ⟨h1, ?_⟩
  rcases h2 with h2 | ⟨g, cap, cur, hv, hb, hh, hr⟩
  · exact .inl h2
  · have hj : v.ownBlock = some g := by rw [hv]; rfl
    exact .inr ⟨g, cap, cur, hv, hb, (hg.block g (hl g hj).2 (hne g hj)).trans hh, hr⟩
/-- A machine's box and its row, both of them below a world. -/
structure BoxR (a : Option Addr) (n c : Nat) (b e : Int) (zs : List Int) (S : Nat) (w0 wr : World) : Prop where
  q0 : wr.cell? ⟨S, 0, none⟩ = some (.slice a n c)
  q1 : wr.cell? ⟨S, 1, none⟩ = some (.int .i64 b)
  q2 : wr.cell? ⟨S, 2, none⟩ = some (.int .i64 e)
  lt : S < w0.heap.size
  below : Below w0.heap.size w0 wr
  reads0 : ReadsI w0 a n zs
theorem BoxR.reads {a : Option Addr} {n c S : Nat} {b e : Int} {zs : List Int} {w0 wr : World} (h : BoxR a n c b e zs S w0 wr) : ReadsI wr a n zs := h.reads0.below h.below (Nat.le_refl _)
theorem BoxR.step {a : Option Addr} {n c S : Nat} {b e : Int} {zs : List Int} {w0 wr w1 : World} (h : BoxR a n c b e zs S w0 wr) (hb : Below wr.heap.size wr w1) : BoxR a n c b e zs S w0 w1 := by
  have hl : S < wr.heap.size := Nat.lt_of_lt_of_le h.lt h.below.size
  exact ⟨(hb.cell (p := ⟨S, 0, none⟩) hl).trans h.q0, (hb.cell (p := ⟨S, 1, none⟩) hl).trans h.q1, (hb.cell (p := ⟨S, 2, none⟩) hl).trans h.q2, h.lt, h.below.trans (hb.mono h.below.size), h.reads0⟩
theorem BoxR.grown {a : Option Addr} {n c S : Nat} {b e : Int} {zs : List Int} {w0 wr w1 : World} {r : Option Nat} (h : BoxR a n c b e zs S w0 wr) (hg : wr.grownBy w1 r) (hr : ∀ j, r = some j → w0.heap.size ≤ j) : BoxR a n c b e zs S w0 w1 := by
  have hs : some S ≠ r := fun e => by have h1 := hr S e.symm; have h2 := h.lt; omega
  exact ⟨hg.cell h.q0 hs, hg.cell h.q1 hs, hg.cell h.q2 hs, h.lt, h.below.grown hg h.below.size hr, h.reads0⟩
theorem boxR_new {a : Option Addr} {n c : Nat} {b e : Int} {zs : List Int} {W : World} (h : ReadsI W a n zs) : BoxR a n c b e zs W.heap.size (W.alloc (.cells #[.slice a n c, .int .i64 b, .int .i64 e] 50)) (W.alloc (.cells #[.slice a n c, .int .i64 b, .int .i64 e] 50)) :=
  have hb := boxM_start a n c b e W 50
  ⟨hb.q0, hb.q1, hb.q2, hb.lt, Below.refl _ _, h.alloc _⟩
theorem boxR_three {a : Option Addr} {n c S B : Nat} {b e : Int} {zs : List Int} {W : World} (h : ResM (.slice none 0 0) (.int .i64 0) (.int .i64 0) S W) (ho : W.ownsRow B 3 1 (.slice a n c) n (ints zs)) (hB : S < B) :
    BoxR a n c b e zs S (((W.setCell ⟨S, 0, none⟩ (.slice a n c)).setCell ⟨S, 1, none⟩ (.int .i64 b)).setCell ⟨S, 2, none⟩ (.int .i64 e)) (((W.setCell ⟨S, 0, none⟩ (.slice a n c)).setCell ⟨S, 1, none⟩ (.int .i64 b)).setCell ⟨S, 2, none⟩ (.int .i64 e)) := by
  have hs := h.stored (.slice a n c) (.int .i64 b) (.int .i64 e)
  obtain ⟨q0, q1, q2, _⟩ := hs.cells
  exact ⟨q0, q1, q2, lt_of_block hs, Below.refl _ _, readsI_own (own_three (R := S) ho hB _ _ _)⟩
theorem pair_few (zs : List Int) (b e : Int) (ys : List Int) (d f : Int) : (if okBoth zs b e ys d f then pairL (natsM zs) (natsM ys) else []).length ≤ 1048576 := by
  split
  · rename_i h
    unfold okBoth at h
    simp only [Bool.and_eq_true, decide_eq_true_eq] at h
    unfold pairL
    rw [pairT_length]
    have h1 : (natsM zs).length = zs.length := by simp [natsM]
    have h2 : (natsM ys).length = ys.length := by simp [natsM]
    rw [h1, h2]
    omega
  · exact Nat.zero_le _

set_option maxRecDepth 100000 in
set_option maxHeartbeats 16000000 in
theorem lawMachBoth (w : World) (a : Option Addr) (n c : Nat) (zs : List Int) (b e : Int) (h : ReadsI w a n zs) (hn : n ≤ maxLen) (a2 : Option Addr) (n2 c2 : Nat) (ys : List Int) (b2 e2 : Int) (h2 : ReadsI w a2 n2 ys) (hn2 : n2 ≤ maxLen) :
    Calls Try.prog 11 #[.agg #[.slice a n c, .int .i64 b, .int .i64 e], .agg #[.slice a2 n2 c2, .int .i64 b2, .int .i64 e2]] w fun e1 w' => e1 = .returned (.bool true) ∧ Below w.heap.size w w' := by
  have H := Lib.hid h
  have H2 := Lib.hid h2
  have HZ := Lib.hid (fun W => szMachine_top a n c b e W hn)
  have HA0 := Lib.hid ((boxM_start a n c b e w 48).step ((Below.refl _ _).alloc (Nat.le_refl _) (.cells #[.slice a2 n2 c2, .int .i64 b2, .int .i64 e2] 48)))
  have hby := (boxM_start a2 n2 c2 b2 e2 (w.alloc (.cells #[.slice a n c, .int .i64 b, .int .i64 e] 48)) 48).only
  rw [World.size_alloc] at hby
  have HB0 := Lib.hid hby
  clear hby
  have q0 := HA0.out.q0
  have q1 := HA0.out.q1
  have q2 := HA0.out.q2
  by_cases hs : n ≤ 1048576
  · simp only [if_pos hs] at HZ
    have hd0 : ¬ ((1048576 - n : Nat) : Int) < 0 := by omega
    obtain ⟨d0, hd⟩ : ∃ d, d = 1048576 - n := ⟨_, rfl⟩
    have hle : d0 ≤ 1048576 := by omega
    rw [← hd] at HZ hd0
    have HZ2 := Lib.hid (fun W => szMachine_is a2 n2 c2 d0 b2 e2 W hle hn2)
    by_cases hs2 : n2 ≤ d0
    · skip
      have hsb : n2 ≤ 1048576 := by omega
      have hsum : n + n2 ≤ 1048576 := by omega
      simp only [if_pos hs2] at HZ2
      have hd1 : ¬ ((d0 - n2 : Nat) : Int) < 0 := by omega
      obtain ⟨d1, hdd⟩ : ∃ d, d = d0 - n2 := ⟨_, rfl⟩
      rw [← hdd] at HZ2 hd1
      clear hd hdd hle
      obtain ⟨ok, hok⟩ : ∃ ok, ok = okBoth zs b e ys b2 e2 := ⟨_, rfl⟩
      obtain ⟨L, hL⟩ : ∃ L, L = (if okBoth zs b e ys b2 e2 then pairL (natsM zs) (natsM ys) else []) := ⟨_, rfl⟩
      obtain ⟨E, hE⟩ : ∃ E : Int, E = ((if okBoth zs b e ys b2 e2 then pairN b.toNat b2.toNat n2 else 0 : Nat) : Int) := ⟨_, rfl⟩
      obtain ⟨T, hT⟩ : ∃ T : Int, T = ((if okBoth zs b e ys b2 e2 then pairN e.toNat e2.toNat n2 else 0 : Nat) : Int) := ⟨_, rfl⟩
      have hN : L.length ≤ 1048576 := by rw [hL]; exact pair_few zs b e ys b2 e2
      have him : ∀ W a' c' a2' c2', ReadsI W a' n zs → ReadsI W a2' n2 ys → Calls Try.prog 48 #[.agg #[.slice a' n c', .int .i64 b, .int .i64 e], .agg #[.slice a2' n2 c2', .int .i64 b2, .int .i64 e2]] W (MachAs ok (castM L) L.length E T W) := fun W a' c' a2' c2' hW hW2 => by
        rw [hok, hL, hE, hT]
        exact (implBoth a' n c' zs b e a2' n2 c2' ys b2 e2 W hW hW2 hs hsb).mono fun _ _ h => h.as
      have hsp : ∀ W a' c' a2' c2', ReadsI W a' n zs → ReadsI W a2' n2 ys → Calls Try.prog 46 #[.agg #[.slice a' n c', .int .i64 b, .int .i64 e], .agg #[.slice a2' n2 c2', .int .i64 b2, .int .i64 e2]] W (MachAs ok (castM L) L.length E T W) := fun W a' c' a2' c2' hW hW2 => by
        rw [hok, hL, hE, hT]
        exact (specBoth a' n c' zs b e a2' n2 c2' ys b2 e2 W hW hW2 hs hsb).mono fun _ _ h => h.as
      clear hok hL hE hT
      obtain ⟨us, hus⟩ : ∃ us, us = castM L := ⟨_, rfl⟩
      obtain ⟨N, hNN⟩ : ∃ N, N = L.length := ⟨_, rfl⟩
      rw [← hus, ← hNN] at him hsp
      rw [← hNN] at hN
      have HIM := Lib.hid him
      have HSP := Lib.hid hsp
      clear him hsp hus hNN h h2
      go_enter Try.func11, Try.ntmps11
      go_wp2_with fail
      refine (HZ.out _).mono ?_
      rintro e1 w1 ⟨rfl, hx⟩
      have HA1 := Lib.hid (HA0.out.step hx)
      have HB1 := Lib.hid (HB0.out.step hx)
      clear hx HZ q0 q1 q2
      have q0 := HB1.out.q0
      have q1 := HB1.out.q1
      have q2 := HB1.out.q2
      go_wp2_with fail
      refine (HZ2.out _).mono ?_
      rintro e1 w2 ⟨rfl, hx⟩
      have HA2 := Lib.hid (HA1.out.step hx)
      have HB2 := Lib.hid (HB1.out.step hx)
      clear hx HZ2 q0 q1 q2
      have q0 := HA2.out.q0
      have q1 := HA2.out.q1
      have q2 := HA2.out.q2
      have r0 := HB2.out.q0
      have r1 := HB2.out.q1
      have r2 := HB2.out.q2
      have HTA := Lib.hid (toMach_later a n c zs b e w2 (H.out.below HA2.out.below (Nat.le_refl _)) hs)
      have HTZ := Lib.hid (toMach_later a n c zs b e (w2.alloc (.cells #[.slice none 0 0, .int .i64 0, .int .i64 0] 50)) ((H.out.below HA2.out.below (Nat.le_refl _)).alloc _) hs)
      have HTB := Lib.hid (fun (W : World) (hW : Below w2.heap.size w2 W) => toMach_later a2 n2 c2 ys b2 e2 W (H2.out.below (HA2.out.below.trans (hW.mono (Nat.le_of_lt HA2.out.lt))) (Nat.le_refl _)) hsb W (Below.refl _ _))
      have HAZ := Lib.hid (HA2.out.step ((Below.refl _ _).alloc (Nat.le_refl _) (.cells #[.slice none 0 0, .int .i64 0, .int .i64 0] 50)))
      have HBZ := Lib.hid (HB2.out.step ((Below.refl _ _).alloc (Nat.le_refl _) (.cells #[.slice none 0 0, .int .i64 0, .int .i64 0] 50)))
      have hAl := HA2.out.lt
      have hBl := HB2.out.lt
      go_upto_region 8 with fail
      go_cut [6, 7] (fun u v wr => ∃ (ax : Option Addr) (cx sx : Nat), u = .pointer (some ⟨sx, 0, none⟩) ∧ v = .bool ok ∧ BoxR ax N cx E T us sx wr wr ∧ Below w2.heap.size w2 wr)
      case first =>
        have x0 := HAZ.out.q0
        have x1 := HAZ.out.q1
        have x2 := HAZ.out.q2
        have y0 := HBZ.out.q0
        have y1 := HBZ.out.q1
        have y2 := HBZ.out.q2
        go_region_with (first
              | (go_at_call 47; (with_reducible refine (HTA.out _ ?_).mono ?_); exact (Below.refl _ _).drew; rintro e1 wA ⟨GA, rfl, hbA, hrA⟩; have HBA := Lib.hid hbA; have HRA := Lib.hid hrA; have HBX := Lib.hid (HB2.out.step hbA); have v0 := HBX.out.q0; have v1 := HBX.out.q1; have v2 := HBX.out.q2; have hBA := HBX.out.lt; have HBXZ := Lib.hid (HBX.out.step ((Below.refl _ _).alloc (Nat.le_refl _) (.cells #[.slice none 0 0, .int .i64 0, .int .i64 0] 50))); have vz0 := HBXZ.out.q0; have vz1 := HBXZ.out.q1; have vz2 := HBXZ.out.q2; clear hbA hrA)
              | (go_at_call 47; (with_reducible refine (HTZ.out _ ?_).mono ?_); exact (Below.refl _ _).drew; rintro e1 wA ⟨GA, rfl, hbA, hrA⟩; have HBA : Hid (Below w2.heap.size w2 wA) := Lib.hid (boxed hbA); have HR1 : Hid (ResM (.slice none 0 0) (.int .i64 0) (.int .i64 0) w2.heap.size wA) := Lib.hid ((hbA.block w2.heap.size (by simp)).trans (resM_start w2)); have HRA := Lib.hid hrA; have HBX := Lib.hid (HB2.out.step HBA.out); have v0 := HBX.out.q0; have v1 := HBX.out.q1; have v2 := HBX.out.q2; have hBA := HBX.out.lt; have HBXZ := Lib.hid (HBX.out.step ((Below.refl _ _).alloc (Nat.le_refl _) (.cells #[.slice none 0 0, .int .i64 0, .int .i64 0] 50))); have vz0 := HBXZ.out.q0; have vz1 := HBXZ.out.q1; have vz2 := HBXZ.out.q2; clear hbA hrA)
              | (go_at_call 47; (with_reducible refine (HTB.out _ ?_).mono ?_); exact HBA.out; rintro e1 wB ⟨GB, rfl, hbB, hrB⟩; have HRA2 := Lib.hid (HRA.out.below hbB (Nat.le_refl _)); have HRB := Lib.hid hrB; have HBB := Lib.hid (HBA.out.trans (hbB.mono HBA.out.size)); (try have HR2 := Lib.hid (HR1.out.step hbB)); clear hbB hrB)
              | (go_at_call 47; (with_reducible refine (HTB.out _ ?_).mono ?_); exact HBA.out.alloc HBA.out.size _; rintro e1 wB ⟨GB, rfl, hbB, hrB⟩; have HRA2 := Lib.hid ((HRA.out.alloc (.cells #[.slice none 0 0, .int .i64 0, .int .i64 0] 50)).below hbB (Nat.le_refl _)); have HRB := Lib.hid hrB; have HBB := Lib.hid (HBA.out.trans ((boxed hbB).mono HBA.out.size)); have HR2 : Hid (ResM (.slice none 0 0) (.int .i64 0) (.int .i64 0) wA.heap.size wB) := Lib.hid ((hbB.block wA.heap.size (by simp)).trans (resM_start wA)); clear hbB hrB)
              | (go_at_call 46; (with_reducible refine (HSP.out _ _ _ _ _ HRA2.out HRB.out).mono ?_); rintro e1 wD ⟨a0, c0, rfl, hownD, hbD⟩; have HRD := Lib.hid (readsI_own hownD); have HOD := Lib.hid hownD; have HBD := Lib.hid (HBB.out.trans (hbD.mono HBB.out.size)); (try (have HR3 := Lib.hid (HR2.out.step hbD); obtain ⟨f0, f1, f2, f3, f4, f5⟩ := HR3.out.cells)); clear hownD hbD)
              | (go_at_call 46; (with_reducible refine (HSP.out _ _ _ _ _ (HRA2.out.alloc (.cells #[.slice none 0 0, .int .i64 0, .int .i64 0] 50)) (HRB.out.alloc (.cells #[.slice none 0 0, .int .i64 0, .int .i64 0] 50))).mono ?_); rintro e1 wD ⟨a0, c0, rfl, hownD, hbD⟩; have HR3 : Hid (ResM (.slice none 0 0) (.int .i64 0) (.int .i64 0) wB.heap.size wD) := Lib.hid ((hbD.block wB.heap.size (by simp)).trans (resM_start wB)); obtain ⟨f0, f1, f2, f3, f4, f5⟩ := HR3.out.cells; have HOD := Lib.hid hownD; have HBD := Lib.hid ((HBB.out.alloc HBB.out.size _).trans (hbD.mono (HBB.out.alloc HBB.out.size _).size)); clear hownD hbD)
              | fail "no arm")
        all_goals
          go_wp2_with fail
          go_meet
          first
            | exact ⟨a0, c0, wD.heap.size, rfl, rfl, boxR_new HRD.out, HBD.out.alloc HBD.out.size _⟩
            | exact ⟨a0, c0, _, rfl, rfl, boxR_three HR3.out HOD.out (by first | exact lt_of_block HR2.out | (rw [World.size_alloc]; omega)), below_three HBD.out (by first | exact Nat.le_refl _ | exact HBA.out.size | exact HBB.out.size) _ _ _⟩
      case rest =>
      obtain ⟨a0, c0, S3, rfl, rfl, hbx, hb⟩ := hcut
      obtain ⟨w4, hww⟩ : ∃ w', w' = wc := ⟨_, rfl⟩
      subst hww
      have HA4 := Lib.hid (HA2.out.step hb)
      have HB4 := Lib.hid (HB2.out.step hb)
      have BX4 := Lib.hid hbx
      clear hb hbx q0 q1 q2 r0 r1 r2 HTA HTB HTZ HAZ HBZ hAl hBl
      have q0 := HA4.out.q0
      have q1 := HA4.out.q1
      have q2 := HA4.out.q2
      go_wp2_with fail
      refine (toMachine_is a n c zs b e _ (H.out.below HA4.out.below (Nat.le_refl _)) hs).mono ?_
      rintro e1 w5 ⟨G5, rfl, hb5, hown5⟩
      have hal := (Below.refl w5.heap.size w5).alloc (Nat.le_refl _) (.cells #[.slice (some ⟨G5, 0, none⟩) n n, .int .i64 b, .int .i64 e] 50)
      have hG5 := hown5.lt G5 rfl
      have HG5 : Hid (w4.heap.size ≤ G5 ∧ G5 < w5.heap.size ∧ w.heap.size + 1 < G5) := Lib.hid ⟨by omega, hG5.2, by have := HB4.out.lt; omega⟩
      have HA6 := Lib.hid ((HA4.out.step hb5).step hal)
      have HB6 := Lib.hid ((HB4.out.step hb5).step hal)
      have BX6 := Lib.hid ((BX4.out.step hb5).step hal)
      have X6 := Lib.hid (own_below hown5 hal (Nat.le_refl _))
      have BW6 := Lib.hid (boxM_start (some ⟨G5, 0, none⟩) n n b e w5 50).only
      obtain ⟨bb, hbb⟩ : ∃ bb, bb = w4.heap.size := ⟨_, rfl⟩
      rw [← hbb] at X6
      clear hb5 hown5 hal hG5 hbb q0 q1 q2
      have q0 := HB6.out.q0
      have q1 := HB6.out.q1
      have q2 := HB6.out.q2
      go_wp2_with fail
      refine (toMachine_is a2 n2 c2 ys b2 e2 _ (H2.out.below HA6.out.below (Nat.le_refl _)) hsb).mono ?_
      rintro e1 w7 ⟨G7, rfl, hb7, hown7⟩
      have hal := (Below.refl w7.heap.size w7).alloc (Nat.le_refl _) (.cells #[.slice (some ⟨G7, 0, none⟩) n2 n2, .int .i64 b2, .int .i64 e2] 50)
      have hG7 := hown7.lt G7 rfl
      rw [World.size_alloc] at hG7
      have HG7 : Hid (w5.heap.size < G7 ∧ G7 < w7.heap.size) := Lib.hid ⟨by omega, hG7.2⟩
      have HA8 := Lib.hid ((HA6.out.step hb7).step hal)
      have HB8 := Lib.hid ((HB6.out.step hb7).step hal)
      have BX8 := Lib.hid ((BX6.out.step hb7).step hal)
      have BW8 := Lib.hid ((BW6.out.step hb7).step hal)
      have X8 := Lib.hid (own_below (own_below X6.out hb7 (Nat.le_refl _)) hal (Nat.le_refl _))
      have Y8 := Lib.hid (own_below hown7 hal (Nat.le_refl _))
      have BV8 := Lib.hid (boxM_start (some ⟨G7, 0, none⟩) n2 n2 b2 e2 w7 50).only
      obtain ⟨bc, hbc⟩ : ∃ bb, bb = (w5.alloc (.cells #[.slice (some ⟨G5, 0, none⟩) n n, .int .i64 b, .int .i64 e] 50)).heap.size := ⟨_, rfl⟩
      rw [← hbc] at Y8
      clear hb7 hown7 hal hG7 hbc q0 q1 q2
      have q0 := BW8.out.q0
      have q1 := BW8.out.q1
      have q2 := BW8.out.q2
      have r0 := BV8.out.q0
      have r1 := BV8.out.q1
      have r2 := BV8.out.q2
      go_wp2_with fail
      refine (HIM.out _ _ _ _ _ (readsI_own X8.out) (readsI_own Y8.out)).mono ?_
      rintro e1 w9 ⟨a1, c1, rfl, hown9, hb9⟩
      have hlt1 : ∀ j, (Value.slice a1 N c1).ownBlock = some j → w7.heap.size < j ∧ j < w9.heap.size := fun j hj => by
        have := hown9.lt j hj
        rw [World.size_alloc] at this
        exact ⟨by omega, this.2⟩
      have HLT := Lib.hid hlt1
      have HW9 : Hid (w7.heap.size < w9.heap.size) := Lib.hid (by have h1 := hb9.size; rw [World.size_alloc] at h1; omega)
      have hal := (Below.refl w9.heap.size w9).alloc (Nat.le_refl _) (.cells #[.slice a1 N c1, .int .i64 E, .int .i64 T] 50)
      have HA10 := Lib.hid ((HA8.out.step hb9).step hal)
      have HB10 := Lib.hid ((HB8.out.step hb9).step hal)
      have BX10 := Lib.hid ((BX8.out.step hb9).step hal)
      have BW10 := Lib.hid ((BW8.out.step hb9).step hal)
      have BV10 := Lib.hid ((BV8.out.step hb9).step hal)
      have X10 := Lib.hid (own_below (own_below X8.out hb9 (Nat.le_refl _)) hal (Nat.le_refl _))
      have Y10 := Lib.hid (own_below (own_below Y8.out hb9 (Nat.le_refl _)) hal (Nat.le_refl _))
      have BY10 := Lib.hid (boxM_start a1 N c1 E T w9 50).only
      have O10 := Lib.hid (own_below hown9 hal (Nat.le_refl _))
      obtain ⟨b1, hb1⟩ : ∃ b1, b1 = (w7.alloc (.cells #[.slice (some ⟨G7, 0, none⟩) n2 n2, .int .i64 b2, .int .i64 e2] 50)).heap.size := ⟨_, rfl⟩
      rw [← hb1] at O10
      clear hlt1 hown9 hb9 hal hb1 q0 q1 q2 r0 r1 r2
      have p0 := BX10.out.q0
      have p1 := BX10.out.q1
      have p2 := BX10.out.q2
      have s0 := BY10.out.q0
      have s1 := BY10.out.q1
      have s2 := BY10.out.q2
      go_wp2_with fail
      refine (eqMachine_same a1 a0 N c1 c0 us E T _ (readsI_own O10.out) BX10.out.reads hN).mono ?_
      rintro e1 w11 ⟨rfl, hx⟩
      have HA11 := Lib.hid (HA10.out.step hx)
      have HB11 := Lib.hid (HB10.out.step hx)
      have BX11 := Lib.hid (BX10.out.step hx)
      have BW11 := Lib.hid (BW10.out.step hx)
      have BV11 := Lib.hid (BV10.out.step hx)
      have BY11 := Lib.hid (BY10.out.step hx)
      have X11 := Lib.hid (own_below X10.out hx (Nat.le_refl _))
      have Y11 := Lib.hid (own_below Y10.out hx (Nat.le_refl _))
      have O11 := Lib.hid (own_below O10.out hx (Nat.le_refl _))
      clear hx p0 p1 p2 s0 s1 s2
      have q0 := HA11.out.q0
      have q1 := HA11.out.q1
      have q2 := HA11.out.q2
      have p0 := BW11.out.q0
      have p1 := BW11.out.q1
      have p2 := BW11.out.q2
      have HTM := Lib.hid (toMach_later a n c zs b e w11 (H.out.below HA11.out.below (Nat.le_refl _)) hs)
      have RX := Lib.hid (readsI_own X11.out)
      go_upto_region 14 with fail
      go_cut [58] (fun u wr => u = .bool false ∧ Below w11.heap.size w11 wr)
      case first =>
        go_region_with (first
          | (go_at_call 47; (with_reducible refine (HTM.out _ ?_).mono ?_); exact (Below.refl _ _).drew; rintro e1 wA ⟨GA, rfl, hbA, hrA⟩; have HRA := Lib.hid hrA; have HRX := Lib.hid (RX.out.below hbA (Nat.le_refl _)); have HBA := Lib.hid hbA; have BWA := Lib.hid (BW11.out.step hbA); have t0 := BWA.out.q0; have t1 := BWA.out.q1; have t2 := BWA.out.q2; clear hbA hrA)
          | (go_at_call 49; (with_reducible refine (eqMachine_same _ _ n n n zs b e _ HRX.out HRA.out hs).mono ?_); rintro e1 wB ⟨rfl, hbB⟩; have HBB := Lib.hid (HBA.out.trans (hbB.mono HBA.out.size)); clear hbB))
        all_goals
          go_wp2_with fail
          go_meet
          exact ⟨rfl, HBB.out⟩
      case rest =>
      obtain ⟨rfl, hx⟩ := hcut
      obtain ⟨w12, hww⟩ : ∃ w', w' = wc := ⟨_, rfl⟩
      subst hww
      have HA12 := Lib.hid (HA11.out.step hx)
      have HB12 := Lib.hid (HB11.out.step hx)
      have BX12 := Lib.hid (BX11.out.step hx)
      have BW12 := Lib.hid (BW11.out.step hx)
      have BV12 := Lib.hid (BV11.out.step hx)
      have BY12 := Lib.hid (BY11.out.step hx)
      have X12 := Lib.hid (own_below X11.out hx (Nat.le_refl _))
      have Y12 := Lib.hid (own_below Y11.out hx (Nat.le_refl _))
      have O12 := Lib.hid (own_below O11.out hx (Nat.le_refl _))
      clear hx HTM RX p0 p1 p2 q0 q1 q2
      have q0 := HB12.out.q0
      have q1 := HB12.out.q1
      have q2 := HB12.out.q2
      have p0 := BV12.out.q0
      have p1 := BV12.out.q1
      have p2 := BV12.out.q2
      have HTM := Lib.hid (toMach_later a2 n2 c2 ys b2 e2 w12 (H2.out.below HA12.out.below (Nat.le_refl _)) hsb)
      have RX := Lib.hid (readsI_own Y12.out)
      go_upto_region 16 with fail
      go_cut [63] (fun u wr => u = .bool false ∧ Below w12.heap.size w12 wr)
      case first =>
        go_region_with (first
          | (go_at_call 47; (with_reducible refine (HTM.out _ ?_).mono ?_); exact (Below.refl _ _).drew; rintro e1 wA ⟨GA, rfl, hbA, hrA⟩; have HRA := Lib.hid hrA; have HRX := Lib.hid (RX.out.below hbA (Nat.le_refl _)); have HBA := Lib.hid hbA; have BWA := Lib.hid (BV12.out.step hbA); have t0 := BWA.out.q0; have t1 := BWA.out.q1; have t2 := BWA.out.q2; clear hbA hrA)
          | (go_at_call 49; (with_reducible refine (eqMachine_same _ _ n2 n2 n2 ys b2 e2 _ HRX.out HRA.out hsb).mono ?_); rintro e1 wB ⟨rfl, hbB⟩; have HBB := Lib.hid (HBA.out.trans (hbB.mono HBA.out.size)); clear hbB))
        all_goals
          go_wp2_with fail
          go_meet
          exact ⟨rfl, HBB.out⟩
      case rest =>
      obtain ⟨rfl, hx⟩ := hcut
      obtain ⟨w13, hww⟩ : ∃ w', w' = wc := ⟨_, rfl⟩
      subst hww
      have HA13 := Lib.hid (HA12.out.step hx)
      have HB13 := Lib.hid (HB12.out.step hx)
      have BX13 := Lib.hid (BX12.out.step hx)
      have BW13 := Lib.hid (BW12.out.step hx)
      have BV13 := Lib.hid (BV12.out.step hx)
      have BY13 := Lib.hid (BY12.out.step hx)
      have X13 := Lib.hid (own_below X12.out hx (Nat.le_refl _))
      have Y13 := Lib.hid (own_below Y12.out hx (Nat.le_refl _))
      have O13 := Lib.hid (own_below O12.out hx (Nat.le_refl _))
      clear hx HTM RX p0 p1 p2 q0 q1 q2
      have p0 := BW13.out.q0
      have p1 := BW13.out.q1
      have p2 := BW13.out.q2
      obtain ⟨dx, hdx⟩ : ∃ d, d = 1 + n := ⟨_, rfl⟩
      have HMX := Lib.hid (markMachine_is bb (some ⟨G5, 0, none⟩) n n 1 b e zs w13 X13.out hs (by omega))
      rw [← hdx] at HMX
      obtain ⟨dy, hdy⟩ : ∃ d, d = dx + n2 := ⟨_, rfl⟩
      have HMY := Lib.hid (fun W hW => markMachine_is bc (some ⟨G7, 0, none⟩) n2 n2 dx b2 e2 ys W hW hsb (by omega))
      rw [← hdy] at HMY
      have hdyn : ¬ (dy : Int) < 0 := by omega
      clear hdx hdy
      go_wp2_with fail
      refine HMX.out.mono ?_
      rintro e1 w14 ⟨rfl, hg, _⟩
      have HA14 := Lib.hid (HA13.out.grown hg (fun j hj => by have h1 := HG5.out; have hj : some G5 = some j := hj; injection hj with hj; omega))
      have HB14 := Lib.hid (HB13.out.grown hg (fun hj => by have h1 := HG5.out; have hj : some (w.heap.size + 1) = some G5 := hj; injection hj with hj; omega))
      have BX14 := Lib.hid (BX13.out.grown hg (fun j hj => by have h1 := HG5.out; have hj : some G5 = some j := hj; injection hj with hj; omega))
      have BV14 := Lib.hid (BV13.out.grown hg (fun hj => by have h1 := HG5.out; have h2 := HG7.out; have hj : some w7.heap.size = some G5 := hj; injection hj with hj; omega))
      have BY14 := Lib.hid (BY13.out.grown hg (fun hj => by have h1 := HG5.out; have h2 := HG7.out; have h3 := HW9.out; have hj : some w9.heap.size = some G5 := hj; injection hj with hj; omega))
      have Y14 := Lib.hid (own_grown Y13.out hg (fun j hj he => by have h1 := HG5.out; have h2 := HG7.out; have hj : some G7 = some j := hj; have he : some j = some G5 := he; injection he with he; injection hj with hj; omega))
      have O14 := Lib.hid (own_grown O13.out hg (fun j hj he => by have h1 := HG5.out; have h2 := HG7.out; have h3 := (HLT.out j hj).1; have he : some j = some G5 := he; injection he with he; omega))
      clear hg p0 p1 p2 HMX
      have p0 := BV14.out.q0
      have p1 := BV14.out.q1
      have p2 := BV14.out.q2
      go_wp2_with fail
      refine (HMY.out _ Y14.out).mono ?_
      rintro e1 w15 ⟨rfl, hg, _⟩
      have HA15 := Lib.hid (HA14.out.grown hg (fun j hj => by have h1 := HG5.out; have h2 := HG7.out; have hj : some G7 = some j := hj; injection hj with hj; omega))
      have HB15 := Lib.hid (HB14.out.grown hg (fun hj => by have h1 := HG5.out; have h2 := HG7.out; have hj : some (w.heap.size + 1) = some G7 := hj; injection hj with hj; omega))
      have BX15 := Lib.hid (BX14.out.grown hg (fun j hj => by have h1 := HG5.out; have h2 := HG7.out; have hj : some G7 = some j := hj; injection hj with hj; omega))
      have BY15 := Lib.hid (BY14.out.grown hg (fun hj => by have h2 := HG7.out; have h3 := HW9.out; have hj : some w9.heap.size = some G7 := hj; injection hj with hj; omega))
      have O15 := Lib.hid (own_grown O14.out hg (fun j hj he => by have h2 := HG7.out; have h3 := (HLT.out j hj).1; have he : some j = some G7 := he; injection he with he; omega))
      clear hg p0 p1 p2 HMY
      have p0 := BX15.out.q0
      have p1 := BX15.out.q1
      have p2 := BX15.out.q2
      have s0 := BY15.out.q0
      have s1 := BY15.out.q1
      have s2 := BY15.out.q2
      go_wp2_with fail
      refine (eqMachine_same a1 a0 N c1 c0 us E T _ (readsI_own O15.out) BX15.out.reads hN).mono ?_
      rintro e1 w16 ⟨rfl, hx⟩
      have HA16 := Lib.hid (HA15.out.step hx)
      have HB16 := Lib.hid (HB15.out.step hx)
      have BX16 := Lib.hid (BX15.out.step hx)
      have BY16 := Lib.hid (BY15.out.step hx)
      have O16 := Lib.hid (own_below O15.out hx (Nat.le_refl _))
      clear hx p0 p1 p2 s0 s1 s2
      have s0 := BY16.out.q0
      have s1 := BY16.out.q1
      have s2 := BY16.out.q2
      obtain ⟨d, hd⟩ : ∃ d, d = 1 + N := ⟨_, rfl⟩
      have HMK := Lib.hid (markMachine_is b1 a1 N c1 1 E T us w16 O16.out hN (by omega))
      have HHD : Hid (∀ W, ReadsI W a1 N (marks 1 N) → Calls Try.prog 51 #[.agg #[.slice a1 N c1, .int .i64 E, .int .i64 T], .int .i64 1] W fun e1 w' => e1 = .returned (.int .i64 (d : Int)) ∧ Below W.heap.size W w') := Lib.hid (fun W hW => by rw [hd]; exact heldMachine_is a1 N c1 1 E T W hW hN (by omega))
      rw [← hd] at HMK
      have hdn : ¬ (d : Int) < 0 := by omega
      clear hd
      go_wp2_with fail
      refine HMK.out.mono ?_
      rintro e1 w17 ⟨rfl, hg, hown⟩
      have HA17 := Lib.hid (HA16.out.grown hg (fun j hj => by have h1 := (HLT.out j hj).1; have h2 := HG5.out; have h3 := HG7.out; omega))
      have HB17 := Lib.hid (HB16.out.grown hg (fun hj => by have h1 := (HLT.out _ hj.symm).1; have h2 := HG5.out; have h3 := HG7.out; omega))
      have BX17 := Lib.hid (BX16.out.grown hg (fun j hj => by have h1 := (HLT.out j hj).1; have h2 := HG5.out; have h3 := HG7.out; omega))
      have BY17 := Lib.hid (BY16.out.grown hg (fun hj => by have := (HLT.out _ hj.symm).2; omega))
      have R17 := Lib.hid (readsI_own hown)
      clear hg hown s0 s1 s2 HMK
      have s0 := BY17.out.q0
      have s1 := BY17.out.q1
      have s2 := BY17.out.q2
      go_wp2_with fail
      refine (HHD.out _ R17.out).mono ?_
      rintro e1 w18 ⟨rfl, hx⟩
      have HA18 := Lib.hid (HA17.out.step hx)
      have HB18 := Lib.hid (HB17.out.step hx)
      have BX18 := Lib.hid (BX17.out.step hx)
      have BY18 := Lib.hid (BY17.out.step hx)
      have R18 := Lib.hid (R17.out.below hx (Nat.le_refl _))
      clear hx s0 s1 s2
      have q0 := HA18.out.q0
      have q1 := HA18.out.q1
      have q2 := HA18.out.q2
      have r0 := HB18.out.q0
      have r1 := HB18.out.q1
      have r2 := HB18.out.q2
      have HTA := Lib.hid (toMach_later a n c zs b e w18 (H.out.below HA18.out.below (Nat.le_refl _)) hs)
      have HTZ := Lib.hid (toMach_later a n c zs b e (w18.alloc (.cells #[.slice none 0 0, .int .i64 0, .int .i64 0] 50)) ((H.out.below HA18.out.below (Nat.le_refl _)).alloc _) hs)
      have HTB := Lib.hid (fun (W : World) (hW : Below w18.heap.size w18 W) => toMach_later a2 n2 c2 ys b2 e2 W (H2.out.below (HA18.out.below.trans (hW.mono (Nat.le_of_lt HA18.out.lt))) (Nat.le_refl _)) hsb W (Below.refl _ _))
      have HAZ := Lib.hid (HA18.out.step ((Below.refl _ _).alloc (Nat.le_refl _) (.cells #[.slice none 0 0, .int .i64 0, .int .i64 0] 50)))
      have HBZ := Lib.hid (HB18.out.step ((Below.refl _ _).alloc (Nat.le_refl _) (.cells #[.slice none 0 0, .int .i64 0, .int .i64 0] 50)))
      have hAl := HA18.out.lt
      have hBl := HB18.out.lt
      go_upto_region 31 with fail
      go_cut [15, 16] (fun u v wr => ∃ (ax : Option Addr) (cx sx : Nat), u = .pointer (some ⟨sx, 0, none⟩) ∧ v = .bool ok ∧ BoxR ax N cx E T us sx wr wr ∧ Below w18.heap.size w18 wr)
      case first =>
        have x0 := HAZ.out.q0
        have x1 := HAZ.out.q1
        have x2 := HAZ.out.q2
        have y0 := HBZ.out.q0
        have y1 := HBZ.out.q1
        have y2 := HBZ.out.q2
        go_region_with (first
              | (go_at_call 47; (with_reducible refine (HTA.out _ ?_).mono ?_); exact (Below.refl _ _).drew; rintro e1 wA ⟨GA, rfl, hbA, hrA⟩; have HBA := Lib.hid hbA; have HRA := Lib.hid hrA; have HBX := Lib.hid (HB18.out.step hbA); have v0 := HBX.out.q0; have v1 := HBX.out.q1; have v2 := HBX.out.q2; have hBA := HBX.out.lt; have HBXZ := Lib.hid (HBX.out.step ((Below.refl _ _).alloc (Nat.le_refl _) (.cells #[.slice none 0 0, .int .i64 0, .int .i64 0] 50))); have vz0 := HBXZ.out.q0; have vz1 := HBXZ.out.q1; have vz2 := HBXZ.out.q2; clear hbA hrA)
              | (go_at_call 47; (with_reducible refine (HTZ.out _ ?_).mono ?_); exact (Below.refl _ _).drew; rintro e1 wA ⟨GA, rfl, hbA, hrA⟩; have HBA : Hid (Below w18.heap.size w18 wA) := Lib.hid (boxed hbA); have HR1 : Hid (ResM (.slice none 0 0) (.int .i64 0) (.int .i64 0) w18.heap.size wA) := Lib.hid ((hbA.block w18.heap.size (by simp)).trans (resM_start w18)); have HRA := Lib.hid hrA; have HBX := Lib.hid (HB18.out.step HBA.out); have v0 := HBX.out.q0; have v1 := HBX.out.q1; have v2 := HBX.out.q2; have hBA := HBX.out.lt; have HBXZ := Lib.hid (HBX.out.step ((Below.refl _ _).alloc (Nat.le_refl _) (.cells #[.slice none 0 0, .int .i64 0, .int .i64 0] 50))); have vz0 := HBXZ.out.q0; have vz1 := HBXZ.out.q1; have vz2 := HBXZ.out.q2; clear hbA hrA)
              | (go_at_call 47; (with_reducible refine (HTB.out _ ?_).mono ?_); exact HBA.out; rintro e1 wB ⟨GB, rfl, hbB, hrB⟩; have HRA2 := Lib.hid (HRA.out.below hbB (Nat.le_refl _)); have HRB := Lib.hid hrB; have HBB := Lib.hid (HBA.out.trans (hbB.mono HBA.out.size)); (try have HR2 := Lib.hid (HR1.out.step hbB)); clear hbB hrB)
              | (go_at_call 47; (with_reducible refine (HTB.out _ ?_).mono ?_); exact HBA.out.alloc HBA.out.size _; rintro e1 wB ⟨GB, rfl, hbB, hrB⟩; have HRA2 := Lib.hid ((HRA.out.alloc (.cells #[.slice none 0 0, .int .i64 0, .int .i64 0] 50)).below hbB (Nat.le_refl _)); have HRB := Lib.hid hrB; have HBB := Lib.hid (HBA.out.trans ((boxed hbB).mono HBA.out.size)); have HR2 : Hid (ResM (.slice none 0 0) (.int .i64 0) (.int .i64 0) wA.heap.size wB) := Lib.hid ((hbB.block wA.heap.size (by simp)).trans (resM_start wA)); clear hbB hrB)
              | (go_at_call 48; (with_reducible refine (HIM.out _ _ _ _ _ HRA2.out HRB.out).mono ?_); rintro e1 wD ⟨a3, c3, rfl, hownD, hbD⟩; have HRD := Lib.hid (readsI_own hownD); have HOD := Lib.hid hownD; have HBD := Lib.hid (HBB.out.trans (hbD.mono HBB.out.size)); (try (have HR3 := Lib.hid (HR2.out.step hbD); obtain ⟨f0, f1, f2, f3, f4, f5⟩ := HR3.out.cells)); clear hownD hbD)
              | (go_at_call 48; (with_reducible refine (HIM.out _ _ _ _ _ (HRA2.out.alloc (.cells #[.slice none 0 0, .int .i64 0, .int .i64 0] 50)) (HRB.out.alloc (.cells #[.slice none 0 0, .int .i64 0, .int .i64 0] 50))).mono ?_); rintro e1 wD ⟨a3, c3, rfl, hownD, hbD⟩; have HR3 : Hid (ResM (.slice none 0 0) (.int .i64 0) (.int .i64 0) wB.heap.size wD) := Lib.hid ((hbD.block wB.heap.size (by simp)).trans (resM_start wB)); obtain ⟨f0, f1, f2, f3, f4, f5⟩ := HR3.out.cells; have HOD := Lib.hid hownD; have HBD := Lib.hid ((HBB.out.alloc HBB.out.size _).trans (hbD.mono (HBB.out.alloc HBB.out.size _).size)); clear hownD hbD)
              | fail "no arm")
        all_goals
          go_wp2_with fail
          go_meet
          first
            | exact ⟨a3, c3, wD.heap.size, rfl, rfl, boxR_new HRD.out, HBD.out.alloc HBD.out.size _⟩
            | exact ⟨a3, c3, _, rfl, rfl, boxR_three HR3.out HOD.out (by first | exact lt_of_block HR2.out | (rw [World.size_alloc]; omega)), below_three HBD.out (by first | exact Nat.le_refl _ | exact HBA.out.size | exact HBB.out.size) _ _ _⟩
      case rest =>
      obtain ⟨a3, c3, S19, rfl, rfl, hbx, hb⟩ := hcut
      obtain ⟨w20, hww⟩ : ∃ w', w' = wc := ⟨_, rfl⟩
      subst hww
      have HA20 := Lib.hid (HA18.out.step hb)
      have HB20 := Lib.hid (HB18.out.step hb)
      have BX20 := Lib.hid (BX18.out.step hb)
      have BY20 := Lib.hid (BY18.out.step hb)
      have R20 := Lib.hid (R18.out.below hb (Nat.le_refl _))
      have BZ20 := Lib.hid hbx
      clear hb hbx q0 q1 q2 r0 r1 r2 HTA HTB HTZ HAZ HBZ hAl hBl
      have p0 := BX20.out.q0
      have p1 := BX20.out.q1
      have p2 := BX20.out.q2
      have s0 := BZ20.out.q0
      have s1 := BZ20.out.q1
      have s2 := BZ20.out.q2
      go_wp2_with fail
      refine (eqMachine_same a3 a0 N c3 c0 us E T _ BZ20.out.reads BX20.out.reads hN).mono ?_
      rintro e1 w21 ⟨rfl, hx⟩
      have HA21 := Lib.hid (HA20.out.step hx)
      have BY21 := Lib.hid (BY20.out.step hx)
      have R21 := Lib.hid (R20.out.below hx (Nat.le_refl _))
      clear hx p0 p1 p2 s0 s1 s2
      have s0 := BY21.out.q0
      have s1 := BY21.out.q1
      have s2 := BY21.out.q2
      go_wp2_with fail
      refine (HHD.out _ R21.out).mono ?_
      rintro e1 w22 ⟨rfl, hx⟩
      have HE := Lib.hid (HA21.out.step hx).below
      clear hx
      go_wp2
      go_ret
      exact ⟨rfl, HE.out⟩
    · simp only [if_neg hs2] at HZ2
      clear h h2 hd hle
      go_enter Try.func11, Try.ntmps11
      go_wp2_with fail
      refine (HZ.out _).mono ?_
      rintro e1 w1 ⟨rfl, hx⟩
      have HA1 := Lib.hid (HA0.out.step hx)
      have HB1 := Lib.hid (HB0.out.step hx)
      clear hx HZ q0 q1 q2
      have q0 := HB1.out.q0
      have q1 := HB1.out.q1
      have q2 := HB1.out.q2
      go_wp2_with fail
      refine (HZ2.out _).mono ?_
      rintro e1 w2 ⟨rfl, hx⟩
      have HE := Lib.hid (HA1.out.step hx).below
      clear hx HZ2
      go_wp2
      go_ret
      exact ⟨rfl, HE.out⟩
  · simp only [if_neg hs] at HZ
    clear h h2
    go_enter Try.func11, Try.ntmps11
    go_wp2_with fail
    refine (HZ.out _).mono ?_
    rintro e1 w1 ⟨rfl, hx⟩
    have HB1 := Lib.hid (HA0.out.step hx)
    clear hx HZ
    go_wp2
    go_ret
    exact ⟨rfl, HB1.out.below⟩

end Go.Proofs.Ytiphooodijbhiab
