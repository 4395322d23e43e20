/-
  The walk of the law FnMachSum.
-/
import Derived.Test.YtiphooodijbhiaaDrawMachBoth
import Derived.Test.YtiphooodijbhiaaBothMI
import Derived.Test.YtiphooodijbhiaaBothMS
import Derived.Test.YtiphooodijbhiaaMachSetI
import Derived.Test.YtiphooodijbhiaaBothSays
import Derived.Test.YtiphooodijbhiaaBothJ
import Derived.Test.YtiphooodijbhiaaTimesMath
import Derived.Test.YtiphooodijbhiaaToldMath
set_option linter.unusedVariables false
set_option linter.unusedSimpArgs false
namespace Go.Proofs.Ytiphooodijbhiaa
open Go.RowKit

def MachAs (ok : Bool) (zs : List Int) (n : Nat) (x y : Int) (w : World) (e : Ending) (w' : World) : Prop :=
  ∃ a c, e = .returned (.tuple #[.agg #[.slice a n c, .int .i64 x, .int .i64 y], .bool ok]) ∧ w'.ownsRow w.heap.size 3 1 (.slice a n c) n (ints zs) ∧ Below w.heap.size w w'
theorem asOf {ok : Bool} {L : List Nat} {s t : Nat} {w w' : World} {e : Ending} (h : MachEnd ok L s t w e w') : MachAs ok (castM L) L.length s t w e w' := by
  obtain ⟨a, n, c, rfl, h1, rfl, h2⟩ := h
  exact ⟨a, c, rfl, h1, h2⟩
theorem told_size {T : ByteArray} (h : okS T = true) : T.size ≤ 1048576 := by
  rw [set_size h]
  have h1 := setT_le h
  have h2 := setR_le h
  omega
set_option maxRecDepth 100000 in
set_option maxHeartbeats 4000000 in
theorem pMachSum (a : Option Addr) (n c : Nat) (zs0 : List Int) (w : World) (hr : IsRow .u8 w a n c zs0) (m0 : Int) (hg : 0 < w.heap.size) (hm : w.cell? ⟨0, 0, none⟩ = some (.int .i64 m0)) :
    Calls Try.prog 7 #[.slice a n c] w fun e w' => e = .returned (.bool true) ∧ Below w.heap.size w w' := by
  by_cases hn : n ≤ 1048576
  · have hB := Lib.hid hr.bytes
    have hC := Lib.hid hr.cap
    clear hr
    have HLA : Hid (LibAt m0 w) := Lib.hid ⟨hg, hm⟩
    clear hg hm
    go_enter Try.func7, Try.ntmps7
    go_wp2_with fail
    refine (drawMachBoth a n c _ hB.out hn hC.out).mono ?_
    rintro e1 w1 ⟨a', m, c', zs, x, y, a2, m2, c2, ys, x2, y2, rfl, hrd, hm12, hrd2, hm212, hb1⟩
    have HB := Lib.hid hb1
    have hal := (Below.refl w1.heap.size w1).alloc (Nat.le_refl _) (.cells #[.slice a' m c', .int .i64 x, .int .i64 y] 25)
    have RM := Lib.hid hrd
    have RN := Lib.hid hrd2
    have BX1 := Lib.hid ((boxM_start a' m c' x y w1 25).step ((Below.refl _ _).alloc (Nat.le_refl _) (.cells #[.slice a2 m2 c2, .int .i64 x2, .int .i64 y2] 25)))
    have hby := boxM_start a2 m2 c2 x2 y2 (w1.alloc (.cells #[.slice a' m c', .int .i64 x, .int .i64 y] 25)) 25
    rw [World.size_alloc] at hby
    have BY1 := Lib.hid hby
    clear hby
    clear hb1 hrd hrd2 hal
    have p0 := BX1.out.q0
    have p1 := BX1.out.q1
    have p2 := BX1.out.q2
    have r0 := BY1.out.q0
    have r1 := BY1.out.q1
    have r2 := BY1.out.q2
    cases hok : okBoth zs x y ys x2 y2
    · have HIM : Hid (∀ W, ReadsI W a' m zs → ReadsI W a2 m2 ys → Calls Try.prog 30 #[.agg #[.slice a' m c', .int .i64 x, .int .i64 y], .agg #[.slice a2 m2 c2, .int .i64 x2, .int .i64 y2]] W (MachAs false [] 0 0 0 W)) := Lib.hid (fun W hW hW2 => by
        have := implBoth a' m c' zs x y a2 m2 c2 ys x2 y2 W hW hW2 (by omega) (by omega)
        rw [hok] at this
        exact this.mono fun _ _ h => asOf h)
      have HSP : Hid (∀ W, ReadsI W a' m zs → ReadsI W a2 m2 ys → Calls Try.prog 31 #[.agg #[.slice a' m c', .int .i64 x, .int .i64 y], .agg #[.slice a2 m2 c2, .int .i64 x2, .int .i64 y2]] W (MachAs false [] 0 0 0 W)) := Lib.hid (fun W hW hW2 => by
        have := specBoth a' m c' zs x y a2 m2 c2 ys x2 y2 W hW hW2 (by omega) (by omega)
        rw [hok] at this
        exact this.mono fun _ _ h => asOf h)
      clear hok
      go_wp2_with fail
      refine (HIM.out _ (RM.out.below BX1.out.below (Nat.le_refl _)) (RN.out.below BX1.out.below (Nat.le_refl _))).mono ?_
      rintro e1 w2 ⟨a3, c3, rfl, hown1, hx⟩
      have hal := (Below.refl w2.heap.size w2).alloc (Nat.le_refl _) (.cells #[.slice a3 0 c3, .int .i64 0, .int .i64 0] 25)
      have R1 := Lib.hid (readsI_own hown1)
      have XB2 := Lib.hid (boxM_start a3 0 c3 0 0 w2 25)
      have BX2 := Lib.hid ((BX1.out.step hx).step hal)
      have BY2 := Lib.hid ((BY1.out.step hx).step hal)
      clear hx hown1 hal p0 p1 p2 r0 r1 r2
      have p0 := BX2.out.q0
      have p1 := BX2.out.q1
      have p2 := BX2.out.q2
      have r0 := BY2.out.q0
      have r1 := BY2.out.q1
      have r2 := BY2.out.q2
      go_wp2_with fail
      refine (HSP.out _ (RM.out.below BX2.out.below (Nat.le_refl _)) (RN.out.below BX2.out.below (Nat.le_refl _))).mono ?_
      rintro e1 w3 ⟨a4, c4, rfl, hown2, hx⟩
      have hal := (Below.refl w3.heap.size w3).alloc (Nat.le_refl _) (.cells #[.slice a4 0 c4, .int .i64 0, .int .i64 0] 25)
      have R2 := Lib.hid (readsI_own hown2)
      have WB3 := Lib.hid (boxM_start a4 0 c4 0 0 w3 25)
      have XB3 := Lib.hid ((XB2.out.step hx).step hal)
      have BX3 := Lib.hid ((BX2.out.step hx).step hal)
      have BY3 := Lib.hid ((BY2.out.step hx).step hal)
      clear hx hown2 hal p0 p1 p2 r0 r1 r2
      have s0 := XB3.out.q0
      have s1 := XB3.out.q1
      have s2 := XB3.out.q2
      have t0 := WB3.out.q0
      have t1 := WB3.out.q1
      have t2 := WB3.out.q2
      go_wp2_with fail
      refine (sameMachine_same a3 a4 0 c3 c4 [] 0 0 _ (R1.out.below XB3.out.below (Nat.le_refl _)) (R2.out.below WB3.out.below (Nat.le_refl _)) (by omega)).mono ?_
      rintro e1 w4 ⟨rfl, hx⟩
      have XB4 := Lib.hid (XB3.out.step hx)
      have WB4 := Lib.hid (WB3.out.step hx)
      have BX4 := Lib.hid (BX3.out.step hx)
      have BY4 := Lib.hid (BY3.out.step hx)
      clear hx
      clear s0 s1 s2 t0 t1 t2
      have s0 := XB4.out.q0
      have s1 := XB4.out.q1
      have s2 := XB4.out.q2
      have t0 := WB4.out.q0
      have t1 := WB4.out.q1
      have t2 := WB4.out.q2
      go_wp2_with fail
      refine (sameMachine_same a3 a4 0 c3 c4 [] 0 0 _ (R1.out.below XB4.out.below (Nat.le_refl _)) (R2.out.below WB4.out.below (Nat.le_refl _)) (by omega)).mono ?_
      rintro e1 w5 ⟨rfl, hx⟩
      have BX5 := Lib.hid (BX4.out.step hx)
      clear hx
      go_wp2
      go_ret
      exact ⟨rfl, (HB.out.trans (BX5.out.below.mono HB.out.size))⟩
    · obtain ⟨h1, h2, h3, h4, h5, h6⟩ := both_says hok
      have hm2e : ys.length = m2 := RN.out.len
      rw [hm2e] at h3 h4 h5
      have hi : ∀ W, ReadsI W a' m zs → ReadsI W a2 m2 ys → Calls Try.prog 30 #[.agg #[.slice a' m c', .int .i64 x, .int .i64 y], .agg #[.slice a2 m2 c2, .int .i64 x2, .int .i64 y2]] W (MachAs true (castM (pairL (natsM zs) (natsM ys))) (pairL (natsM zs) (natsM ys)).length (pairN x.toNat x2.toNat m2 : Nat) (pairN y.toNat y2.toNat m2 : Nat) W) := fun W hW hW2 => by
        have := implBoth a' m c' zs x y a2 m2 c2 ys x2 y2 W hW hW2 (by omega) (by omega)
        rw [hok] at this
        exact this.mono fun _ _ h => asOf h
      have hsp : ∀ W, ReadsI W a' m zs → ReadsI W a2 m2 ys → Calls Try.prog 31 #[.agg #[.slice a' m c', .int .i64 x, .int .i64 y], .agg #[.slice a2 m2 c2, .int .i64 x2, .int .i64 y2]] W (MachAs true (castM (pairL (natsM zs) (natsM ys))) (pairL (natsM zs) (natsM ys)).length (pairN x.toNat x2.toNat m2 : Nat) (pairN y.toNat y2.toNat m2 : Nat) W) := fun W hW hW2 => by
        have := specBoth a' m c' zs x y a2 m2 c2 ys x2 y2 W hW hW2 (by omega) (by omega)
        rw [hok] at this
        exact this.mono fun _ _ h => asOf h
      obtain ⟨L, hL⟩ : ∃ L, L = pairL (natsM zs) (natsM ys) := ⟨_, rfl⟩
      obtain ⟨PS, hPS⟩ : ∃ k : Nat, k = pairN x.toNat x2.toNat m2 := ⟨_, rfl⟩
      obtain ⟨PT, hPT⟩ : ∃ k : Nat, k = pairN y.toNat y2.toNat m2 := ⟨_, rfl⟩
      obtain ⟨N, hN⟩ : ∃ N, N = L.length := ⟨_, rfl⟩
      rw [← hL] at hi hsp h3 h4 h5 h6
      rw [← hPS, ← hPT] at hi hsp h3 h4 h5
      rw [← hN] at hi hsp h6
      have hlen : (castM L).length = N := by rw [castM_length]; exact hN.symm
      clear hL hPS hPT hN hok hm2e
      obtain ⟨us, hus⟩ : ∃ us, us = castM L := ⟨_, rfl⟩
      rw [← hus] at hi hsp h3 h4 h5 hlen
      obtain ⟨b0, hb0⟩ : ∃ b0 : Int, b0 = (PS : Int) := ⟨_, rfl⟩
      obtain ⟨e0, he0⟩ : ∃ e0 : Int, e0 = (PT : Int) := ⟨_, rfl⟩
      rw [← hb0, ← he0] at hi hsp h3 h4 h5
      have HIM := Lib.hid hi
      have HSP := Lib.hid hsp
      clear hi hsp hus hb0 he0 hlen
      have hst : ∀ (W : World) aa cc, ReadsI W aa N us → Calls Try.prog 25 #[.agg #[.slice aa N cc, .int .i64 b0, .int .i64 e0]] W fun e1 w' => (∃ T, e1 = .returned (.tuple #[.string T, .bool true]) ∧ TidyText (fM us b0 e0) T) ∧ Below W.heap.size W w' := fun W aa cc hW => by
        have := implSet aa N cc us b0 e0 W hW (by omega)
        rw [h3] at this
        exact this.mono fun e w' ⟨⟨T, h, hs⟩, hb⟩ => ⟨⟨T, h, hs.1 rfl⟩, hb⟩
      have hsa : ∀ (W : World), ReadsI W a' m zs → Calls Try.prog 25 #[.agg #[.slice a' m c', .int .i64 x, .int .i64 y]] W fun e1 w' => (∃ T, e1 = .returned (.tuple #[.string T, .bool true]) ∧ TidyText (fM zs x y) T) ∧ Below W.heap.size W w' := fun W hW => by
        have := implSet a' m c' zs x y W hW (by omega)
        rw [h1] at this
        exact this.mono fun e w' ⟨⟨T, h, hs⟩, hb⟩ => ⟨⟨T, h, hs.1 rfl⟩, hb⟩
      have hsb : ∀ (W : World), ReadsI W a2 m2 ys → Calls Try.prog 25 #[.agg #[.slice a2 m2 c2, .int .i64 x2, .int .i64 y2]] W fun e1 w' => (∃ T, e1 = .returned (.tuple #[.string T, .bool true]) ∧ TidyText (fM ys x2 y2) T) ∧ Below W.heap.size W w' := fun W hW => by
        have := implSet a2 m2 c2 ys x2 y2 W hW (by omega)
        rw [h2] at this
        exact this.mono fun e w' ⟨⟨T, h, hs⟩, hb⟩ => ⟨⟨T, h, hs.1 rfl⟩, hb⟩
      have hFG : fM us b0 e0 = fun k => (fM zs x y k && fM ys x2 y2 k) := funext h5
      rw [hFG] at hst
      obtain ⟨G, hG⟩ : ∃ G, G = fM zs x y := ⟨_, rfl⟩
      obtain ⟨H, hH⟩ : ∃ H, H = fM ys x2 y2 := ⟨_, rfl⟩
      rw [← hG] at hst hsa
      rw [← hH] at hst hsb
      have HST := Lib.hid hst
      have HSA := Lib.hid hsa
      have HSB := Lib.hid hsb
      clear h1 h2 h3 h4 h5 hst hsa hsb hFG hG hH
      go_wp2_with fail
      refine (HIM.out _ (RM.out.below BX1.out.below (Nat.le_refl _)) (RN.out.below BX1.out.below (Nat.le_refl _))).mono ?_
      rintro e1 w2 ⟨a3, c3, rfl, hown1, hx⟩
      have hal := (Below.refl w2.heap.size w2).alloc (Nat.le_refl _) (.cells #[.slice a3 N c3, .int .i64 b0, .int .i64 e0] 25)
      have R1 := Lib.hid (readsI_own hown1)
      have XB2 := Lib.hid (boxM_start a3 N c3 b0 e0 w2 25)
      have BX2 := Lib.hid ((BX1.out.step hx).step hal)
      have BY2 := Lib.hid ((BY1.out.step hx).step hal)
      clear hx hown1 hal p0 p1 p2 r0 r1 r2
      have p0 := BX2.out.q0
      have p1 := BX2.out.q1
      have p2 := BX2.out.q2
      have r0 := BY2.out.q0
      have r1 := BY2.out.q1
      have r2 := BY2.out.q2
      go_wp2_with fail
      refine (HSP.out _ (RM.out.below BX2.out.below (Nat.le_refl _)) (RN.out.below BX2.out.below (Nat.le_refl _))).mono ?_
      rintro e1 w3 ⟨a4, c4, rfl, hown2, hx⟩
      have hal := (Below.refl w3.heap.size w3).alloc (Nat.le_refl _) (.cells #[.slice a4 N c4, .int .i64 b0, .int .i64 e0] 25)
      have R2 := Lib.hid (readsI_own hown2)
      have WB3 := Lib.hid (boxM_start a4 N c4 b0 e0 w3 25)
      have XB3 := Lib.hid ((XB2.out.step hx).step hal)
      have BX3 := Lib.hid ((BX2.out.step hx).step hal)
      have BY3 := Lib.hid ((BY2.out.step hx).step hal)
      clear hx hown2 hal p0 p1 p2 r0 r1 r2
      have s0 := XB3.out.q0
      have s1 := XB3.out.q1
      have s2 := XB3.out.q2
      have t0 := WB3.out.q0
      have t1 := WB3.out.q1
      have t2 := WB3.out.q2
      go_wp2_with fail
      refine (sameMachine_same a3 a4 N c3 c4 us b0 e0 _ (R1.out.below XB3.out.below (Nat.le_refl _)) (R2.out.below WB3.out.below (Nat.le_refl _)) (by omega)).mono ?_
      rintro e1 w4 ⟨rfl, hx⟩
      have XB4 := Lib.hid (XB3.out.step hx)
      have WB4 := Lib.hid (WB3.out.step hx)
      have BX4 := Lib.hid (BX3.out.step hx)
      have BY4 := Lib.hid (BY3.out.step hx)
      clear hx
      clear s0 s1 s2 t0 t1 t2
      have s0 := XB4.out.q0
      have s1 := XB4.out.q1
      have s2 := XB4.out.q2
      go_wp2_with fail
      refine (HST.out _ a3 c3 (R1.out.below XB4.out.below (Nat.le_refl _))).mono ?_
      rintro e1 w5 ⟨⟨T, rfl, hT⟩, hx⟩
      have BX5 := Lib.hid (BX4.out.step hx)
      have BY5 := Lib.hid (BY4.out.step hx)
      have HT := Lib.hid hT
      clear hx hT s0 s1 s2
      have p0 := BX5.out.q0
      have p1 := BX5.out.q1
      have p2 := BX5.out.q2
      go_wp2_with fail
      refine (HSA.out _ (RM.out.below BX5.out.below (Nat.le_refl _))).mono ?_
      rintro e1 w6 ⟨⟨U, rfl, hU⟩, hx⟩
      have BX6 := Lib.hid (BX5.out.step hx)
      have BY6 := Lib.hid (BY5.out.step hx)
      have HU := Lib.hid hU
      clear hx hU p0 p1 p2
      have r0 := BY6.out.q0
      have r1 := BY6.out.q1
      have r2 := BY6.out.q2
      go_wp2_with fail
      refine (HSB.out _ (RN.out.below BX6.out.below (Nat.le_refl _))).mono ?_
      rintro e1 w7 ⟨⟨V, rfl, hV⟩, hx⟩
      have BX7 := Lib.hid (BX6.out.step hx)
      have HV := Lib.hid hV
      clear hx hV r0 r1 r2
      go_wp2_with fail
      refine (implJoinBoth U V m0 _ (told_size HU.out.told.ok) (told_size HV.out.told.ok) (HLA.out.below (HB.out.trans (BX7.out.below.mono HB.out.size)))).mono ?_
      rintro e1 w8 ⟨⟨Y, b, rfl, hm⟩, hx⟩
      have BX8 := Lib.hid (BX7.out.step hx)
      have HE := Lib.hid (HB.out.trans (BX8.out.below.mono HB.out.size))
      clear hx
      cases b
      · clear hm
        go_wp2
        go_ret
        exact ⟨ret_bool (by simp), HE.out⟩
      · have hY := (makeIs_told hm).2
        rw [HU.out.told.set, HV.out.told.set] at hY
        obtain rfl : T = Y := tidyText_same HT.out hY
        clear hm hY
        go_wp2
        go_ret
        exact ⟨ret_bool (by simp), HE.out⟩
  · have hd : (1048576 : Int) < (n : Int) := by omega
    go_enter Try.func7, Try.ntmps7
    go_wp2
    go_ret
    exact ⟨rfl, Below.refl _ _⟩

end Go.Proofs.Ytiphooodijbhiaa
