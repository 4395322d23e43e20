/-
  The walk of the law FnMachBoth.
-/
import Derived.Test.YtiphooodijbhiaaDrawMachBoth
import Derived.Test.YtiphooodijbhiaaBothMI
import Derived.Test.YtiphooodijbhiaaBothMS
import Derived.Test.YtiphooodijbhiaaMachInI
import Derived.Test.YtiphooodijbhiaaBothSays
set_option linter.unusedVariables false
set_option linter.unusedSimpArgs false
namespace Go.Proofs.Ytiphooodijbhiaa
open Go.RowKit

def MachAs (ok : Bool) (zs : List Int) (n : Nat) (x y : Int) (w : World) (e : Ending) (w' : World) : Prop :=
  ∃ a c, e = .returned (.tuple #[.agg #[.slice a n c, .int .i64 x, .int .i64 y], .bool ok]) ∧ w'.ownsRow w.heap.size 3 1 (.slice a n c) n (ints zs) ∧ Below w.heap.size w w'
theorem asOf {ok : Bool} {L : List Nat} {s t : Nat} {w w' : World} {e : Ending} (h : MachEnd ok L s t w e w') : MachAs ok (castM L) L.length s t w e w' := by
  obtain ⟨a, n, c, rfl, h1, rfl, h2⟩ := h
  exact ⟨a, c, rfl, h1, h2⟩
set_option maxRecDepth 100000 in
set_option maxHeartbeats 4000000 in
theorem pMachBoth (a : Option Addr) (n c : Nat) (zs0 : List Int) (w : World) (hr : IsRow .u8 w a n c zs0) :
    Calls Try.prog 6 #[.slice a n c] w fun e w' => e = .returned (.bool true) ∧ Below w.heap.size w w' := by
  by_cases hn : n ≤ 1048576
  · have hB := Lib.hid hr.bytes
    have hC := Lib.hid hr.cap
    clear hr
    go_enter Try.func6, Try.ntmps6
    go_wp2_with fail
    refine (drawMachBoth a n c _ hB.out hn hC.out).mono ?_
    rintro e1 w1 ⟨a', m, c', zs, x, y, a2, m2, c2, ys, x2, y2, rfl, hrd, hm12, hrd2, hm212, hb1⟩
    have HB := Lib.hid hb1
    have hal := (Below.refl w1.heap.size w1).alloc (Nat.le_refl _) (.cells #[.slice a' m c', .int .i64 x, .int .i64 y] 25)
    have RM := Lib.hid hrd
    have RN := Lib.hid hrd2
    have BX1 := Lib.hid ((boxM_start a' m c' x y w1 25).step ((Below.refl _ _).alloc (Nat.le_refl _) (.cells #[.slice a2 m2 c2, .int .i64 x2, .int .i64 y2] 25)))
    have hby := boxM_start a2 m2 c2 x2 y2 (w1.alloc (.cells #[.slice a' m c', .int .i64 x, .int .i64 y] 25)) 25
    rw [World.size_alloc] at hby
    have BY1 := Lib.hid hby
    clear hby
    clear hb1 hrd hrd2 hal
    have p0 := BX1.out.q0
    have p1 := BX1.out.q1
    have p2 := BX1.out.q2
    have r0 := BY1.out.q0
    have r1 := BY1.out.q1
    have r2 := BY1.out.q2
    cases hok : okBoth zs x y ys x2 y2
    · have HIM : Hid (∀ W, ReadsI W a' m zs → ReadsI W a2 m2 ys → Calls Try.prog 30 #[.agg #[.slice a' m c', .int .i64 x, .int .i64 y], .agg #[.slice a2 m2 c2, .int .i64 x2, .int .i64 y2]] W (MachAs false [] 0 0 0 W)) := Lib.hid (fun W hW hW2 => by
        have := implBoth a' m c' zs x y a2 m2 c2 ys x2 y2 W hW hW2 (by omega) (by omega)
        rw [hok] at this
        exact this.mono fun _ _ h => asOf h)
      have HSP : Hid (∀ W, ReadsI W a' m zs → ReadsI W a2 m2 ys → Calls Try.prog 31 #[.agg #[.slice a' m c', .int .i64 x, .int .i64 y], .agg #[.slice a2 m2 c2, .int .i64 x2, .int .i64 y2]] W (MachAs false [] 0 0 0 W)) := Lib.hid (fun W hW hW2 => by
        have := specBoth a' m c' zs x y a2 m2 c2 ys x2 y2 W hW hW2 (by omega) (by omega)
        rw [hok] at this
        exact this.mono fun _ _ h => asOf h)
      clear hok
      go_wp2_with fail
      refine (HIM.out _ (RM.out.below BX1.out.below (Nat.le_refl _)) (RN.out.below BX1.out.below (Nat.le_refl _))).mono ?_
      rintro e1 w2 ⟨a3, c3, rfl, hown1, hx⟩
      have hal := (Below.refl w2.heap.size w2).alloc (Nat.le_refl _) (.cells #[.slice a3 0 c3, .int .i64 0, .int .i64 0] 25)
      have R1 := Lib.hid (readsI_own hown1)
      have XB2 := Lib.hid (boxM_start a3 0 c3 0 0 w2 25)
      have BX2 := Lib.hid ((BX1.out.step hx).step hal)
      have BY2 := Lib.hid ((BY1.out.step hx).step hal)
      clear hx hown1 hal p0 p1 p2 r0 r1 r2
      have p0 := BX2.out.q0
      have p1 := BX2.out.q1
      have p2 := BX2.out.q2
      have r0 := BY2.out.q0
      have r1 := BY2.out.q1
      have r2 := BY2.out.q2
      go_wp2_with fail
      refine (HSP.out _ (RM.out.below BX2.out.below (Nat.le_refl _)) (RN.out.below BX2.out.below (Nat.le_refl _))).mono ?_
      rintro e1 w3 ⟨a4, c4, rfl, hown2, hx⟩
      have hal := (Below.refl w3.heap.size w3).alloc (Nat.le_refl _) (.cells #[.slice a4 0 c4, .int .i64 0, .int .i64 0] 25)
      have R2 := Lib.hid (readsI_own hown2)
      have WB3 := Lib.hid (boxM_start a4 0 c4 0 0 w3 25)
      have XB3 := Lib.hid ((XB2.out.step hx).step hal)
      have BX3 := Lib.hid ((BX2.out.step hx).step hal)
      have BY3 := Lib.hid ((BY2.out.step hx).step hal)
      clear hx hown2 hal p0 p1 p2 r0 r1 r2
      have s0 := XB3.out.q0
      have s1 := XB3.out.q1
      have s2 := XB3.out.q2
      have t0 := WB3.out.q0
      have t1 := WB3.out.q1
      have t2 := WB3.out.q2
      go_wp2_with fail
      refine (sameMachine_same a3 a4 0 c3 c4 [] 0 0 _ (R1.out.below XB3.out.below (Nat.le_refl _)) (R2.out.below WB3.out.below (Nat.le_refl _)) (by omega)).mono ?_
      rintro e1 w4 ⟨rfl, hx⟩
      have XB4 := Lib.hid (XB3.out.step hx)
      have WB4 := Lib.hid (WB3.out.step hx)
      have BX4 := Lib.hid (BX3.out.step hx)
      have BY4 := Lib.hid (BY3.out.step hx)
      clear hx
      clear s0 s1 s2 t0 t1 t2
      have s0 := XB4.out.q0
      have s1 := XB4.out.q1
      have s2 := XB4.out.q2
      have t0 := WB4.out.q0
      have t1 := WB4.out.q1
      have t2 := WB4.out.q2
      go_wp2
      go_ret
      exact ⟨rfl, (HB.out.trans (BX4.out.below.mono HB.out.size))⟩
    · obtain ⟨h1, h2, h3, h4, h5, h6⟩ := both_says hok
      have hm2e : ys.length = m2 := RN.out.len
      rw [hm2e] at h3 h4 h5
      have hi : ∀ W, ReadsI W a' m zs → ReadsI W a2 m2 ys → Calls Try.prog 30 #[.agg #[.slice a' m c', .int .i64 x, .int .i64 y], .agg #[.slice a2 m2 c2, .int .i64 x2, .int .i64 y2]] W (MachAs true (castM (pairL (natsM zs) (natsM ys))) (pairL (natsM zs) (natsM ys)).length (pairN x.toNat x2.toNat m2 : Nat) (pairN y.toNat y2.toNat m2 : Nat) W) := fun W hW hW2 => by
        have := implBoth a' m c' zs x y a2 m2 c2 ys x2 y2 W hW hW2 (by omega) (by omega)
        rw [hok] at this
        exact this.mono fun _ _ h => asOf h
      have hsp : ∀ W, ReadsI W a' m zs → ReadsI W a2 m2 ys → Calls Try.prog 31 #[.agg #[.slice a' m c', .int .i64 x, .int .i64 y], .agg #[.slice a2 m2 c2, .int .i64 x2, .int .i64 y2]] W (MachAs true (castM (pairL (natsM zs) (natsM ys))) (pairL (natsM zs) (natsM ys)).length (pairN x.toNat x2.toNat m2 : Nat) (pairN y.toNat y2.toNat m2 : Nat) W) := fun W hW hW2 => by
        have := specBoth a' m c' zs x y a2 m2 c2 ys x2 y2 W hW hW2 (by omega) (by omega)
        rw [hok] at this
        exact this.mono fun _ _ h => asOf h
      obtain ⟨L, hL⟩ : ∃ L, L = pairL (natsM zs) (natsM ys) := ⟨_, rfl⟩
      obtain ⟨PS, hPS⟩ : ∃ k : Nat, k = pairN x.toNat x2.toNat m2 := ⟨_, rfl⟩
      obtain ⟨PT, hPT⟩ : ∃ k : Nat, k = pairN y.toNat y2.toNat m2 := ⟨_, rfl⟩
      obtain ⟨N, hN⟩ : ∃ N, N = L.length := ⟨_, rfl⟩
      rw [← hL] at hi hsp h3 h4 h5 h6
      rw [← hPS, ← hPT] at hi hsp h3 h4 h5
      rw [← hN] at hi hsp h6
      have hlen : (castM L).length = N := by rw [castM_length]; exact hN.symm
      clear hL hPS hPT hN hok hm2e
      obtain ⟨us, hus⟩ : ∃ us, us = castM L := ⟨_, rfl⟩
      rw [← hus] at hi hsp h3 h4 h5 hlen
      obtain ⟨b0, hb0⟩ : ∃ b0 : Int, b0 = (PS : Int) := ⟨_, rfl⟩
      obtain ⟨e0, he0⟩ : ∃ e0 : Int, e0 = (PT : Int) := ⟨_, rfl⟩
      rw [← hb0, ← he0] at hi hsp h3 h4 h5
      have HIM := Lib.hid hi
      have HSP := Lib.hid hsp
      clear hi hsp hus hb0 he0 hlen
      have htk : ∀ (W : World) aa cc (k : Nat), k ≤ 1000000 → ReadsI W aa N us → Calls Try.prog 16 #[.agg #[.slice aa N cc, .int .i64 b0, .int .i64 e0], .int .i64 k] W fun e1 w' => e1 = .returned (.bool (takesV zs x y k && takesV ys x2 y2 k)) ∧ Below W.heap.size W w' := fun W aa cc k hk hW => by
        have := implTakes aa N cc us b0 e0 k W hW (by omega)
        rw [h4 k hk] at this
        exact this
      have hin : ∀ (W : World) aa cc, ReadsI W aa N us → Calls Try.prog 32 #[.agg #[.slice aa N cc, .int .i64 b0, .int .i64 e0]] W fun e1 w' => e1 = .returned (.bool true) ∧ Below W.heap.size W w' := fun W aa cc hW => by
        have := implIn aa N cc us b0 e0 W hW (by omega)
        rw [h3] at this
        exact this
      have HTK := Lib.hid htk
      have HIN := Lib.hid hin
      clear h1 h2 h3 h4 h5 htk hin
      go_wp2_with fail
      refine (HIM.out _ (RM.out.below BX1.out.below (Nat.le_refl _)) (RN.out.below BX1.out.below (Nat.le_refl _))).mono ?_
      rintro e1 w2 ⟨a3, c3, rfl, hown1, hx⟩
      have hal := (Below.refl w2.heap.size w2).alloc (Nat.le_refl _) (.cells #[.slice a3 N c3, .int .i64 b0, .int .i64 e0] 25)
      have R1 := Lib.hid (readsI_own hown1)
      have XB2 := Lib.hid (boxM_start a3 N c3 b0 e0 w2 25)
      have BX2 := Lib.hid ((BX1.out.step hx).step hal)
      have BY2 := Lib.hid ((BY1.out.step hx).step hal)
      clear hx hown1 hal p0 p1 p2 r0 r1 r2
      have p0 := BX2.out.q0
      have p1 := BX2.out.q1
      have p2 := BX2.out.q2
      have r0 := BY2.out.q0
      have r1 := BY2.out.q1
      have r2 := BY2.out.q2
      go_wp2_with fail
      refine (HSP.out _ (RM.out.below BX2.out.below (Nat.le_refl _)) (RN.out.below BX2.out.below (Nat.le_refl _))).mono ?_
      rintro e1 w3 ⟨a4, c4, rfl, hown2, hx⟩
      have hal := (Below.refl w3.heap.size w3).alloc (Nat.le_refl _) (.cells #[.slice a4 N c4, .int .i64 b0, .int .i64 e0] 25)
      have R2 := Lib.hid (readsI_own hown2)
      have WB3 := Lib.hid (boxM_start a4 N c4 b0 e0 w3 25)
      have XB3 := Lib.hid ((XB2.out.step hx).step hal)
      have BX3 := Lib.hid ((BX2.out.step hx).step hal)
      have BY3 := Lib.hid ((BY2.out.step hx).step hal)
      clear hx hown2 hal p0 p1 p2 r0 r1 r2
      have s0 := XB3.out.q0
      have s1 := XB3.out.q1
      have s2 := XB3.out.q2
      have t0 := WB3.out.q0
      have t1 := WB3.out.q1
      have t2 := WB3.out.q2
      go_wp2_with fail
      refine (sameMachine_same a3 a4 N c3 c4 us b0 e0 _ (R1.out.below XB3.out.below (Nat.le_refl _)) (R2.out.below WB3.out.below (Nat.le_refl _)) (by omega)).mono ?_
      rintro e1 w4 ⟨rfl, hx⟩
      have XB4 := Lib.hid (XB3.out.step hx)
      have WB4 := Lib.hid (WB3.out.step hx)
      have BX4 := Lib.hid (BX3.out.step hx)
      have BY4 := Lib.hid (BY3.out.step hx)
      clear hx
      clear s0 s1 s2 t0 t1 t2
      go_wp2
      go_loopw [10] (fun i wr => ∃ z : Nat, i = .int .i64 z ∧ z ≤ 61 ∧ BoxM a' m c' x y w1.heap.size w1 wr ∧ BoxM a2 m2 c2 x2 y2 (w1.heap.size + 1) (w1.alloc (.cells #[.slice a' m c', .int .i64 x, .int .i64 y] 25)) wr ∧ BoxM a3 N c3 b0 e0 w2.heap.size w2 wr) (fun i _ => 62 - (intOf i).toNat)
      case atStart => exact ⟨0, rfl, by omega, BX4.out, BY4.out, XB4.out⟩
      case round =>
        obtain ⟨z, rfl, hz, hbz, hyz, hxz⟩ := hrel
        have BXZ := Lib.hid hbz
        have BYZ := Lib.hid hyz
        have XBZ := Lib.hid hxz
        have p0 := hbz.q0
        have p1 := hbz.q1
        have p2 := hbz.q2
        have r0 := hyz.q0
        have r1 := hyz.q1
        have r2 := hyz.q2
        have s0 := hxz.q0
        have s1 := hxz.q1
        have s2 := hxz.q2
        clear hbz hyz hxz
        by_cases hlt : z ≤ 60
        · have hltI : (z : Int) ≤ 60 := by omega
          have HX := Lib.hid (fun W hW => HTK.out W a3 c3 z (by omega) hW)
          have HY := Lib.hid (fun W hW => implTakes a' m c' zs x y z W hW (by omega))
          have HZ := Lib.hid (fun W hW => implTakes a2 m2 c2 ys x2 y2 z W hW (by omega))
          cases htb : takesV zs x y z
          all_goals
            rw [htb] at HX HY
            cases htd : takesV ys x2 y2 z
            all_goals
              rw [htd] at HX HZ
              simp only [Bool.and_true, Bool.and_false, Bool.true_and, Bool.false_and, Bool.and_self] at HX
              clear htb htd
              have BXD := Lib.hid (BXZ.out.step (Below.refl _ _).drew)
              have BYD := Lib.hid (BYZ.out.step (Below.refl _ _).drew)
              have XBD := Lib.hid (XBZ.out.step (Below.refl _ _).drew)
              go_wp2
              first
                | (go_region_with (first
                    | (go_at_call 16; (with_reducible refine (HX.out _ (R1.out.below XBD.out.below (Nat.le_refl _))).mono ?_); rintro e1 w5 ⟨rfl, hx5⟩; have BX5 := Lib.hid (BXD.out.step hx5); have BY5 := Lib.hid (BYD.out.step hx5); have XB5 := Lib.hid (XBD.out.step hx5); have u0 := BX5.out.q0; have u1 := BX5.out.q1; have u2 := BX5.out.q2; clear hx5)
                    | (go_at_call 16; (with_reducible refine (HY.out _ (RM.out.below BX5.out.below (Nat.le_refl _))).mono ?_); rintro e1 w6 ⟨rfl, hx6⟩; have BX6 := Lib.hid (BX5.out.step hx6); have BY6 := Lib.hid (BY5.out.step hx6); have XB6 := Lib.hid (XB5.out.step hx6); have v0 := BY6.out.q0; have v1 := BY6.out.q1; have v2 := BY6.out.q2; clear hx6)
                    | (go_at_call 16; (with_reducible refine (HZ.out _ (RN.out.below BX6.out.below (Nat.le_refl _))).mono ?_); rintro e1 w7 ⟨rfl, hx7⟩; have BX7 := Lib.hid (BX6.out.step hx7); have BY7 := Lib.hid (BY6.out.step hx7); have XB7 := Lib.hid (XB6.out.step hx7); clear hx7)))
                | fail "the region"
              all_goals
                clear p0 p1 p2 s0 s1 s2 r0 r1 r2
                go_wp2
                go_roundw
                case rel => first | exact ⟨z + 1, by go_num, by omega, BX7.out, BY7.out, XB7.out⟩ | exact ⟨z + 1, by go_num, by omega, BX6.out, BY6.out, XB6.out⟩
                case measure => simp [intOf]; omega
        · have hltI : 60 < (z : Int) := by omega
          clear p0 p1 p2 r0 r1 r2
          go_wp2_with fail
          refine (HIN.out _ a3 c3 (R1.out.below XBZ.out.below (Nat.le_refl _))).mono ?_
          rintro e1 w8 ⟨rfl, hx⟩
          have BX9 := Lib.hid (BXZ.out.step hx)
          clear hx
          go_wp2
          go_ret
          exact ⟨rfl, (HB.out.trans (BX9.out.below.mono HB.out.size))⟩
  · have hd : (1048576 : Int) < (n : Int) := by omega
    go_enter Try.func6, Try.ntmps6
    go_wp2
    go_ret
    exact ⟨rfl, Below.refl _ _⟩

end Go.Proofs.Ytiphooodijbhiaa
