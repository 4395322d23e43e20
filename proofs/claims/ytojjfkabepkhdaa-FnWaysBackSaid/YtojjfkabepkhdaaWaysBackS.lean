/-
  What the model's WaysBack answers.
-/
import Derived.Test.YtojjfkabepkhdaaWayTabS
import Derived.Test.YtojjfkabepkhdaaWayVal
set_option linter.unusedVariables false
set_option linter.unusedSimpArgs false
namespace Go.Proofs.Ytojjfkabepkhdaa
open Go.RowKit

set_option maxRecDepth 100000 in
set_option maxHeartbeats 2000000 in
theorem specWaysBack (s : ByteArray) (n : Int) (w : World) (hs : s.size ≤ 1048576) :
    Calls Try.prog 41 #[.string s, .int .i64 n] w fun e w' => TellsW s n 40 backI e ∧ Below w.heap.size w w' := by
  cases h : okW s n 40
  · have HO := Lib.hid (tellsW_off (F := backI) h)
    unfold okW at h
    go_enter Try.func41, Try.ntmps41
    go_wp2_with fail
    refine (given9_any s n 40 _ hs (by decide)).mono ?_
    rintro e w1 ⟨⟨a1, n1, c1, a2, n2, c2, rfl, hsp⟩, hb⟩
    have HB1 := Lib.hid (hb.alloc hb.size (.cells #[.slice a1 n1 c1, .slice a2 n2 c2] 48))
    rw [h]
    clear hsp hb h
    go_wp2
    go_ret2
    exact ⟨HO.out, HB1.out⟩
  · obtain ⟨h1, n, rfl, hk⟩ := okW_nat h
    have HO := Lib.hid (fun v hv => tellsW_on (F := backI) (v := v) h hv)
    unfold okW at h
    go_enter Try.func41, Try.ntmps41
    go_wp2_with fail
    refine (given9_any s n 40 _ hs (by decide)).mono ?_
    rintro e w1 ⟨⟨a1, n1, c1, a2, n2, c2, rfl, hsp⟩, hb⟩
    have HB1 := Lib.hid (hb.alloc hb.size (.cells #[.slice a1 n1 c1, .slice a2 n2 c2] 48))
    have HSP := Lib.hid ((hsp h1).alloc (.cells #[.slice a1 n1 c1, .slice a2 n2 c2] 48))
    rw [h]
    clear hsp hb h h1
    go_wp2_with fail
    refine (l9Ways_any (fS s) a1 n1 c1 a2 n2 c2 n _ HSP.out (by omega)).mono ?_
    rintro e w2 ⟨a, c, rfl, hr, hb2⟩
    obtain ⟨q0, q1⟩ := box_later hb2
    have HB2 := Lib.hid (HB1.out.trans (hb2.mono HB1.out.size))
    have HSP2 := Lib.hid (HSP.out.below hb2 (Nat.le_refl _))
    have HR := Lib.hid hr
    have HQ := Lib.hid (And.intro q0 q1)
    clear hr hb2
    obtain ⟨p, hp⟩ : ∃ p, p = n % 2 := ⟨_, rfl⟩
    have HPI : Hid ((n : Int) % 2 = (p : Int)) := Lib.hid (by omega)
    have HP := Lib.hid hp
    have hp1 : p ≤ 1 := by omega
    clear hp
    go_wp2
    go_loopw [9, 10] (fun m j wq => ∃ y : Nat, y % 2 = n % 2 ∧ y ≤ n + 2 ∧ j = .int .i64 y ∧ m = .int .i64 (backP (fS s) n y : Nat) ∧ Below w2.heap.size w2 wq) (fun _ j _ => n + 3 - (intOf j).toNat)
    case atStart =>
      refine ⟨p, by rw [HP.out]; omega, by omega, by rw [← HPI.out], ?_, Below.refl _ _⟩
      have : backP (fS s) n p = 0 := by
        rw [HP.out]
        rcases Nat.mod_two_eq_zero_or_one n with e | e
        · rw [e]; rfl
        · rw [e]
          show 0 + backY (fS s) n 0 = 0
          unfold backY
          rw [if_neg (fun x => by have := x.1; omega)]
      rw [this]; rfl
    case round =>
      obtain ⟨y, hy2, hyn, rfl, rfl, hb⟩ := hrel
      have HB := Lib.hid hb
      by_cases hle : y ≤ n
      · have hli : (y : Int) ≤ (n : Int) := by omega
        obtain ⟨z, hz⟩ : ∃ z, z = n - y := ⟨_, rfl⟩
        obtain ⟨r, hr⟩ : ∃ r, r = z / 2 := ⟨_, rfl⟩
        have hzi : (n : Int) - (y : Int) = (z : Int) := by omega
        have hri : (z : Int) / 2 = (r : Int) := by omega
        have hrn : r < n + 1 := by omega
        have hrn2 : (r : Int) < (n : Int) + 1 := by omega
        obtain ⟨b, o, rfl, hbl, c0⟩ := (HR.out.below hb (Nat.le_refl _)).at hrn
        unfold manyI at c0
        have hs1 := manyF_le40 (fS s) (i := r) (by omega)
        have hs2 : backP (fS s) n y ≤ backF (fS s) n := by
          have := backP_mono (fS s) n y (n + 2 - y)
          rw [show y + (n + 2 - y) = n + 2 from by omega, backP_end] at this
          exact this
        have hs3 := (back_many (fS s) n).1
        have hs4 := manyF_le40 (fS s) (i := n) (by omega)
        have hstep := backP_two (fS s) n y hy2
        rw [← hz, ← hr] at hstep
        have HSTEP := Lib.hid hstep
        obtain ⟨v, hv⟩ : ∃ v, v = manyF (fS s) r := ⟨_, rfl⟩
        obtain ⟨u, hu⟩ : ∃ u, u = backP (fS s) n y := ⟨_, rfl⟩
        rw [← hv] at c0 hs1 HSTEP
        rw [← hu] at hs2 HSTEP ⊢
        have hsv : (u : Int) + (v : Int) ≤ 1099511627776000 := by omega
        have q0 := (hb.cell (p := ⟨w1.heap.size, 0, none⟩) (lt_of_some HQ.out.1)).trans HQ.out.1
        have q1 := (hb.cell (p := ⟨w1.heap.size, 1, none⟩) (lt_of_some HQ.out.2)).trans HQ.out.2
        have HH := Lib.hid (small_has y (HSP2.out.below hb (Nat.le_refl _)) (c1 := c1) (c2 := c2) (by omega))
        have hn2 : y = 0 → (n : Int) / 2 = (r : Int) := fun e => by omega
        clear hb hv hu hs1 hs2 hs3 hs4 hstep hz hr
        by_cases h0 : y = 0
        · have hn2 := hn2 h0
          subst h0
          have HSV : Hid (((u : Int) + (v : Int)) = ((backP (fS s) n (0 + 2) : Nat) : Int)) := Lib.hid (by rw [HSTEP.out, if_pos (.inl rfl)]; omega)
          go_wp2
          go_roundw
          case rel => exact ⟨0 + 2, by omega, by omega, by go_num, by rw [← HSV.out], HB.out⟩
          case measure => simp [intOf] <;> omega
        · have h0i : ¬ (y : Int) = 0 := by omega
          clear hn2
          cases hf : fS s y
          · rw [hf] at HH
            have HSV : Hid (u = backP (fS s) n (y + 2)) := Lib.hid (by rw [HSTEP.out, if_neg (fun x => x.elim h0 (fun e => by rw [hf] at e; cases e)), Nat.add_zero])
            go_wp2_with fail
            refine HH.out.mono ?_
            rintro e w6 ⟨rfl, hb6⟩
            have HB6 := Lib.hid (HB.out.trans (hb6.mono HB.out.size))
            clear hb6 hf
            go_wp2
            go_roundw
            case rel => exact ⟨y + 2, by omega, by omega, by go_num, by rw [← HSV.out], HB6.out⟩
            case measure => simp [intOf]; omega
          · rw [hf] at HH
            have HSV : Hid (((u : Int) + (v : Int)) = ((backP (fS s) n (y + 2) : Nat) : Int)) := Lib.hid (by rw [HSTEP.out, if_pos (.inr hf)]; omega)
            go_wp2_with fail
            refine HH.out.mono ?_
            rintro e w6 ⟨rfl, hb6⟩
            have c6 := (hb6.cell (p := ⟨b, o + r, none⟩) hbl).trans c0
            have HB6 := Lib.hid (HB.out.trans (hb6.mono HB.out.size))
            clear hb6 hf c0
            go_wp2
            go_roundw
            case rel => exact ⟨y + 2, by omega, by omega, by go_num, by rw [← HSV.out], HB6.out⟩
            case measure => simp [intOf]; omega
      · obtain rfl : y = n + 2 := by omega
        have HV := Lib.hid (HO.out (backP (fS s) n (n + 2) : Nat) (by rw [backP_end]; rfl))
        have HBB := Lib.hid (HB2.out.trans (hb.mono HB2.out.size))
        have hni : ¬ ((n : Int) + 2 ≤ (n : Int)) := by omega
        clear hb
        go_wp2
        go_ret2
        exact ⟨HV.out, HBB.out⟩

end Go.Proofs.Ytojjfkabepkhdaa
