/-
  The walk of the law FnMachAt.
-/
import Derived.Test.YtiphooodijbhiaaDrawMachAt
import Derived.Test.YtiphooodijbhiaaMachAtI
import Derived.Test.YtiphooodijbhiaaMachAtS
set_option linter.unusedVariables false
set_option linter.unusedSimpArgs false
namespace Go.Proofs.Ytiphooodijbhiaa
open Go.RowKit

theorem taken_at {l : List Nat} {n' s t : Nat} (h : GoodM l n' s t) {k : Int} (hk : okAt (castM l) s t k = true) : ∃ j : Nat, k = j ∧ j ≤ 1000000 ∧ atV (castM l) s t k = afterN l s j ∧ takesV (castM l) s t k = (afterN l s j &&& t != 0) := by
  have h2 := hk
  unfold okAt at h2
  rw [Bool.and_eq_true, decide_eq_true_iff] at h2
  obtain ⟨j, rfl⟩ := Int.eq_ofNat_of_zero_le h2.2.1
  refine ⟨j, rfl, by omega, ?_, ?_⟩
  · unfold atV; rw [hk, natsM_cast]; rfl
  · unfold takesV fM; rw [hk, natsM_cast]; rfl
theorem okAt_good {zs : List Int} {b e k : Int} (h : okAt zs b e k = true) : ∃ l n s t, zs = castM l ∧ zs.length = n ∧ b = (s : Nat) ∧ e = (t : Nat) ∧ GoodM l n s t := by
  unfold okAt at h
  rw [Bool.and_eq_true] at h
  exact okM_good h.1
theorem at_small {l : List Nat} {n' s t : Nat} (h : GoodM l n' s t) (j : Nat) : afterN l s j < 2 ^ 5 := Nat.lt_of_lt_of_le (after_lt h.good h.starts j) (Nat.pow_le_pow_right (by decide) h.le)
theorem ends_small {l : List Nat} {n' s t : Nat} (h : GoodM l n' s t) : t < 2 ^ 5 := Nat.lt_of_lt_of_le h.ends (Nat.pow_le_pow_right (by decide) h.le)

theorem at_next {l : List Nat} {n' s t : Nat} (h : GoodM l n' s t) (j : Nat) : okAt (castM l) s t ((j : Int) + 1) = true → atV (castM l) s t ((j : Int) + 1) = stepN l (afterN l s j) l.length := fun hk => by
  obtain ⟨i, hi, _, e, _⟩ := taken_at h hk
  obtain rfl : i = j + 1 := by omega
  rw [e, after_step]; rfl
theorem at_first {l : List Nat} {n' s t : Nat} (h : GoodM l n' s t) (j : Nat) : j = 0 → afterN l s j = s := fun e => by subst e; rfl
theorem shift_bit (A i : Nat) : ((A : Int) / 2 ^ i).tmod 2 = if A.testBit i then 1 else 0 := by
  have e : ((A : Int) / 2 ^ i) = ((A / 2 ^ i : Nat) : Int) := by rw [pow_cast]; rfl
  rw [e, Int.tmod_eq_emod_of_nonneg (Int.natCast_nonneg _), Nat.testBit_eq_decide_div_mod_eq]
  by_cases h : A / 2 ^ i % 2 = 1
  · rw [decide_eq_true h, if_pos rfl]; omega
  · rw [decide_eq_false h, if_neg (by decide)]; omega

set_option maxRecDepth 100000 in
set_option maxHeartbeats 4000000 in
theorem pMachAt (a : Option Addr) (n c : Nat) (zs : List Int) (w : World) (hr : IsRow .u8 w a n c zs) :
    Calls Try.prog 4 #[.slice a n c] w fun e w' => e = .returned (.bool true) ∧ Below w.heap.size w w' := by
  by_cases hn : n ≤ 1048576
  · have hB := Lib.hid hr.bytes
    have hC := Lib.hid hr.cap
    clear hr
    go_enter Try.func4, Try.ntmps4
    go_wp2_with fail
    refine (drawMachAt a n c _ hB.out hn hC.out).mono ?_
    rintro e1 w1 ⟨a', m, c', ys, x, y, k, rfl, hrd, hm12, hk, hb1⟩
    have HB := Lib.hid hb1
    have RM := Lib.hid hrd
    have BX1 := Lib.hid (boxM_start a' m c' x y w1 25)
    clear hb1 hrd
    have p0 := BX1.out.q0
    have p1 := BX1.out.q1
    have p2 := BX1.out.q2
    go_wp2_with fail
    refine (implAt a' m c' ys x y k _ (RM.out.below BX1.out.below (Nat.le_refl _)) (by omega)).mono ?_
    rintro e1 w2 ⟨rfl, hx⟩
    have BX2 := Lib.hid (BX1.out.step hx)
    clear hx p0 p1 p2
    have p0 := BX2.out.q0
    have p1 := BX2.out.q1
    have p2 := BX2.out.q2
    go_wp2_with fail
    refine (specAt a' m c' ys x y k _ (RM.out.below BX2.out.below (Nat.le_refl _)) (by omega)).mono ?_
    rintro e1 w3 ⟨rfl, hx⟩
    have BX3 := Lib.hid (BX2.out.step hx)
    clear hx p0 p1 p2
    have p0 := BX3.out.q0
    have p1 := BX3.out.q1
    have p2 := BX3.out.q2
    cases hok : okAt ys x y k
    · generalize ((atV ys x y k : Nat) : Int) = v
      clear hok
      go_wp2
      go_ret
      exact ⟨ret_bool (by simp), (HB.out.trans (BX3.out.below.mono HB.out.size))⟩
    · obtain ⟨l, n', s, t, rfl, hlen, rfl, rfl, hg⟩ := okAt_good hok
      obtain ⟨j, rfl, hj, e1, _⟩ := taken_at hg hok
      have HN := Lib.hid (implAt a' m c' (castM l) s t ((j : Int) + 1))
      have hnx := at_next hg j
      have hz := at_first hg j
      rw [e1]
      have hA := at_small hg j
      have hs5 : s < 2 ^ 5 := Nat.lt_of_lt_of_le hg.starts (Nat.pow_le_pow_right (by decide) hg.le)
      obtain ⟨A, hAd⟩ : ∃ A, A = afterN l s j := ⟨_, rfl⟩
      rw [← hAd] at hA hnx hz ⊢
      obtain ⟨M, hM⟩ : ∃ M : Nat, M = atV (castM l) s t ((j : Int) + 1) := ⟨_, rfl⟩
      obtain ⟨B, hB2⟩ : ∃ B, B = okAt (castM l) s t ((j : Int) + 1) := ⟨_, rfl⟩
      rw [← hM, ← hB2] at HN hnx
      have HNx := Lib.hid hnx
      have hml : m = l.length := by have := RM.out.len; rw [castM_length] at this; exact this.symm
      have hm5 : m ≤ 5 := by have := hg.le; have := hg.good.len; omega
      have HML := Lib.hid hml
      clear hml
      have hG := hg
      clear hM hB2 hAd hok e1 hnx
      go_wp2_with fail
      refine (HN.out _ (RM.out.below BX3.out.below (Nat.le_refl _)) (by omega)).mono ?_
      rintro e1 w4 ⟨rfl, hx⟩
      have BX4 := Lib.hid (BX3.out.step hx)
      clear hx p0 p1 p2
      go_wp2
      go_loopw [12, 13] (fun u iv wr => ∃ i : Nat, i ≤ m ∧ iv = .int .i64 i ∧ u = .int .i64 (stepN l A i : Nat) ∧ BoxM a' m c' s t w1.heap.size w1 wr) (fun _ iv _ => m - (intOf iv).toNat)
      case atStart => exact ⟨0, Nat.zero_le _, rfl, rfl, BX4.out⟩
      case round =>
        obtain ⟨i, hi, rfl, rfl, hbx⟩ := hrel
        have BXr := Lib.hid hbx
        have p0 := hbx.q0
        have p1 := hbx.q1
        have p2 := hbx.q2
        clear hbx
        have hw := stepN_lt hG.good A i
        have hw5 : stepN l A i < 2 ^ 5 := Nat.lt_of_lt_of_le hw (Nat.pow_le_pow_right (by decide) hG.le)
        by_cases hlt : i < m
        · have hii : (i : Int) < (m : Int) := by omega
          have hi5 : i < 5 := by omega
          have hsb := shift_bit A i
          obtain ⟨W, hW⟩ : ∃ W, W = stepN l A i := ⟨_, rfl⟩
          have HW := Lib.hid hW
          rw [← hW] at hw5 ⊢
          clear hW hw
          have hli : l.getD i 0 < 2 ^ 5 := Nat.lt_of_lt_of_le (hG.good.lt i) (Nat.pow_le_pow_right (by decide) hG.le)
          obtain ⟨g, o, rfl, _, hc⟩ := (RM.out.below BXr.out.below (Nat.le_refl _)).cells.resolve_left (by omega)
          have c0 := hc i hlt
          rw [castM_getD] at c0
          clear hc
          cases hbit : A.testBit i
          · rw [hbit, if_neg (by decide)] at hsb
            have HN2 : Hid (stepN l A (i + 1) = W) := Lib.hid (by show (if A.testBit i then _ else _) = _; rw [hbit, if_neg (by decide)]; exact HW.out.symm)
            clear hbit
            go_wp2
            go_roundw
            case rel => exact ⟨i + 1, by omega, by go_num, by rw [HN2.out], BXr.out⟩
            case measure => simp [intOf]; omega
          · rw [hbit, if_pos rfl] at hsb
            have hor := bit_or W (l.getD i 0) (by omega) (by omega)
            obtain ⟨Y, hY⟩ : ∃ Y, Y = l.getD i 0 := ⟨_, rfl⟩
            have HN2 : Hid (stepN l A (i + 1) = W ||| Y) := Lib.hid (by show (if A.testBit i then _ else _) = _; rw [hbit, if_pos rfl, HW.out, hY])
            rw [← hY] at c0 hor hli
            clear hbit hY
            go_wp2
            go_roundw
            case rel => exact ⟨i + 1, by omega, by go_num, by rw [HN2.out], BXr.out⟩
            case measure => simp [intOf]; omega
        · obtain rfl : i = m := by omega
          have hfin : B = true → (M : Int) = (stepN l A i : Nat) := fun h => by rw [HNx.out h, HML.out]
          clear hw hw5
          obtain ⟨W, hW⟩ : ∃ W, W = stepN l A i := ⟨_, rfl⟩
          rw [← hW] at hfin ⊢
          have HE := Lib.hid (HB.out.trans (BXr.out.below.mono HB.out.size))
          clear hW HNx
          cases B
          all_goals
            by_cases hj0 : j = 0
            all_goals
              have hz2 := hz
              first
                | (subst hj0
                   rw [hz rfl]
                   first
                     | (rw [hfin rfl]; go_wp2; go_ret; exact ⟨ret_bool (by simp), HE.out⟩)
                     | (go_wp2; go_ret; exact ⟨ret_bool (by simp), HE.out⟩))
                | (have hjp : (0 : Int) < (j : Int) := by omega
                   first
                     | (rw [hfin rfl]; go_wp2; go_ret; exact ⟨ret_bool (by simp), HE.out⟩)
                     | (go_wp2; go_ret; exact ⟨ret_bool (by simp), HE.out⟩))
  · have hd : (1048576 : Int) < (n : Int) := by omega
    go_enter Try.func4, Try.ntmps4
    go_wp2
    go_ret
    exact ⟨rfl, Below.refl _ _⟩

end Go.Proofs.Ytiphooodijbhiaa
