/-
  The walks of math/bits.OnesCount, hasOneState, and the program's MachSingle.
-/
import Derived.Test.YtiphooodijbhiaaMachAtI
namespace Go.Proofs.Ytiphooodijbhiaa
open Go.RowKit
set_option linter.unusedVariables false

/-- How many states are in a set of five. -/
def cntS (x : Nat) : Nat := x % 2 + x / 2 % 2 + x / 4 % 2 + x / 8 % 2 + x / 16 % 2
theorem cnt_one : ∀ n : Fin 32, ((cntS n.val : Int) == 1) = oneS n.val := by decide +kernel

set_option maxRecDepth 100000 in
theorem ones64_is (x : Nat) (w : World) (hx : x < 32) :
    Calls Try.prog 131 #[.int .u64 x] w fun e w' => e = .returned (.int .i64 (cntS x)) ∧ w' = w := by
  go_enter Try.func131, Try.ntmps131
  go_wp2
  go_ret
  refine ⟨ret_int ?_, rfl⟩
  obtain ⟨n, rfl⟩ : ∃ n : Fin 32, x = n.val := ⟨⟨x, hx⟩, rfl⟩
  clear hx w
  revert n
  decide +kernel

theorem ones_is (x : Nat) (w : World) (hx : x < 32) :
    Calls Try.prog 105 #[.int .u64 x] w fun e w' => e = .returned (.int .i64 (cntS x)) ∧ w' = w := by
  go_enter Try.func105, Try.ntmps105
  go_wp2_with fail
  refine (ones64_is x _ hx).mono ?_
  rintro e w1 ⟨rfl, rfl⟩
  go_wp2
  go_ret
  exact ⟨rfl, rfl⟩

theorem hasOne_is (x : Nat) (w : World) (hx : x < 32) :
    Calls Try.prog 79 #[.int .i64 x] w fun e w' => e = .returned (.bool (oneS x)) ∧ w' = w := by
  have hb := cnt_one ⟨x, hx⟩
  simp only at hb
  generalize oneS x = B at hb ⊢
  go_enter Try.func79, Try.ntmps79
  go_wp2_with fail
  refine (ones_is x _ hx).mono ?_
  rintro e w1 ⟨rfl, rfl⟩
  go_wp2
  go_ret
  exact ⟨rfl, rfl⟩

set_option maxHeartbeats 1000000 in
theorem implSingle (a : Option Addr) (n c : Nat) (zs : List Int) (b e : Int) (w : World) (h : ReadsI w a n zs) (hn : n ≤ 1048576) :
    Calls Try.prog 28 #[.agg #[.slice a n c, .int .i64 b, .int .i64 e]] w fun e1 w' => e1 = .returned (.bool (singleM zs b e)) ∧ Below w.heap.size w w' := by
  have H := Lib.hid (h.alloc (.cells #[.slice a n c, .int .i64 b, .int .i64 e] 25))
  have HBX := Lib.hid (boxM_start a n c b e w 25)
  clear h
  cases ho : okM zs b e
  · have hv : singleM zs b e = false := by unfold singleM; rw [ho]; rfl
    rw [hv]
    clear hv
    go_enter Try.func28, Try.ntmps28
    go_wp2_with fail
    refine (machFits_is a n c zs b e _ H.out hn).mono ?_
    rw [ho]
    rintro e1 w1 ⟨rfl, hb⟩
    have HB := Lib.hid (boxed hb)
    clear hb ho
    go_wp2
    go_ret
    exact ⟨rfl, HB.out⟩
  · obtain ⟨l, n', s, t, rfl, hl, rfl, rfl, hg⟩ := okM_good ho
    have hnn : n' = n := by rw [← hl]; exact H.out.len
    subst hnn
    have h32 : 2 ^ n' ≤ 32 := Nat.pow_le_pow_right (n := 2) (by decide) hg.le
    have hs32 : s < 32 := Nat.lt_of_lt_of_le hg.starts h32
    have HL32 : Hid (∀ i, l.getD i 0 < 32) := Lib.hid fun i => Nat.lt_of_lt_of_le (hg.good.lt i) h32
    have hll : l.length = n' := hg.good.len
    have hv : singleM (castM l) s t = (oneS s && l.all oneS) := by unfold singleM; rw [ho, natsM_cast, toNat_cast, Bool.true_and]
    rw [hv]
    have hn5 := hg.le
    have HBAD : Hid (∀ i, i < n' → oneS (l.getD i 0) = false → l.all oneS = false) := Lib.hid fun i hi hh => single_bad (by rw [hll]; exact hi) hh
    have HALL : Hid ((∀ i, i < n' → oneS (l.getD i 0) = true) → l.all oneS = true) := Lib.hid fun hh => single_all (fun i hi => hh i (by rw [← hll]; exact hi))
    generalize l.all oneS = AL at HBAD HALL ⊢
    clear hv hg h32 hll hl
    cases h1 : oneS s
    · go_enter Try.func28, Try.ntmps28
      go_wp2_with fail
      refine (machFits_is a n' c (castM l) s t _ H.out hn).mono ?_
      rw [ho]
      rintro e1 w1 ⟨rfl, hb⟩
      have HB1 := Lib.hid (HBX.out.step hb)
      have q1 := HB1.out.q1
      clear hb ho
      go_wp2_with fail
      refine (hasOne_is s _ hs32).mono ?_
      rw [h1]
      rintro e1 w2 ⟨rfl, rfl⟩
      clear h1
      go_wp2
      go_ret
      exact ⟨rfl, HB1.out.below⟩
    · go_enter Try.func28, Try.ntmps28
      go_wp2_with fail
      refine (machFits_is a n' c (castM l) s t _ H.out hn).mono ?_
      rw [ho]
      rintro e1 w1 ⟨rfl, hb⟩
      have HB1 := Lib.hid (HBX.out.step hb)
      have q1 := HB1.out.q1
      have q0 := HB1.out.q0
      have H1 := Lib.hid (H.out.below hb (Nat.le_refl _))
      clear hb ho
      go_wp2_with fail
      refine (hasOne_is s _ hs32).mono ?_
      rw [h1]
      rintro e1 w2 ⟨rfl, rfl⟩
      clear h1
      go_wp2
      go_loopw [17] (fun i wr => ∃ k : Nat, i = .int .i64 k ∧ k ≤ n' ∧ (∀ j, j < k → oneS (l.getD j 0) = true) ∧ wr = w2) (fun i _ => n' - (intOf i).toNat)
      case atStart => exact ⟨0, rfl, Nat.zero_le _, fun j hj => absurd hj (Nat.not_lt_zero _), rfl⟩
      case round =>
        obtain ⟨k, rfl, hk, hall, rfl⟩ := hrel
        have HA := Lib.hid hall
        clear hall
        by_cases hlt : k < n'
        · rcases H1.out.cells with h | ⟨g, o, rfl, hg, hc⟩
          · omega
          have x1 := hc k hlt
          rw [castM_getD] at x1
          clear hc
          have z32 := HL32.out k
          obtain ⟨z, hz⟩ : ∃ z, z = l.getD k 0 := ⟨_, rfl⟩
          rw [← hz] at x1 z32
          have b1 : (k : Int) < (n' : Int) := by omega
          have b2 : (0 : Int) ≤ (k : Int) := by omega
          cases hd2 : oneS z
          · have HN := Lib.hid (HBAD.out k hlt (by rw [← hz]; exact hd2))
            clear hz
            go_wp2_with fail
            refine (hasOne_is z _ z32).mono ?_
            rw [hd2]
            rintro e1 w2 ⟨rfl, rfl⟩
            clear hd2
            go_wp2
            go_ret
            exact ⟨by rw [HN.out]; rfl, HB1.out.below⟩
          · have HN : Hid (∀ j, j < k + 1 → oneS (l.getD j 0) = true) := Lib.hid fun j hj => by
              by_cases ej : j = k
              · rw [ej, ← hz]; exact hd2
              · exact HA.out j (by omega)
            clear hz
            go_wp2_with fail
            refine (hasOne_is z _ z32).mono ?_
            rw [hd2]
            rintro e1 w2 ⟨rfl, rfl⟩
            clear hd2
            go_wp2
            go_roundw
            case rel => exact ⟨k + 1, by go_num, by omega, HN.out, trivial⟩
            case measure => simp [intOf]; omega
        · have HE := Lib.hid (HALL.out fun i hi => HA.out i (by omega))
          go_wp2
          go_ret
          exact ⟨by rw [HE.out]; rfl, HB1.out.below⟩

end Go.Proofs.Ytiphooodijbhiaa
