/-
  The walk of the law FnSumDouble.
-/
import Derived.Test.YtonphojjlilcnaaPSumBase
import Derived.Test.YtonphojjlilcnaaSpecDouble
import Derived.Test.YtonphojjlilcnaaSumDoubleI
set_option linter.unusedVariables false
set_option linter.unusedSimpArgs false
namespace Go.Proofs.Ytonphojjlilcnaa
open Go.RowKit

theorem law_less (n x : Nat) (h : x ≤ n) : n + 1 - (intOf (.int .i64 ((x : Int) + 1))).toNat < n + 1 - (intOf (.int .i64 x)).toNat := by
  show n + 1 - ((x : Int) + 1).toNat < n + 1 - ((x : Int)).toNat
  omega
/-- Is n a sum of x and another number? -/
def dblT (f : Nat → Bool) (n x : Nat) : Bool := f x && f (n - x)
theorem dbl_step {f : Nat → Bool} {n x : Nat} {b c : Bool} (h : someF (dblT f n) 0 x = b) (h2 : dblT f n x = c) : someF (dblT f n) 0 (x + 1) = (b || c) := by
  unfold someF; rw [h, Nat.zero_add, h2]
theorem dbl_done {f : Nat → Bool} {n x : Nat} (h : 2 * x = n ∨ 2 * x = n + 1) : someF (dblT f n) 0 x = sumG true f f n := by
  apply bool_iff
  rw [someF_iff, sumG_iff]
  constructor
  · rintro ⟨i, hi, h1⟩
    rw [Nat.zero_add] at h1
    unfold dblT at h1
    rw [Bool.and_eq_true] at h1
    exact ⟨i, n - i, by omega, h1.1, h1.2, fun _ => by omega⟩
  · rintro ⟨u, v, e, h1, h2, h3⟩
    have h3 := h3 rfl
    rcases Nat.lt_or_ge u v with k | k
    · refine ⟨u, by omega, ?_⟩
      rw [Nat.zero_add]; unfold dblT
      rw [Bool.and_eq_true, show n - u = v from by omega]; exact ⟨h1, h2⟩
    · refine ⟨v, by omega, ?_⟩
      rw [Nat.zero_add]; unfold dblT
      rw [Bool.and_eq_true, show n - v = u from by omega]; exact ⟨h2, h1⟩

set_option maxRecDepth 100000 in
set_option maxHeartbeats 4000000 in
theorem pSumDouble (a : Option Addr) (n c : Nat) (zs : List Int) (w : World) (hr : IsRow .u8 w a n c zs) (m : Int) (hg : 0 < w.heap.size) (hm : w.cell? ⟨0, 0, none⟩ = some (.int .i64 m)) :
    Calls Try.prog 5 #[.slice a n c] w fun e w' => e = .returned (.bool true) ∧ Below w.heap.size w w' := by
  by_cases hn : n ≤ 1048576
  · have hL : LibAt m w := ⟨hg, hm⟩
    clear hg hm
    have hB := Lib.hid hr.bytes
    have hC := Lib.hid hr.cap
    clear hr
    go_enter Try.func5, Try.ntmps5
    go_wp2_with fail
    refine (drawSumDouble a n c _ hB.out hn hC.out).mono ?_
    rintro e w1 ⟨s, rfl, hs, hb1⟩
    have HB1 := Lib.hid hb1
    have HL1 := Lib.hid (hL.below hb1)
    clear hb1
    go_wp2_with fail
    refine (implDouble s m _ (by omega) HL1.out).mono ?_
    rintro e w2 ⟨⟨T, b, rfl, hm2⟩, hx2⟩
    have HB2 := Lib.hid (below_step HB1.out hx2)
    have HL2 := Lib.hid (HL1.out.below hx2)
    have HM := Lib.hid hm2
    clear hx2 hm2
    go_wp2_with fail
    refine (specDouble s _ (by omega)).mono ?_
    rintro e w3 ⟨⟨U, c, rfl, hm3⟩, hx3⟩
    have HB3 := Lib.hid (below_step HB2.out hx3)
    have HL3 := Lib.hid (HL2.out.below hx3)
    obtain ⟨rfl, rfl⟩ := makeIs_unique HM.out hm3
    clear hx3 hm3
    cases b
    · go_wp2
      go_ret
      exact ⟨ret_bool (by simp), HB3.out⟩
    · obtain ⟨hok, hT⟩ := makeIs_told HM.out
      have HT := Lib.hid hT
      have HO := Lib.hid hT.told.ok
      have HF := Lib.hid hT.told.set
      have hTs := told_size hT.told.ok
      have HS1 := Lib.hid (small_ok hok)
      clear HM hT
      go_wp2
      go_loopw [9] (fun i wr => ∃ z : Nat, i = .int .i64 z ∧ z ≤ 61 ∧ Below w.heap.size w wr ∧ LibAt m wr) (fun i _ => 62 - (intOf i).toNat)
      case atStart => exact ⟨0, rfl, by omega, HB3.out, HL3.out⟩
      case round =>
        obtain ⟨z, rfl, hz, hbz, hLz⟩ := hrel
        have HB0 := Lib.hid hbz
        have HL0 := Lib.hid hLz
        clear hbz hLz
        by_cases hlt : z ≤ 60
        · have hltI : (z : Int) ≤ 60 := by omega
          go_wp2
          go_loopw [10, 11] (fun sv i wr => ∃ x : Nat, i = .int .i64 x ∧ 2 * x ≤ z + 1 ∧ sv = .bool (someF (dblT (fS s) z) 0 x) ∧ Below w.heap.size w wr ∧ LibAt m wr) (fun _ i _ => z + 1 - (intOf i).toNat)
          case atStart => exact ⟨0, rfl, by omega, rfl, HB0.out, HL0.out⟩
          case round =>
            obtain ⟨x, rfl, hx, rfl, hbx, hLx⟩ := hrel
            have HB5 := Lib.hid hbx
            have HL5 := Lib.hid hLx
            clear hbx hLx HB0 HL0
            by_cases hxz : 2 * x < z
            · have hxI : (2 : Int) * (x : Int) < (z : Int) := by omega
              obtain ⟨y, hy⟩ : ∃ y, y = z - x := ⟨_, rfl⟩
              have hyi : (z : Int) - (x : Int) = (y : Int) := by omega
              have hy2 : y ≤ z := by omega
              have HY := Lib.hid hy
              clear hy
              cases hso : someF (dblT (fS s) z) 0 x
              · have ef := ask_set HS1.out x m
                cases hf : fS s x
                · have HS := Lib.hid (dbl_step hso (show dblT (fS s) z x = false by unfold dblT; rw [hf]; rfl))
                  rw [hf] at ef
                  clear hso hf
                  go_wp2_with fail
                  refine (ef _ (by omega) (by omega) HL5.out).mono ?_
                  rintro e w6 ⟨rfl, hx6⟩
                  have HB6 := Lib.hid (below_step HB5.out hx6)
                  have HL6 := Lib.hid (HL5.out.below hx6)
                  clear hx6 ef
                  go_wp2
                  go_roundw
                  case rel => exact ⟨x + 1, by go_num, by omega, by rw [HS.out]; rfl, HB6.out, HL6.out⟩
                  case measure => exact law_less z x (by omega)
                · have eg := ask_set HS1.out y m
                  obtain ⟨b, hb⟩ : ∃ b, fS s y = b := ⟨_, rfl⟩
                  have HS := Lib.hid (dbl_step hso (show dblT (fS s) z x = b by unfold dblT; rw [← HY.out, hf, hb]; simp))
                  rw [hf] at ef
                  rw [hb] at eg
                  clear hso hf hb
                  go_wp2_with fail
                  refine (ef _ (by omega) (by omega) HL5.out).mono ?_
                  rintro e w6 ⟨rfl, hx6⟩
                  have HB6 := Lib.hid (below_step HB5.out hx6)
                  have HL6 := Lib.hid (HL5.out.below hx6)
                  clear hx6 ef
                  go_wp2_with fail
                  refine (eg _ (by omega) (by omega) HL6.out).mono ?_
                  rintro e w7 ⟨rfl, hx7⟩
                  have HB7 := Lib.hid (below_step HB6.out hx7)
                  have HL7 := Lib.hid (HL6.out.below hx7)
                  clear hx7 eg
                  go_wp2
                  go_roundw
                  case rel => exact ⟨x + 1, by go_num, by omega, by rw [HS.out]; rfl, HB7.out, HL7.out⟩
                  case measure => exact law_less z x (by omega)
              · have HS : Hid (someF (dblT (fS s) z) 0 (x + 1) = true) := Lib.hid (dbl_step hso rfl)
                clear hso
                go_wp2
                go_roundw
                case rel => exact ⟨x + 1, by go_num, by omega, by rw [HS.out], HB5.out, HL5.out⟩
                case measure => exact law_less z x (by omega)
            · have hxI : ¬ (2 : Int) * (x : Int) < (z : Int) := by omega
              obtain ⟨b, hb⟩ : ∃ b, someF (dblT (fS s) z) 0 x = b := ⟨_, rfl⟩
              have eT := ask_set HO.out z m
              have HZ : fS T z = b := by rw [HF.out, ← hb]; exact (dbl_done (by omega)).symm
              rw [HZ] at eT
              rw [hb]
              clear hb HZ
              go_wp2_with fail
              refine (eT _ (by omega) (by omega) HL5.out).mono ?_
              rintro e w6 ⟨rfl, hx6⟩
              have HB6 := Lib.hid (below_step HB5.out hx6)
              have HL6 := Lib.hid (HL5.out.below hx6)
              clear hx6 eT
              cases b
              all_goals
                go_wp2
                go_roundw
                case rel => exact ⟨z + 1, by go_num, by omega, HB6.out, HL6.out⟩
                case measure => simp [intOf]; omega
        · obtain rfl : z = 61 := by omega
          go_wp2
          go_ret
          exact ⟨rfl, HB0.out⟩
  · have hd : (1048576 : Int) < (n : Int) := by omega
    go_enter Try.func5, Try.ntmps5
    go_wp2
    go_ret
    exact ⟨rfl, Below.refl _ _⟩
end Go.Proofs.Ytonphojjlilcnaa
