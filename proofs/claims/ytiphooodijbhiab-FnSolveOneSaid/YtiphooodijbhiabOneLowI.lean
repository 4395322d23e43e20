/-
  The walks of count, of table[bool], and of SolveOne, of the program.
-/
import Derived.Test.YtiphooodijbhiabTableI
set_option linter.unusedVariables false
set_option linter.unusedSimpArgs false
namespace Go.Proofs.Ytiphooodijbhiab
open Go.RowKit

set_option maxRecDepth 100000 in
set_option maxHeartbeats 2000000 in
theorem count_any (a : Option Addr) (n c : Nat) (h : Nat → Bool) (w : World) (hr : Reads w a n (part h 0 n)) (hn : n ≤ 5000) :
    Calls Try.prog 77 #[.slice a n c, .func (.func 78) #[] #[]] w fun e w' => e = .returned (.int .i64 (countF h n)) ∧ Below w.heap.size w w' := by
  have HR := Lib.hid hr
  clear hr
  go_enter Try.func77, Try.ntmps77
  go_wp2
  go_loopw [5, 10] (fun v i wr => ∃ k : Nat, k ≤ n ∧ i = .int .i64 k ∧ v = .int .i64 (countF h k) ∧ Below w.heap.size w wr) (fun _ i _ => n - (intOf i).toNat)
  case atStart => exact ⟨0, Nat.zero_le _, rfl, rfl, Below.refl _ _⟩
  case round =>
    obtain ⟨k, hk, rfl, rfl, hl⟩ := hrel
    have hcl := countF_le h k
    by_cases hlt : k < n
    · obtain ⟨g, o, rfl, _, hcells⟩ := (HR.out.below hl (Nat.le_refl _)).cells.resolve_left (by omega)
      have c0 := hcells k hlt
      rw [part_getD h 0 n k hlt, Nat.zero_add] at c0
      have hE : ∀ args w, (callFunc 78 args).run Try.prog w = .ok (.enter 78 args) w := fun _ _ => rfl
      have HL := Lib.hid hl
      have hki : (k : Int) < (n : Int) := by omega
      clear hl hcells
      obtain ⟨m, hm⟩ : ∃ m, m = countF h k := ⟨_, rfl⟩
      rw [← hm] at hcl ⊢
      cases hv : h k
      · rw [hv] at c0
        have HS : Hid (countF h (k + 1) = m) := Lib.hid (by rw [countF_off hv, hm])
        clear hv hm
        go_wp2_with fail
        refine (isTrue_call false _).mono ?_
        rintro e w3 ⟨rfl, hb3⟩
        have HL3 := Lib.hid (below_step HL.out hb3)
        clear hb3 c0
        go_wp2
        go_roundw
        case rel => exact ⟨k + 1, by omega, by go_num, by rw [HS.out], HL3.out⟩
        case measure => simp [intOf]; omega
      · rw [hv] at c0
        have HS : Hid (countF h (k + 1) = m + 1) := Lib.hid (by rw [countF_on hv, hm])
        clear hv hm
        go_wp2_with fail
        refine (isTrue_call true _).mono ?_
        rintro e w3 ⟨rfl, hb3⟩
        have HL3 := Lib.hid (below_step HL.out hb3)
        clear hb3 c0
        go_wp2
        go_roundw
        case rel => exact ⟨k + 1, by omega, by go_num, by rw [HS.out]; go_num, HL3.out⟩
        case measure => simp [intOf]; omega
    · obtain rfl : k = n := by omega
      have HL := Lib.hid hl
      clear hl
      go_wp2
      go_ret
      exact ⟨rfl, HL.out⟩

set_option maxRecDepth 100000 in
set_option maxHeartbeats 2000000 in
theorem implSolveOne (s t : ByteArray) (m : Int) (w : World) (hs : s.size ≤ 1048576) (ht : t.size ≤ 1048576) (hL : LibAt m w) :
    Calls Try.prog 38 #[.string s, .string t] w fun e w' => e = .returned (.bool (oneW s t)) ∧ Below w.heap.size w w' := by
  go_enter Try.func38, Try.ntmps38
  go_wp2_with fail
  refine (equation_any s t m _ hs ht hL).mono ?_
  rintro e w1 ⟨⟨T, R, T2, R2, rfl, h1⟩, hb1⟩
  have HB1 := Lib.hid (hb1.alloc hb1.size (.cells #[.string T, .string R, .string T2, .string R2] 83))
  obtain ⟨q0, q1, q2, q3⟩ := equBox_new T R T2 R2 83 w1
  cases hp : (smallS s && smallS t)
  · have HO : Hid (oneW s t = false) := Lib.hid (by unfold oneW; rw [hp]; rfl)
    clear hp h1 hb1
    go_wp2
    go_ret
    exact ⟨ret_bool HO.out.symm, HB1.out⟩
  · have HO : Hid (oneW s t = oneV (fS s) (fS t)) := Lib.hid (by unfold oneW; rw [hp]; rfl)
    rw [Bool.and_eq_true] at hp
    have hsm := h1 hp.1 hp.2
    have hcall := fun W => tells_has hsm.1.parts 0 W (by omega)
    cases h0 : fS s 0
    · rw [h0] at hcall
      have HV : Hid (oneV (fS s) (fS t) = true) := Lib.hid (by unfold oneV; rw [h0]; rfl)
      clear hp h1 hb1 hsm h0
      go_wp2_with fail
      refine (hcall _).mono ?_
      rintro e w2 ⟨rfl, hb2⟩
      have HB2 := Lib.hid (below_step HB1.out hb2)
      clear hb2 hcall
      go_wp2
      go_ret
      exact ⟨ret_bool (HO.out.trans HV.out).symm, HB2.out⟩
    · rw [h0] at hcall
      have HL := Lib.hid (fun W => least_any (fS s) (fS t) T R T2 R2 16 W hsm.1.parts hsm.2.parts (by omega))
      have hV : oneV (fS s) (fS t) = decide (countF (lowF (fS s) (fS t)) 16 = 16) := by unfold oneV; rw [h0]; rfl
      have hle := countF_le (lowF (fS s) (fS t)) 16
      have HC := Lib.hid (fun a c W h => count_any a 16 c (lowF (fS s) (fS t)) W h (by omega))
      obtain ⟨k, hk⟩ : ∃ k, k = countF (lowF (fS s) (fS t)) 16 := ⟨_, rfl⟩
      rw [← hk] at hV hle HC
      have HV := Lib.hid hV
      clear hp h1 hb1 hsm h0 hk hV
      go_wp2_with fail
      refine (hcall _).mono ?_
      rintro e w2 ⟨rfl, hb2⟩
      have HB2 := Lib.hid (below_step HB1.out hb2)
      have x0 := (hb2.cell (p := ⟨w1.heap.size, 0, none⟩) (lt_of_some q0)).trans q0
      have x1 := (hb2.cell (p := ⟨w1.heap.size, 1, none⟩) (lt_of_some q1)).trans q1
      have x2 := (hb2.cell (p := ⟨w1.heap.size, 2, none⟩) (lt_of_some q2)).trans q2
      have x3 := (hb2.cell (p := ⟨w1.heap.size, 3, none⟩) (lt_of_some q3)).trans q3
      clear hb2 hcall q0 q1 q2 q3
      go_wp2_with fail
      refine (HL.out _).mono ?_
      rintro e w3 ⟨a, c, rfl, hr, hb3⟩
      have HB3 := Lib.hid (below_step HB2.out hb3)
      have HR := Lib.hid hr
      clear hr hb3 x0 x1 x2 x3
      go_wp2_with fail
      refine (HC.out a c _ HR.out).mono ?_
      rintro e w4 ⟨rfl, hb4⟩
      have HB4 := Lib.hid (below_step HB3.out hb4)
      clear hb4
      by_cases hk : k = 16
      · subst hk
        have HV2 : Hid (oneW s t = true) := Lib.hid (by rw [HO.out, HV.out]; rfl)
        go_wp2
        go_ret
        exact ⟨ret_bool HV2.out.symm, HB4.out⟩
      · have HV2 : Hid (oneW s t = false) := Lib.hid (by rw [HO.out, HV.out, decide_eq_false hk])
        have hne : ((k : Int) == 16) = false := by rw [beq_eq_false_iff_ne]; omega
        go_wp2
        go_ret
        exact ⟨ret_bool HV2.out.symm, HB4.out⟩

end Go.Proofs.Ytiphooodijbhiab
