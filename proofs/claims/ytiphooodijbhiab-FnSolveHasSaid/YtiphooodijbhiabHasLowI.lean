/-
  The walk of SolveHas, of the program.
-/
import Derived.Test.YtiphooodijbhiabTableI
set_option linter.unusedVariables false
set_option linter.unusedSimpArgs false
namespace Go.Proofs.Ytiphooodijbhiab
open Go.RowKit

set_option maxRecDepth 100000 in
set_option maxHeartbeats 2000000 in
theorem implSolveHas (s t : ByteArray) (n m : Int) (w : World) (hs : s.size ≤ 1048576) (ht : t.size ≤ 1048576) (hL : LibAt m w) :
    Calls Try.prog 31 #[.string s, .string t, .int .i64 n] w fun e w' => e = .returned (.bool (hasW s t n)) ∧ Below w.heap.size w w' := by
  go_enter Try.func31, Try.ntmps31
  go_wp2_with fail
  refine (equation_any s t m _ hs ht hL).mono ?_
  rintro e w1 ⟨⟨T, R, T2, R2, rfl, h1⟩, hb1⟩
  have HB1 := Lib.hid (hb1.alloc hb1.size (.cells #[.string T, .string R, .string T2, .string R2] 83))
  obtain ⟨q0, q1, q2, q3⟩ := equBox_new T R T2 R2 83 w1
  cases hp : (smallS s && smallS t)
  · have HO : Hid (hasW s t n = false) := Lib.hid (by unfold hasW; rw [hp]; rfl)
    clear hp h1 hb1
    go_wp2
    go_ret
    exact ⟨ret_bool HO.out.symm, HB1.out⟩
  · rcases inR_cases n 0 500 with ⟨hi, h0, h5⟩ | ⟨hi, ho⟩
    · obtain ⟨k, rfl⟩ := Int.eq_ofNat_of_zero_le h0
      have HO : Hid (hasW s t k = lowF (fS s) (fS t) k) := Lib.hid (by unfold hasW; rw [hp, hi]; rfl)
      have HI := Lib.hid hi
      have hk5 : k ≤ 500 := by omega
      rw [Bool.and_eq_true] at hp
      have hsm := h1 hp.1 hp.2
      have HL := Lib.hid (fun W => least_any (fS s) (fS t) T R T2 R2 (k + 1) W hsm.1.parts hsm.2.parts (by omega))
      clear hp h1 hb1 hi hsm
      go_wp2_with fail
      refine (between_in (k : Int) 0 500 _ HI.out).mono ?_
      rintro e w2 ⟨rfl, rfl⟩
      go_wp2_with fail
      refine (HL.out _).mono ?_
      rintro e w3 ⟨a, c, rfl, hr, hb3⟩
      have HB3 := Lib.hid (below_step HB1.out hb3)
      obtain ⟨g, o, rfl, _, hc⟩ := hr.cells.resolve_left (by omega)
      have c0 := hc k (by omega)
      rw [part_getD _ _ _ _ (by omega), Nat.zero_add] at c0
      clear hr hb3 hc
      go_wp2
      go_ret
      exact ⟨ret_bool HO.out.symm, HB3.out⟩
    · have HO : Hid (hasW s t n = false) := Lib.hid (by unfold hasW; rw [hi, Bool.and_false]; rfl)
      have HI := Lib.hid hi
      clear hp h1 hb1 hi
      go_wp2_with fail
      refine (between_out n 0 500 _ HI.out).mono ?_
      rintro e w2 ⟨rfl, rfl⟩
      go_wp2
      go_ret
      exact ⟨ret_bool HO.out.symm, HB1.out⟩

end Go.Proofs.Ytiphooodijbhiab
