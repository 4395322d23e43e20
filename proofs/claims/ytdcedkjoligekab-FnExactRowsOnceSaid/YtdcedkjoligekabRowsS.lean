/-
  The walks of the model's l3Rows and l3Multiple.
-/
import Derived.Test.YtdcedkjoligekabRowS
import Derived.Test.YtdcedkjoligekabLawRows
import Derived.Test.YtdcedkjoligekabShareMath
namespace Go.Proofs.Ytdcedkjoligekab
open Go.RowKit
set_option linter.unusedVariables false

theorem goodRows_badS {rs : List (List Int)} {k : Nat} (hk : k < rs.length) (h : goodRow (rs.getD k []) = false) : goodRows rs = false := by
  unfold goodRows
  have : rs.all goodRow = false := by
    rw [Bool.eq_false_iff]
    intro h2
    rw [List.all_eq_true] at h2
    have := h2 _ (List.getElem_mem hk)
    rw [List.getD_eq_getElem?_getD, List.getElem?_eq_getElem hk] at h
    rw [show (some rs[k]).getD [] = rs[k] from rfl, this] at h
    cases h
  rw [this, Bool.and_false]
theorem goodRows_allS {rs : List (List Int)} (h : ∀ i, i < rs.length → goodRow (rs.getD i []) = true) : goodRows rs = decide (rs.length ≤ 20) := by
  unfold goodRows
  have : rs.all goodRow = true := by
    rw [List.all_eq_true]
    intro z hz
    obtain ⟨i, hi, rfl⟩ := List.getElem_of_mem hz
    have := h i hi
    rw [List.getD_eq_getElem?_getD, List.getElem?_eq_getElem hi] at this
    exact this
  rw [this, Bool.and_true]
theorem goodRows_one {rs : List (List Int)} (h : goodRows rs = true) {k : Nat} (hk : k < rs.length) : goodRow (rs.getD k []) = true := by
  unfold goodRows at h
  simp only [Bool.and_eq_true, List.all_eq_true] at h
  rw [List.getD_eq_getElem?_getD, List.getElem?_eq_getElem hk]
  exact h.2 _ (List.getElem_mem hk)

set_option maxRecDepth 100000 in
set_option maxHeartbeats 1000000 in
theorem l3Rows_is (a : Option Addr) (n c : Nat) (rs : List (List Int)) (w : World) (h : ReadsR w a n rs) (hn : n ≤ 1048576) (hs : Short rs) :
    Calls Try.prog 36 #[.slice a n c] w fun e w' => e = .returned (.bool (goodRows rs)) ∧ w = w' := by
  have H := Lib.hid h
  have HS := Lib.hid hs
  have hlen := h.len
  clear h hs
  go_enter Try.func36, Try.ntmps36
  go_wp2
  go_loop [3] (fun i => ∃ k : Nat, k ≤ n ∧ i = .int .i64 k ∧ ∀ j, j < k → goodRow (rs.getD j []) = true) (fun i => n - (intOf i).toNat)
  case atStart => exact ⟨0, Nat.zero_le _, rfl, fun j hj => absurd hj (Nat.not_lt_zero _)⟩
  case round =>
    obtain ⟨k, hk, rfl, hall⟩ := hrel
    have HA := Lib.hid hall
    clear hall
    by_cases hlt : k < n
    · obtain ⟨g1, o1, rfl, hg1, b1, d1, q1, r1⟩ := H.out.row hlt
      have hd := HS.out k (by rw [hlen]; exact hlt)
      obtain ⟨d, hde⟩ : ∃ d, d = (rs.getD k []).length := ⟨_, rfl⟩
      obtain ⟨z, hz⟩ : ∃ z, z = rs.getD k [] := ⟨_, rfl⟩
      rw [← hde] at q1 hd r1
      rw [← hz] at r1
      have R1 := Lib.hid r1
      have HZ := Lib.hid hz
      have f1 : (k : Int) < (n : Int) := by omega
      have f2 : (0 : Int) ≤ (k : Int) := by omega
      clear hde r1 hz
      go_wp2_with fail
      refine (l3Row_is b1 d d1 z _ R1.out hd).mono ?_
      rintro e w3 ⟨rfl, rfl⟩
      cases hg : goodRow z
      · have HG := Lib.hid (goodRows_badS (k := k) (by rw [hlen]; exact hlt) (by rw [← HZ.out]; exact hg))
        clear hg
        go_wp2
        go_ret
        exact ⟨by rw [HG.out]; rfl, rfl⟩
      · have HG := Lib.hid hg
        clear hg
        go_wp2
        go_round
        case rel =>
          refine ⟨k + 1, by omega, by go_num, fun j hj => ?_⟩
          rcases Nat.lt_or_ge j k with a | a
          · exact HA.out j a
          · obtain rfl : j = k := by omega
            rw [← HZ.out]; exact HG.out
        case measure => simp [intOf]; omega
    · obtain rfl : k = n := by omega
      have HG : Hid (goodRows rs = decide ((k : Int) ≤ 20)) := Lib.hid (by
        rw [goodRows_allS (fun i hi => HA.out i (by omega)), hlen]
        exact decide_eq_decide.2 (by omega))
      go_wp2
      go_ret
      exact ⟨by rw [HG.out]; rfl, rfl⟩

/-- A row behind an index, in rows that are good. -/
theorem ReadsR.rw {w : World} {a : Option Addr} {n : Nat} {rs : List (List Int)} (h : ReadsR w a n rs) (hg : goodRows rs = true) {k : Nat} (hk : k < n) :
    ∃ g o g' o' c' b s, a = some ⟨g, o, none⟩ ∧ g < w.heap.size ∧ g' < w.heap.size ∧ w.cell? ⟨g, o + k, none⟩ = some (.slice (some ⟨g', o', none⟩) 2 c') ∧ w.cell? ⟨g', o', none⟩ = some (.int .i64 (b : Nat)) ∧ w.cell? ⟨g', o' + 1, none⟩ = some (.int .i64 (s : Nat)) ∧
      (theRows rs).getD k default = ⟨b, s⟩ ∧ b ≤ 59 ∧ s ≤ 60 := by
  have hlen := h.len
  obtain ⟨g, o, ha, hg1, a', c', q1, r1⟩ := h.row hk
  have hrow := goodRows_one hg (k := k) (by omega)
  obtain ⟨e, f1, f2⟩ := goodRow_parts hrow
  have e2 : (rs.getD k []).length = 2 := by rw [e]; rfl
  rw [e2] at q1 r1
  rw [e] at r1
  obtain ⟨g', o', rfl, hg', k0, k1⟩ := IsRw.cells (b := (theRow (rs.getD k [])).b) (s := (theRow (rs.getD k [])).s) r1
  refine ⟨g, o, g', o', c', _, _, ha, hg1, hg', q1, k0, k1, ?_, f1, f2⟩
  unfold theRows
  rw [List.getD_eq_getElem?_getD, List.getElem?_map, List.getD_eq_getElem?_getD, List.getElem?_eq_getElem (by omega)]; rfl

theorem lcmS_eq (a b : Nat) : a / Nat.gcd a b * b = Nat.lcm a b := by
  unfold Nat.lcm
  rw [Nat.div_mul_right_comm (Nat.gcd_dvd_left a b)]

/-- What l3Multiple answers. -/
def multS (l : List Rw) : Nat := if lcmAll l ≤ 1000000 then lcmAll l else 0

set_option maxRecDepth 100000 in
set_option maxHeartbeats 2000000 in
theorem l3Multiple_is (a : Option Addr) (n c : Nat) (rs : List (List Int)) (w : World) (h : ReadsR w a n rs) (hg : goodRows rs = true) (hn : n ≤ 1048576) :
    Calls Try.prog 37 #[.slice a n c] w fun e w' => e = .returned (.int .i64 (multS (theRows rs) : Nat)) ∧ Below w.heap.size w w' := by
  obtain ⟨l, hl⟩ : ∃ l, l = theRows rs := ⟨_, rfl⟩
  have hlen : l.length = n := by rw [hl]; unfold theRows; rw [List.length_map]; exact h.len
  have H := Lib.hid h
  have HG := Lib.hid hg
  rw [← hl]
  have HL := Lib.hid hl
  clear h hl hg
  go_enter Try.func37, Try.ntmps37
  go_wp2
  go_loopw [3, 4] (fun m i wr => ∃ k M : Nat, k ≤ n ∧ i = .int .i64 k ∧ m = .int .i64 M ∧ M = lcmAll (l.take k) ∧ 0 < M ∧ M ≤ 1000000 ∧ Below w.heap.size w wr) (fun _ i _ => n - (intOf i).toNat)
  case atStart => exact ⟨0, 1, Nat.zero_le _, rfl, rfl, rfl, by decide, by decide, Below.refl _ _⟩
  case round =>
    obtain ⟨k, M, hk, rfl, rfl, hM, hM0, hM1, hB⟩ := hrel
    have HM := Lib.hid hM
    have HB := Lib.hid hB
    clear hM
    by_cases hlt : k < n
    · obtain ⟨g, o, g', o', c', b, s, rfl, hg1, hg2, q0, q1, q2, hrow, hb59, hs60⟩ := (H.out.below hB (Nat.le_refl _)).rw HG.out hlt
      rw [← HL.out] at hrow
      have HT := Lib.hid (lcmAll_take l k (by omega))
      have f1 : (k : Int) < (n : Int) := by omega
      have f2 : (0 : Int) ≤ (k : Int) := by omega
      clear hB
      by_cases h0 : 0 < s
      · have f3 : (0 : Int) < (s : Int) := by omega
        obtain ⟨M', hM'⟩ : ∃ M', M' = Nat.lcm M s := ⟨_, rfl⟩
        have HT2 : Hid (M' = lcmAll (l.take (k + 1))) := Lib.hid (by rw [HT.out, hrow, if_pos h0, ← HM.out, hM'])
        obtain ⟨d, hd⟩ : ∃ d, d = Nat.gcd M s := ⟨_, rfl⟩
        have hd0 : 0 < d := by rw [hd]; exact Nat.gcd_pos_of_pos_left _ hM0
        have HD : Hid (∀ w, Calls Try.prog 23 #[.int .i64 M, .int .i64 s] w fun e w' => e = .returned (.int .i64 d) ∧ w' = w) := Lib.hid (fun w => by rw [hd]; exact (divS_is M s w (by omega) (by omega)).mono fun e w' h => ⟨h.1, h.2.symm⟩)
        have HE : Hid ((M : Int) / (d : Int) * (s : Int) = (M' : Int)) := Lib.hid (by rw [hM', ← lcmS_eq, ← hd]; simp)
        have hM'0 : 0 < M' := by rw [hM']; exact lcm_pos hM0 h0
        have d0 : (d : Int) ≠ 0 := by omega
        have hE : ¬ d = 0 := by omega
        have d1 : 0 ≤ (M : Int) / (d : Int) := Int.ediv_nonneg (by omega) (by omega)
        have d2 : (M : Int) / (d : Int) ≤ 1000000 := by have := Int.ediv_le_self (b := (d : Int)) (show (0 : Int) ≤ (M : Int) from by omega); omega
        have hm60 : M' ≤ 60000000 := by
          rw [hM', ← lcmS_eq]
          calc M / Nat.gcd M s * s ≤ 1000000 * 60 := Nat.mul_le_mul (Nat.le_trans (Nat.div_le_self _ _) hM1) hs60
            _ = _ := by decide
        have d3 : 0 ≤ (M : Int) / (d : Int) * (s : Int) := Int.mul_nonneg d1 (by omega)
        have d4 : (M : Int) / (d : Int) * (s : Int) ≤ 60000000 := by rw [HE.out]; omega
        clear hrow hd hM'
        by_cases hbig : M' ≤ 1000000
        · have f4 : (M : Int) / (d : Int) * (s : Int) ≤ 1000000 := by rw [HE.out]; omega
          go_wp2
          go_quiet ((go_at_call 23; exact Calls.quiet_of_same (HD.out _)))
          go_wp2
          go_roundw
          case rel => exact ⟨k + 1, M', by omega, by go_num, by rw [HE.out], HT2.out, hM'0, hbig, below_drewN HB.out _⟩
          case measure => simp [intOf]; omega
        · have f4 : (1000000 : Int) < (M : Int) / (d : Int) * (s : Int) := by rw [HE.out]; omega
          have HR : Hid (multS l = 0) := Lib.hid (by
            unfold multS
            rw [if_neg]
            have := lcmAll_take_le l (k + 1)
            rw [← HT2.out] at this
            omega)
          go_wp2
          go_quiet ((go_at_call 23; exact Calls.quiet_of_same (HD.out _)))
          go_wp2
          go_ret
          exact ⟨by rw [HR.out]; rfl, below_drewN HB.out _⟩
      · have f3 : (s : Int) ≤ 0 := by omega
        have HT2 : Hid (M = lcmAll (l.take (k + 1))) := Lib.hid (by rw [HT.out, hrow, if_neg h0, ← HM.out])
        have f4 : (M : Int) ≤ 1000000 := by omega
        clear hrow
        go_wp2
        go_roundw
        case rel => exact ⟨k + 1, M, by omega, by go_num, rfl, HT2.out, hM0, hM1, HB.out⟩
        case measure => simp [intOf]; omega
    · obtain rfl : k = n := by omega
      have HR : Hid (multS l = M) := Lib.hid (by
        have e : l.take k = l := List.take_of_length_le (by omega)
        unfold multS
        rw [HM.out, e, if_pos]
        have := hM1
        rw [HM.out, e] at this
        exact this)
      go_wp2
      go_ret
      exact ⟨by rw [HR.out]; rfl, HB.out⟩
end Go.Proofs.Ytdcedkjoligekab
