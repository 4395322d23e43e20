/-
  The walks of goingRows.without and goingRows.every. The walks of goingRows.coverParts and goingRows.cover.
-/
import Derived.Test.YtdcedkjoligekabRowGoing
import Derived.Test.YtdcedkjoligekabRowMeetOn
import Derived.Test.YtdcedkjoligekabOnceMath
namespace Go.Proofs.Ytdcedkjoligekab
open Go.RowKit

set_option linter.unusedVariables false

set_option maxRecDepth 100000 in
set_option maxHeartbeats 2000000 in
theorem without_is (a : Option Addr) (n c p : Nat) (g : List Rw) (w : World) (h : ReadsL w a n g) (hn : n ≤ 20) (hf : Going g) (hp : 1 < p) (hp2 : p ≤ 60) :
    Calls Try.prog 45 #[.slice a n c, .int .i64 p] w (ListRw (notBy p g) w) := by
  obtain ⟨i0, hi, hz0, hz1, hz2⟩ := info_parts Try.infoRow
  have H := Lib.hid h
  have HF := Lib.hid hf
  have hlen := h.len
  have fp : (p : Int) ≠ 0 := by omega
  have fp0 : ¬ p = 0 := by omega
  clear h hf
  go_enter Try.func45, Try.ntmps45
  go_wp2
  go_loopw [5, 11] (fun v i wr => ∃ k : Nat, k ≤ n ∧ i = .int .i64 k ∧ Below w.heap.size w wr ∧ wr.ownsRow w.heap.size 39 2 v (notBy p (g.take k)).length (rwCells (notBy p (g.take k))))
    (fun _ i _ => n - (intOf i).toNat)
  case atStart => exact ⟨0, Nat.zero_le _, rfl, (Below.refl _ _).alloc (Nat.le_refl _) _, rows_start w⟩
  case round =>
    obtain ⟨k, hk, rfl, hB, hown⟩ := hrel
    have HB := Lib.hid hB
    have HO := Lib.hid hown
    have hgl : (notBy p (g.take k)).length ≤ 20 := Nat.le_trans (notBy_le _ _) (by rw [List.length_take]; omega)
    clear hown
    by_cases hlt : k < n
    · obtain ⟨g1, o1, b, s, rfl, hg1, hbs, q0, q1⟩ := (H.out.below hB (Nat.le_refl _)).row hlt
      have hfit := HF.out _ (mem_getD (l := g) (i := k) (by omega))
      rw [hbs] at hfit
      have hbs1 : b < s := hfit.1
      have hs60 : s ≤ 60 := hfit.2
      have HT := Lib.hid (notBy_snoc p g k (by omega))
      have f1 : (k : Int) < (n : Int) := by omega
      have f2 : (0 : Int) ≤ (k : Int) := by omega
      have hsz := hB.size
      clear hB hfit
      by_cases h0 : s % p ≠ 0
      · have HT2 : Hid (notBy p (g.take (k + 1)) = notBy p (g.take k) ++ [⟨b, s⟩]) := Lib.hid (by rw [HT.out, hbs, if_pos h0])
        have f3 : (s : Int) % (p : Int) ≠ 0 := by rw [← Int.natCast_emod]; omega
        have hown3 := HO.out.alloc (.cells #[.int .i64 b, .int .i64 s] 39)
        have HB3 := Lib.hid (HB.out.alloc HB.out.size (.cells #[.int .i64 b, .int .i64 s] 39))
        clear hbs
        go_wp2_with
          (at_builtin; refine wpList_append_own _ rfl _ _ 50 rfl w.heap.size 39 i0 (.agg #[.int .i64 0, .int .i64 0]) 2 16 Try.underlying50 hi hz0 hz1 hz2 rfl (by decide) _ _ _ rfl (hown3.alloc _) ⟨wr.heap.size + 1, 0, none⟩ 1 1 [.int .i64 b, .int .i64 s] rfl rfl ?c1 ?c2 ?c3 ?c4 ?c5 ?_)
        case c1 =>
          intro j u hj
          match j, hj with
          | 0, hj => simp at hj; subst hj; simp [Addr.add]
          | 1, hj => simp at hj; subst hj; simp [Addr.add]
        case c2 => intro u hu; simp at hu; rcases hu with rfl | rfl <;> rfl
        case c3 => unfold maxLen; omega
        case c4 => omega
        case c5 => simp; omega
        intro v' w4 hown4 hgrow _
        have R := rows_rel (r := ⟨b, s⟩) hown3 HB3.out (Nat.le_refl _) (by simp; omega) hown4 hgrow
        have HL : Hid ((notBy p (g.take k)).length + 1 = (notBy p (g.take (k + 1))).length) := Lib.hid (by rw [HT2.out, List.length_append]; rfl)
        rw [← HT2.out, HL.out] at R
        clear hown4 hgrow hown3
        go_wp2
        go_roundw
        case rel => exact ⟨k + 1, by omega, by go_num, R.2, R.1⟩
        case measure => simp [intOf]; omega
      · have HT2 : Hid (notBy p (g.take (k + 1)) = notBy p (g.take k)) := Lib.hid (by rw [HT.out, hbs, if_neg h0])
        have f3 : (s : Int) % (p : Int) = 0 := by rw [← Int.natCast_emod]; omega
        clear hbs
        go_wp2
        go_roundw
        case rel => exact ⟨k + 1, by omega, by go_num, HB.out.alloc HB.out.size _, by rw [HT2.out]; exact HO.out.alloc _⟩
        case measure => simp [intOf]; omega
    · obtain rfl : k = n := by omega
      have e : g.take k = g := List.take_of_length_le (by omega)
      have HE := Lib.hid e
      clear e hB
      have ho := HO.out
      rw [HE.out] at ho
      obtain ⟨a, c, rfl⟩ := own_form ho
      have HO2 := Lib.hid ho
      clear ho
      go_wp2
      go_ret
      exact ⟨HB.out, a, c, rfl, HO2.out⟩

/-- A list of rows that is what every tells. -/
def EveryOut (k f : Nat) (g : List Rw) (w : World) (e : Ending) (w' : World) : Prop :=
  ∃ qs, EveryIs k f g qs ∧ ListRw qs w e w'

set_option maxRecDepth 100000 in
set_option maxHeartbeats 4000000 in
theorem every_is (a : Option Addr) (n c k f : Nat) (g : List Rw) (w : World) (h : ReadsL w a n g) (hn : n ≤ 20) (hf : Going g) (hk : 0 < k) (hk2 : k ≤ 60) (hf2 : f ≤ 200) :
    Calls Try.prog 47 #[.slice a n c, .int .i64 k, .int .i64 f] w (EveryOut k f g w) := by
  obtain ⟨i0, hi, hz0, hz1, hz2⟩ := info_parts Try.infoRow
  have H := Lib.hid h
  have HF := Lib.hid hf
  have hlen := h.len
  have fk : (k : Int) ≠ 0 := by omega
  have fk0 : ¬ k = 0 := by omega
  clear h hf
  go_enter Try.func47, Try.ntmps47
  go_wp2
  go_loopw [7, 16] (fun v i wr => ∃ (j : Nat) (qs : List Rw), j ≤ n ∧ i = .int .i64 j ∧ EveryIs k f (g.take j) qs ∧ Below w.heap.size w wr ∧ wr.ownsRow w.heap.size 39 2 v qs.length (rwCells qs))
    (fun _ i _ => n - (intOf i).toNat)
  case atStart => exact ⟨0, [], Nat.zero_le _, rfl, every_nil k f, (Below.refl _ _).alloc (Nat.le_refl _) _, rows_start w⟩
  case round =>
    obtain ⟨j, qs, hj, rfl, hev, hB, hown⟩ := hrel
    have HB := Lib.hid hB
    have HO := Lib.hid hown
    have HE := Lib.hid hev
    have hql : qs.length ≤ 20 := Nat.le_trans hev.len (by rw [List.length_take]; omega)
    clear hown hev
    by_cases hlt : j < n
    · obtain ⟨g1, o1, b, s, rfl, hg1, hbs, q0, q1⟩ := (H.out.below hB (Nat.le_refl _)).row hlt
      have hfit := HF.out _ (mem_getD (l := g) (i := j) (by omega))
      rw [hbs] at hfit
      have hbs1 : b < s := hfit.1
      have hs60 : s ≤ 60 := hfit.2
      have f1 : (j : Int) < (n : Int) := by omega
      have f2 : (0 : Int) ≤ (j : Int) := by omega
      have hsz := hB.size
      have HBS := Lib.hid hbs
      have HB1 := Lib.hid (HB.out.alloc HB.out.size (.cells #[.int .i64 b, .int .i64 s] 39))
      have HO1 := Lib.hid (HO.out.alloc (.cells #[.int .i64 b, .int .i64 s] 39))
      clear hB hfit hbs
      by_cases hc : ∃ m, Least ⟨b, s⟩ ⟨f, k⟩ m
      · obtain ⟨m, hm⟩ := hc
        obtain ⟨S, B, hS, hst, hBm, hS0, hSs, hfm, hkB, hhas⟩ := part_has hbs1 hk hm
        have HM := Lib.hid (meet_on ⟨b, s⟩ ⟨f, k⟩ m (wr.alloc (.cells #[.int .i64 b, .int .i64 s] 39)) (by show b ≤ 200; omega) hs60 hf2 hk2 hm)
        obtain ⟨st, hstd⟩ : ∃ st, st = stepOf ⟨b, s⟩ ⟨f, k⟩ := ⟨_, rfl⟩
        rw [← hstd] at hst HM
        have hml := least_lt (r := ⟨b, s⟩) (q := ⟨f, k⟩) (by show 0 < s; omega) hk hm
        have hlcm : Nat.lcm s k ≤ 3600 := by
          have h1 : Nat.lcm s k ≤ s * k := by unfold Nat.lcm; exact Nat.div_le_self _ _
          have h2 : s * k ≤ 60 * 60 := Nat.mul_le_mul hs60 hk2
          omega
        have hm4 : m ≤ 4000 := by
          have h1 : m < max b f + Nat.lcm s k := hml
          omega
        have hst4 : st ≤ 3600 := by
          rw [hstd]; unfold stepOf
          rw [if_neg (by show ¬ (s = 0 ∨ k = 0); omega)]
          exact hlcm
        have hB4 : B ≤ 4000 := by rw [← hBm]; exact Nat.le_trans (Nat.div_le_self _ _) (by omega)
        have HX : Hid (((m : Int) - (f : Int)) / (k : Int) = (B : Int)) := Lib.hid (by
          rw [← hBm, show (m : Int) - (f : Int) = ((m - f : Nat) : Int) from by omega, ← Int.natCast_ediv])
        have HY : Hid ((st : Int) / (k : Int) = (S : Int)) := Lib.hid (by rw [← hst, ← Int.natCast_ediv])
        have HEV : Hid (∀ q : Rw, q = (Rw.mk B S).early → EveryIs k f (g.take (j + 1)) (qs ++ [q])) := Lib.hid (fun q hq => by
          subst hq
          refine every_hit HE.out (by omega) (early_ok (r := ⟨B, S⟩) hS0) (by rw [HBS.out]; exact hS) (by show S ≤ 60; omega) (fun n => ?_)
          rw [HBS.out]
          exact hhas n)
        have e1 : (f : Int) ≤ (m : Int) := by omega
        have d1 : 0 ≤ ((m : Int) - (f : Int)) / (k : Int) := Int.ediv_nonneg (by omega) (by omega)
        have d2 : ((m : Int) - (f : Int)) / (k : Int) ≤ 4000 := by rw [HX.out]; omega
        have d3 : 0 ≤ (st : Int) / (k : Int) := Int.ediv_nonneg (by omega) (by omega)
        have d4 : (st : Int) / (k : Int) ≤ 3600 := by rw [HY.out]; omega
        clear hm hS hst hBm hkB hhas hstd hml hlcm
        unfold rwV at HM
        go_wp2_with fail
        refine HM.out.mono ?_
        rintro e w3 ⟨rfl, hb3⟩
        have HB3 := Lib.hid (HB1.out.trans (hb3.mono HB1.out.size))
        have HO3 := Lib.hid (own_below HO1.out hb3 (Nat.le_refl _))
        clear hb3 q0 q1 HM
        go_wp2
        go_region
        go_wp2_with fail
        rw [HX.out, HY.out]
        refine (rowEarly_is ⟨B, S⟩ _ hS0 (by show S ≤ 1000000; omega) (by show B ≤ 1000000; omega)).mono ?_
        rintro e w4 ⟨rfl, hb4⟩
        have hb4' := row_drew (w := w3) hb4
        have HB3' := HB3.out.alloc HB3.out.size (.cells #[.int .i64 m, .int .i64 st] 39)
        have HB3'' := HB3'.alloc HB3'.size (.cells #[.int .i64 B, .int .i64 S] 39)
        have HB4 := Lib.hid (HB3''.trans (hb4'.mono HB3''.size))
        have hown4 := own_below ((HO3.out.alloc (.cells #[.int .i64 m, .int .i64 st] 39)).alloc (.cells #[.int .i64 B, .int .i64 S] 39)) hb4' (Nat.le_refl _)
        obtain ⟨q, hq⟩ : ∃ q, q = (Rw.mk B S).early := ⟨_, rfl⟩
        rw [← hq]
        have HEV2 := Lib.hid (HEV.out q hq)
        obtain ⟨x, y⟩ := q
        have hsz4 := HB4.out.size
        clear hb4 hb4' HB3' HB3'' hq HEV
        unfold rwV
        go_wp2_with
          (at_builtin; refine wpList_append_own _ rfl _ _ 50 rfl w.heap.size 39 i0 (.agg #[.int .i64 0, .int .i64 0]) 2 16 Try.underlying50 hi hz0 hz1 hz2 rfl (by decide) _ _ _ rfl (hown4.alloc _) ⟨w4.heap.size, 0, none⟩ 1 1 [.int .i64 x, .int .i64 y] rfl rfl ?c1 ?c2 ?c3 ?c4 ?c5 ?_)
        case c1 =>
          intro j u hj
          match j, hj with
          | 0, hj => simp at hj; subst hj; simp [Addr.add]
          | 1, hj => simp at hj; subst hj; simp [Addr.add]
        case c2 => intro u hu; simp at hu; rcases hu with rfl | rfl <;> rfl
        case c3 => unfold maxLen; omega
        case c4 => omega
        case c5 => simp; omega
        intro v' w5 hown5 hgrow _
        have R := Lib.hid (rows_rel (r := ⟨x, y⟩) hown4 HB4.out (Nat.le_refl _) hsz4 hown5 hgrow)
        clear hown5 hgrow hown4
        go_wp2
        go_roundw
        case rel => exact ⟨j + 1, qs ++ [⟨x, y⟩], by omega, by go_num, HEV2.out, R.out.2, by rw [List.length_append]; exact R.out.1⟩
        case measure => simp [intOf]; omega
      · have HN := Lib.hid (fun n hn => hc (least_there (n := n) (And.left hn) (And.right hn)))
        have HM := Lib.hid (meet_off ⟨b, s⟩ ⟨f, k⟩ (wr.alloc (.cells #[.int .i64 b, .int .i64 s] 39)) (by show b ≤ 200; omega) hs60 hf2 hk2 HN.out)
        have HEV : Hid (EveryIs k f (g.take (j + 1)) qs) := Lib.hid (every_miss HE.out (by omega) (fun n => by
          rw [HBS.out]
          exact part_none hbs1 hk HN.out n))
        clear hc
        unfold rwV at HM
        go_wp2_with fail
        refine HM.out.mono ?_
        rintro e w3 ⟨⟨⟨x, y⟩, rfl⟩, hb3⟩
        have HB3 := Lib.hid (HB1.out.trans (hb3.mono HB1.out.size))
        have HO3 := Lib.hid (own_below HO1.out hb3 (Nat.le_refl _))
        clear hb3 q0 q1 HM
        go_wp2
        go_roundw
        case rel => exact ⟨j + 1, qs, by omega, by go_num, HEV.out, HB3.out.alloc HB3.out.size _, HO3.out.alloc _⟩
        case measure => simp [intOf]; omega
    · obtain rfl : j = n := by omega
      have e : g.take j = g := List.take_of_length_le (by omega)
      have hev := HE.out
      rw [e] at hev
      have HE2 := Lib.hid hev
      obtain ⟨a, c, rfl⟩ := own_form HO.out
      clear e hB hev
      go_wp2
      go_ret
      exact ⟨qs, HE2.out, HB.out, a, c, rfl, HO.out⟩

set_option linter.unusedVariables false

/-- What cover answers. -/
def CoverOut (g : List Rw) (w : World) (e : Ending) (w' : World) : Prop := ∃ b, e = .returned (.bool b) ∧ (b = true ↔ Covers g) ∧ Below w.heap.size w w'
/-- cover answers so for all rows of a sum of steps less than N. -/
def CoverUpTo (N : Nat) : Prop := ∀ (g : List Rw) (a : Option Addr) (n c : Nat) (w : World), sumS g < N → ReadsL w a n g → n ≤ 20 → Going g → Calls Try.prog 34 #[.slice a n c] w (CoverOut g w)

theorem bool_of_iff {b : Bool} {P : Prop} (h : b = true ↔ P) (hp : P) : b = true := h.2 hp

set_option maxRecDepth 100000 in
set_option maxHeartbeats 2000000 in
theorem coverParts_is (a : Option Addr) (n c k : Nat) (g : List Rw) (w : World) (h : ReadsL w a n g) (hn : n ≤ 20) (hf : Going g) (hk : 0 < k) (hk2 : k ≤ 60) (N : Nat) (hN : redS k g < N) (hrec : CoverUpTo N) :
    Calls Try.prog 46 #[.slice a n c, .int .i64 k] w (CoverOut g w) := by
  have H := Lib.hid h
  have hlen := h.len
  have HEV := Lib.hid (fun (w : World) (f : Nat) (h : ReadsL w a n g) (hf2 : f ≤ 200) => every_is a n c k f g w h hn hf hk hk2 hf2)
  have HREC := Lib.hid hrec
  clear h hrec
  go_enter Try.func46, Try.ntmps46
  go_wp2
  go_loopw [7] (fun i wr => ∃ j : Nat, j ≤ k ∧ i = .int .i64 j ∧ (∀ f, f < j → ∀ n, ∃ r ∈ g, (k * n + f) % r.s = r.b) ∧ Below w.heap.size w wr) (fun i _ => k - (intOf i).toNat)
  case atStart => exact ⟨0, Nat.zero_le _, rfl, fun f hf => absurd hf (Nat.not_lt_zero _), Below.refl _ _⟩
  case round =>
    obtain ⟨j, hj, rfl, hall, hB⟩ := hrel
    have HA := Lib.hid hall
    have HB := Lib.hid hB
    clear hall hB
    by_cases hlt : j < k
    · have f1 : (j : Int) < (k : Int) := by omega
      go_wp2_with fail
      refine (HEV.out _ j (H.out.below HB.out (Nat.le_refl _)) (by omega)).mono ?_
      rintro e w3 ⟨qs, hev, hb3, a3, c3, rfl, hown3⟩
      have HB3 := Lib.hid (HB.out.trans (hb3.mono HB.out.size))
      have HE := Lib.hid hev
      have R3 := Lib.hid (readsL_own hown3)
      have hq20 : qs.length ≤ 20 := by have := hev.len; omega
      have hsum : sumS qs < N := Nat.lt_of_le_of_lt hev.sum hN
      have hgo := hev.going
      clear hb3 hev hown3
      go_wp2_with fail
      refine (HREC.out qs a3 qs.length c3 _ hsum R3.out hq20 hgo).mono ?_
      rintro e w4 ⟨b, rfl, hb, hb4⟩
      have HB4 := Lib.hid (HB3.out.trans (hb4.mono HB3.out.size))
      have HBC := Lib.hid (hb.trans (every_covers HE.out))
      clear hb4 hb hgo
      cases b
      · have HNC : Hid (¬ Covers g) := Lib.hid (fun hc => by
          have := HBC.out.2 ((covers_parts hk).1 hc j hlt)
          cases this)
        go_wp2
        go_ret
        exact ⟨false, rfl, ⟨(fun h => (by cases h)), fun h => (HNC.out h).elim⟩, HB4.out⟩
      · have HC := Lib.hid (HBC.out.1 rfl)
        go_wp2
        go_roundw
        case rel =>
          refine ⟨j + 1, by omega, by go_num, fun f hf => ?_, HB4.out⟩
          rcases Nat.lt_or_ge f j with x | x
          · exact HA.out f x
          · obtain rfl : f = j := by omega
            exact HC.out
        case measure => simp [intOf]; omega
    · obtain rfl : j = k := by omega
      have HC := Lib.hid ((covers_parts (g := g) hk).2 HA.out)
      go_wp2
      go_ret
      exact ⟨true, rfl, ⟨fun _ => HC.out, fun _ => rfl⟩, HB.out⟩

theorem primesV_at (k : Nat) (hk : k < 17) (w : World) : (Instr.index 56 (.agg #[.int .i64 59, .int .i64 53, .int .i64 47, .int .i64 43, .int .i64 41, .int .i64 37, .int .i64 31, .int .i64 29, .int .i64 23, .int .i64 19, .int .i64 17, .int .i64 13, .int .i64 11, .int .i64 7, .int .i64 5, .int .i64 3, .int .i64 2]) (.int .i64 k)).run Try.prog w = .ok (.int .i64 (primes.getD k 0 : Nat)) w := by
  have : k = 0 ∨ k = 1 ∨ k = 2 ∨ k = 3 ∨ k = 4 ∨ k = 5 ∨ k = 6 ∨ k = 7 ∨ k = 8 ∨ k = 9 ∨ k = 10 ∨ k = 11 ∨ k = 12 ∨ k = 13 ∨ k = 14 ∨ k = 15 ∨ k = 16 := by omega
  rcases this with rfl | rfl | rfl | rfl | rfl | rfl | rfl | rfl | rfl | rfl | rfl | rfl | rfl | rfl | rfl | rfl | rfl <;> (show _ = _; kernel_rfl)
theorem primes_mem (k : Nat) (hk : k < 17) : primes.getD k 0 ∈ primes := by
  rw [List.getD_eq_getElem?_getD, List.getElem?_eq_getElem (show k < primes.length from hk)]; exact List.getElem_mem _
theorem primes_le : ∀ p ∈ primes, 1 < p ∧ p ≤ 60 := by decide
theorem primes_next {g : List Rw} (k : Nat) (hk : k < 17) (h : ∀ r ∈ g, r.s % primes.getD k 0 ≠ 0) (h2 : ∀ r ∈ g, ∀ p ∈ primes.take k, r.s % p ≠ 0) : ∀ r ∈ g, ∀ p ∈ primes.take (k + 1), r.s % p ≠ 0 := by
  intro r hr p hp
  rw [List.take_succ_eq_append_getElem (show k < primes.length from hk)] at hp
  rcases List.mem_append.1 hp with m | m
  · exact h2 r hr p m
  · have := h r hr
    rw [List.getD_eq_getElem?_getD, List.getElem?_eq_getElem (show k < primes.length from hk)] at this
    rw [List.mem_singleton.1 m]
    exact this
theorem sumS_filter (p : Nat) (g : List Rw) : sumS (notBy p g) ≤ sumS g := by
  unfold notBy
  induction g with
  | nil => exact Nat.le_refl _
  | cons r g ih =>
    rw [List.filter_cons]
    split
    · rw [sumS_cons, sumS_cons]; exact Nat.add_le_add_left ih _
    · rw [sumS_cons]; exact Nat.le_trans ih (Nat.le_add_left _ _)

set_option maxRecDepth 100000 in
set_option maxHeartbeats 4000000 in
theorem cover_step (N : Nat) (hrec : CoverUpTo N) (g : List Rw) (a : Option Addr) (n c : Nat) (w : World) (hN : sumS g ≤ N) (h : ReadsL w a n g) (hn : n ≤ 20) (hf : Going g) :
    Calls Try.prog 34 #[.slice a n c] w (CoverOut g w) := by
  have H := Lib.hid h
  have hlen := h.len
  have HF := Lib.hid hf
  have HREC := Lib.hid hrec
  clear h hrec hf
  go_enter Try.func34, Try.ntmps34
  go_wp2
  go_loopw [12] (fun i wr => ∃ j : Nat, j ≤ n ∧ i = .int .i64 j ∧ (∀ i, i < j → ¬ ((g.getD i default).b = 0 ∧ (g.getD i default).s = 1)) ∧ Below (w.alloc (.cells #[.int .i64 0, .int .i64 1] 39)).heap.size (w.alloc (.cells #[.int .i64 0, .int .i64 1] 39)) wr) (fun i _ => n - (intOf i).toNat)
  case atStart => exact ⟨0, Nat.zero_le _, rfl, fun f hf => absurd hf (Nat.not_lt_zero _), Below.refl _ _⟩
  case round =>
    obtain ⟨j, hj, rfl, hall, hB⟩ := hrel
    have HA := Lib.hid hall
    have HB := Lib.hid hB
    have HBW := Lib.hid (((Below.refl w.heap.size w).alloc (Nat.le_refl _) (.cells #[.int .i64 0, .int .i64 1] 39)).trans (hB.mono (by simp)))
    obtain ⟨p0, p1⟩ := box3 hB
    have hsz := hB.size
    simp at hsz
    clear hall hB
    by_cases hlt : j < n
    · obtain ⟨g1, o1, b, s, rfl, hg1, hbs, q0, q1⟩ := (H.out.below HBW.out (Nat.le_refl _)).row hlt
      have f1 : (j : Int) < (n : Int) := by omega
      have f2 : (0 : Int) ≤ (j : Int) := by omega
      have HBS := Lib.hid hbs
      clear hbs
      have past : ∀ (o : Obj) (i : Nat), (wr.alloc o).cell? ⟨w.heap.size, i, none⟩ = wr.cell? ⟨w.heap.size, i, none⟩ := fun o i => World.cell?_alloc_past _ _ _ (by show w.heap.size < wr.heap.size; omega)
      by_cases h0 : b = 0 ∧ s = 1
      · obtain ⟨rfl, rfl⟩ := h0
        have e0 := (past (.cells #[.int .i64 0, .int .i64 1] 39) 0).trans p0
        have e1 := (past (.cells #[.int .i64 0, .int .i64 1] 39) 1).trans p1
        have HC := Lib.hid (covers_all (g := g) (r := ⟨0, 1⟩) (by have := mem_getD (l := g) (i := j) (by omega); rw [HBS.out] at this; exact this) ⟨rfl, rfl⟩)
        clear past p0 p1
        go_wp2
        try rw [Exit.noGoto_ret]
        go_ret
        exact ⟨true, rfl, ⟨fun _ => HC.out, fun _ => rfl⟩, HBW.out.alloc HBW.out.size _⟩
      · have HNB : Hid (∀ i, i < j + 1 → ¬ ((g.getD i default).b = 0 ∧ (g.getD i default).s = 1)) := Lib.hid (fun i hi => by
          rcases Nat.lt_or_ge i j with x | x
          · exact HA.out i x
          · obtain rfl : i = j := by omega
            rw [HBS.out]
            exact h0)
        have HB2 := Lib.hid (HB.out.alloc HB.out.size (.cells #[.int .i64 b, .int .i64 s] 39))
        by_cases hb0 : b = 0
        · subst hb0
          have hs1 : ((s : Int) == 1) = false := by rw [beq_eq_false_iff_ne]; intro e; exact h0 ⟨rfl, by omega⟩
          have e0 := (past (.cells #[.int .i64 0, .int .i64 s] 39) 0).trans p0
          have e1 := (past (.cells #[.int .i64 0, .int .i64 s] 39) 1).trans p1
          clear past p0 p1 h0
          go_wp2
          go_roundw
          case rel => exact ⟨j + 1, by omega, by go_num, HNB.out, HB2.out⟩
          case measure => simp [intOf]; omega
        · have hb1 : ((b : Int) == 0) = false := by rw [beq_eq_false_iff_ne]; omega
          have hb2 : ¬ b = 0 := hb0
          have e0 := (past (.cells #[.int .i64 b, .int .i64 s] 39) 0).trans p0
          have e1 := (past (.cells #[.int .i64 b, .int .i64 s] 39) 1).trans p1
          clear past p0 p1 h0
          go_wp2
          go_roundw
          case rel => exact ⟨j + 1, by omega, by go_num, HNB.out, HB2.out⟩
          case measure => simp [intOf]; omega
    · obtain rfl : j = n := by omega
      have hno : ∀ r ∈ g, ¬ (r.b = 0 ∧ r.s = 1) := fun r hr => by
        obtain ⟨i, hi, e⟩ := List.getElem_of_mem hr
        have := HA.out i (by omega)
        rw [List.getD_eq_getElem?_getD, List.getElem?_eq_getElem hi] at this
        rw [← e]; exact this
      have HNO := Lib.hid hno
      have HG := Lib.hid (H.out.below HBW.out (Nat.le_refl _))
      clear hno p0 p1 hsz
      go_wp2
      go_loopw [0, 21] (fun u i w2 => ∃ (k : Nat) (gc : List Rw) (a2 : Option Addr) (c2 : Nat), k ≤ 17 ∧ i = .int .i64 k ∧ u = .slice a2 gc.length c2 ∧ ReadsL w2 a2 gc.length gc ∧ gc.length ≤ 20 ∧ Going gc ∧ (Covers g ↔ Covers gc) ∧ (∀ r ∈ gc, ¬ (r.b = 0 ∧ r.s = 1)) ∧ (∀ r ∈ gc, ∀ p ∈ primes.take k, r.s % p ≠ 0) ∧ sumS gc ≤ sumS g ∧ Below w.heap.size w w2) (fun _ i _ => 17 - (intOf i).toNat)
      case atStart => exact ⟨0, g, a, c, by omega, rfl, by rw [hlen], by rw [hlen]; exact HG.out, by omega, HF.out, Iff.rfl, HNO.out, fun r _ p hp => (by cases hp), Nat.le_refl _, HBW.out⟩
      case round =>
        obtain ⟨k, gc, a2, c2, hk, rfl, rfl, hr2, hl2, hgo2, hcov, hno2, hpr, hsum, hb2⟩ := hrel
        by_cases hk17 : k < 17
        · obtain ⟨p, hpd⟩ : ∃ p, p = primes.getD k 0 := ⟨_, rfl⟩
          have hidx := primesV_at k hk17
          rw [← hpd] at hidx
          have hpm : p ∈ primes := by rw [hpd]; exact primes_mem k hk17
          have hp60 : 1 < p ∧ p ≤ 60 := primes_le p hpm
          have HPT := Lib.hid (primes_ok p hpm)
          have HPR := Lib.hid (fun r hr q hq => primes_next (g := notBy p gc) k hk17 (by rw [← hpd]; exact fun r hr => (notBy_mem.1 hr).2) (fun r hr q hq => hpr r (notBy_mem.1 hr).1 q hq) r hr q hq)
          have HW := Lib.hid (without_is a2 gc.length c2 p gc _ hr2 hl2 hgo2 hp60.1 hp60.2)
          have HR2 := Lib.hid hr2
          have HGO := Lib.hid hgo2
          have HCV := Lib.hid hcov
          have HN2 := Lib.hid hno2
          have HB2 := Lib.hid hb2
          have f1 : (k : Int) < 17 := by omega
          have f2 : (0 : Int) ≤ (k : Int) := by omega
          have hnl := notBy_le p gc
          obtain ⟨ln, hln⟩ : ∃ ln, ln = (notBy p gc).length := ⟨_, rfl⟩
          obtain ⟨lg, hlg⟩ : ∃ lg, lg = gc.length := ⟨_, rfl⟩
          rw [← hln, ← hlg] at hnl
          rw [← hlg] at HW hl2 ⊢
          have HLG := Lib.hid hlg
          have HLN := Lib.hid hln
          clear hpd hpr hr2 hgo2 hcov hno2 hb2 hln hlg
          go_wp2_with fail
          refine HW.out.mono ?_
          rintro e w3 ⟨hb3, a3, c3, rfl, hown3⟩
          rw [← HLN.out]
          have HB3 := Lib.hid (HB2.out.trans (hb3.mono HB2.out.size))
          have R3 := Lib.hid (readsL_own hown3)
          have HR3 := Lib.hid (HR2.out.below hb3 (Nat.le_refl _))
          clear hb3 hown3
          by_cases hge : p ≤ lg - ln
          · have f3 : (p : Int) ≤ (lg : Int) - (ln : Int) := by omega
            have HCP := Lib.hid (coverParts_is a2 lg c2 p gc w3 (by rw [HLG.out]; exact HR3.out) hl2 HGO.out (by omega) hp60.2 N
              (by have := redS_lt hp60.1 HGO.out (notBy_some (p := p) (by rw [← HLN.out, ← HLG.out]; omega)); omega) HREC.out)
            go_wp2_with fail
            refine HCP.out.mono ?_
            rintro e w4 ⟨b, rfl, hb, hb4⟩
            have HB4 := Lib.hid (HB3.out.trans (hb4.mono HB3.out.size))
            have HBC := Lib.hid (hb.trans HCV.out.symm)
            clear hb hb4
            go_wp2
            try rw [Exit.noGoto_ret]
            go_ret
            exact ⟨b, rfl, HBC.out, HB4.out⟩
          · have f3 : (lg : Int) - (ln : Int) < (p : Int) := by omega
            have HC2 := Lib.hid (HCV.out.trans (covers_notBy HPT.out HGO.out (by rw [← HLN.out, ← HLG.out]; omega)))
            go_wp2
            go_roundw
            case rel =>
              refine ⟨k + 1, notBy p gc, a3, c3, by omega, by go_num, by rw [HLN.out], R3.out, by have := HLN.out; omega, fun r hr => HGO.out r (notBy_mem.1 hr).1, HC2.out, fun r hr => HN2.out r (notBy_mem.1 hr).1, HPR.out, ?_, HB3.out⟩
              exact Nat.le_trans (sumS_filter _ _) hsum
            case measure => simp [intOf]; omega
        · obtain rfl : k = 17 := by omega
          have HNC : Hid (¬ Covers g) := Lib.hid (fun hc => covers_end hgo2 hno2 hpr (hcov.1 hc))
          have HB2 := Lib.hid hb2
          clear hpr hr2 hgo2 hcov hno2 hb2
          go_wp2
          try rw [Exit.noGoto_ret]
          go_ret
          exact ⟨false, rfl, ⟨(fun h => (by cases h)), fun h => (HNC.out h).elim⟩, HB2.out⟩

/-- cover tells whether its rows cover. -/
theorem cover_is (g : List Rw) (a : Option Addr) (n c : Nat) (w : World) (h : ReadsL w a n g) (hn : n ≤ 20) (hf : Going g) :
    Calls Try.prog 34 #[.slice a n c] w (CoverOut g w) := by
  have : ∀ N, CoverUpTo N := by
    intro N
    induction N with
    | zero => intro g a n c w h; exact absurd h (Nat.not_lt_zero _)
    | succ N ih => intro g a n c w h hr hn hf; exact cover_step N ih g a n c w (by omega) hr hn hf
  exact this (sumS g + 1) g a n c w (Nat.lt_succ_self _) h hn hf

end Go.Proofs.Ytdcedkjoligekab
