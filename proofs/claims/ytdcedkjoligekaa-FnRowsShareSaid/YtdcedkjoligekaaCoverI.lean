/-
  The walks of goingRows.without and goingRows.every.
-/
import Derived.Test.YtdcedkjoligekaaRowGoing
import Derived.Test.YtdcedkjoligekaaRowMeetOn
import Derived.Test.YtdcedkjoligekaaCoverMath
namespace Go.Proofs.Ytdcedkjoligekaa
open Go.RowKit
set_option linter.unusedVariables false

set_option maxRecDepth 100000 in
set_option maxHeartbeats 2000000 in
theorem without_is (a : Option Addr) (n c p : Nat) (g : List Rw) (w : World) (h : ReadsL w a n g) (hn : n ≤ 20) (hf : Going g) (hp : 1 < p) (hp2 : p ≤ 60) :
    Calls Try.prog 104 #[.slice a n c, .int .i64 p] w (ListRw (notBy p g) w) := by
  obtain ⟨i0, hi, hz0, hz1, hz2⟩ := info_parts Try.infoRow
  have H := Lib.hid h
  have HF := Lib.hid hf
  have hlen := h.len
  have fp : (p : Int) ≠ 0 := by omega
  have fp0 : ¬ p = 0 := by omega
  clear h hf
  go_enter Try.func104, Try.ntmps104
  go_wp2
  go_loopw [5, 11] (fun v i wr => ∃ k : Nat, k ≤ n ∧ i = .int .i64 k ∧ Below w.heap.size w wr ∧ wr.ownsRow w.heap.size 79 2 v (notBy p (g.take k)).length (rwCells (notBy p (g.take k))))
    (fun _ i _ => n - (intOf i).toNat)
  case atStart => exact ⟨0, Nat.zero_le _, rfl, (Below.refl _ _).alloc (Nat.le_refl _) _, rows_start w⟩
  case round =>
    obtain ⟨k, hk, rfl, hB, hown⟩ := hrel
    have HB := Lib.hid hB
    have HO := Lib.hid hown
    have hgl : (notBy p (g.take k)).length ≤ 20 := Nat.le_trans (notBy_le _ _) (by rw [List.length_take]; omega)
    clear hown
    by_cases hlt : k < n
    · obtain ⟨g1, o1, b, s, rfl, hg1, hbs, q0, q1⟩ := (H.out.below hB (Nat.le_refl _)).row hlt
      have hfit := HF.out _ (mem_getD (l := g) (i := k) (by omega))
      rw [hbs] at hfit
      have hbs1 : b < s := hfit.1
      have hs60 : s ≤ 60 := hfit.2
      have HT := Lib.hid (notBy_snoc p g k (by omega))
      have f1 : (k : Int) < (n : Int) := by omega
      have f2 : (0 : Int) ≤ (k : Int) := by omega
      have hsz := hB.size
      clear hB hfit
      by_cases h0 : s % p ≠ 0
      · have HT2 : Hid (notBy p (g.take (k + 1)) = notBy p (g.take k) ++ [⟨b, s⟩]) := Lib.hid (by rw [HT.out, hbs, if_pos h0])
        have f3 : (s : Int) % (p : Int) ≠ 0 := by rw [← Int.natCast_emod]; omega
        have hown3 := HO.out.alloc (.cells #[.int .i64 b, .int .i64 s] 79)
        have HB3 := Lib.hid (HB.out.alloc HB.out.size (.cells #[.int .i64 b, .int .i64 s] 79))
        clear hbs
        go_wp2_with
          (at_builtin; refine wpList_append_own _ rfl _ _ 67 rfl w.heap.size 79 i0 (.agg #[.int .i64 0, .int .i64 0]) 2 16 Try.underlying67 hi hz0 hz1 hz2 rfl (by decide) _ _ _ rfl (hown3.alloc _) ⟨wr.heap.size + 1, 0, none⟩ 1 1 [.int .i64 b, .int .i64 s] rfl rfl ?c1 ?c2 ?c3 ?c4 ?c5 ?_)
        case c1 =>
          intro j u hj
          match j, hj with
          | 0, hj => simp at hj; subst hj; simp [Addr.add]
          | 1, hj => simp at hj; subst hj; simp [Addr.add]
        case c2 => intro u hu; simp at hu; rcases hu with rfl | rfl <;> rfl
        case c3 => unfold maxLen; omega
        case c4 => omega
        case c5 => simp; omega
        intro v' w4 hown4 hgrow _
        have R := rows_rel (r := ⟨b, s⟩) hown3 HB3.out (Nat.le_refl _) (by simp; omega) hown4 hgrow
        have HL : Hid ((notBy p (g.take k)).length + 1 = (notBy p (g.take (k + 1))).length) := Lib.hid (by rw [HT2.out, List.length_append]; rfl)
        rw [← HT2.out, HL.out] at R
        clear hown4 hgrow hown3
        go_wp2
        go_roundw
        case rel => exact ⟨k + 1, by omega, by go_num, R.2, R.1⟩
        case measure => simp [intOf]; omega
      · have HT2 : Hid (notBy p (g.take (k + 1)) = notBy p (g.take k)) := Lib.hid (by rw [HT.out, hbs, if_neg h0])
        have f3 : (s : Int) % (p : Int) = 0 := by rw [← Int.natCast_emod]; omega
        clear hbs
        go_wp2
        go_roundw
        case rel => exact ⟨k + 1, by omega, by go_num, HB.out.alloc HB.out.size _, by rw [HT2.out]; exact HO.out.alloc _⟩
        case measure => simp [intOf]; omega
    · obtain rfl : k = n := by omega
      have e : g.take k = g := List.take_of_length_le (by omega)
      have HE := Lib.hid e
      clear e hB
      have ho := HO.out
      rw [HE.out] at ho
      obtain ⟨a, c, rfl⟩ := own_form ho
      have HO2 := Lib.hid ho
      clear ho
      go_wp2
      go_ret
      exact ⟨HB.out, a, c, rfl, HO2.out⟩

/-- A list of rows that is what every tells. -/
def EveryOut (k f : Nat) (g : List Rw) (w : World) (e : Ending) (w' : World) : Prop :=
  ∃ qs, EveryIs k f g qs ∧ ListRw qs w e w'

set_option maxRecDepth 100000 in
set_option maxHeartbeats 4000000 in
theorem every_is (a : Option Addr) (n c k f : Nat) (g : List Rw) (w : World) (h : ReadsL w a n g) (hn : n ≤ 20) (hf : Going g) (hk : 0 < k) (hk2 : k ≤ 60) (hf2 : f ≤ 200) :
    Calls Try.prog 100 #[.slice a n c, .int .i64 k, .int .i64 f] w (EveryOut k f g w) := by
  obtain ⟨i0, hi, hz0, hz1, hz2⟩ := info_parts Try.infoRow
  have H := Lib.hid h
  have HF := Lib.hid hf
  have hlen := h.len
  have fk : (k : Int) ≠ 0 := by omega
  have fk0 : ¬ k = 0 := by omega
  clear h hf
  go_enter Try.func100, Try.ntmps100
  go_wp2
  go_loopw [7, 16] (fun v i wr => ∃ (j : Nat) (qs : List Rw), j ≤ n ∧ i = .int .i64 j ∧ EveryIs k f (g.take j) qs ∧ Below w.heap.size w wr ∧ wr.ownsRow w.heap.size 79 2 v qs.length (rwCells qs))
    (fun _ i _ => n - (intOf i).toNat)
  case atStart => exact ⟨0, [], Nat.zero_le _, rfl, every_nil k f, (Below.refl _ _).alloc (Nat.le_refl _) _, rows_start w⟩
  case round =>
    obtain ⟨j, qs, hj, rfl, hev, hB, hown⟩ := hrel
    have HB := Lib.hid hB
    have HO := Lib.hid hown
    have HE := Lib.hid hev
    have hql : qs.length ≤ 20 := Nat.le_trans hev.len (by rw [List.length_take]; omega)
    clear hown hev
    by_cases hlt : j < n
    · obtain ⟨g1, o1, b, s, rfl, hg1, hbs, q0, q1⟩ := (H.out.below hB (Nat.le_refl _)).row hlt
      have hfit := HF.out _ (mem_getD (l := g) (i := j) (by omega))
      rw [hbs] at hfit
      have hbs1 : b < s := hfit.1
      have hs60 : s ≤ 60 := hfit.2
      have f1 : (j : Int) < (n : Int) := by omega
      have f2 : (0 : Int) ≤ (j : Int) := by omega
      have hsz := hB.size
      have HBS := Lib.hid hbs
      have HB1 := Lib.hid (HB.out.alloc HB.out.size (.cells #[.int .i64 b, .int .i64 s] 79))
      have HO1 := Lib.hid (HO.out.alloc (.cells #[.int .i64 b, .int .i64 s] 79))
      clear hB hfit hbs
      by_cases hc : ∃ m, Least ⟨b, s⟩ ⟨f, k⟩ m
      · obtain ⟨m, hm⟩ := hc
        obtain ⟨S, B, hS, hst, hBm, hS0, hSs, hfm, hkB, hhas⟩ := part_has hbs1 hk hm
        have HM := Lib.hid (meet_on ⟨b, s⟩ ⟨f, k⟩ m (wr.alloc (.cells #[.int .i64 b, .int .i64 s] 79)) (by show b ≤ 200; omega) hs60 hf2 hk2 hm)
        obtain ⟨st, hstd⟩ : ∃ st, st = stepOf ⟨b, s⟩ ⟨f, k⟩ := ⟨_, rfl⟩
        rw [← hstd] at hst HM
        have hml := least_lt (r := ⟨b, s⟩) (q := ⟨f, k⟩) (by show 0 < s; omega) hk hm
        have hlcm : Nat.lcm s k ≤ 3600 := by
          have h1 : Nat.lcm s k ≤ s * k := by unfold Nat.lcm; exact Nat.div_le_self _ _
          have h2 : s * k ≤ 60 * 60 := Nat.mul_le_mul hs60 hk2
          omega
        have hm4 : m ≤ 4000 := by
          have h1 : m < max b f + Nat.lcm s k := hml
          omega
        have hst4 : st ≤ 3600 := by
          rw [hstd]; unfold stepOf
          rw [if_neg (by show ¬ (s = 0 ∨ k = 0); omega)]
          exact hlcm
        have hB4 : B ≤ 4000 := by rw [← hBm]; exact Nat.le_trans (Nat.div_le_self _ _) (by omega)
        have HX : Hid (((m : Int) - (f : Int)) / (k : Int) = (B : Int)) := Lib.hid (by
          rw [← hBm, show (m : Int) - (f : Int) = ((m - f : Nat) : Int) from by omega, ← Int.natCast_ediv])
        have HY : Hid ((st : Int) / (k : Int) = (S : Int)) := Lib.hid (by rw [← hst, ← Int.natCast_ediv])
        have HEV : Hid (∀ q : Rw, q = (Rw.mk B S).early → EveryIs k f (g.take (j + 1)) (qs ++ [q])) := Lib.hid (fun q hq => by
          subst hq
          refine every_hit HE.out (by omega) (early_ok (r := ⟨B, S⟩) hS0) (by rw [HBS.out]; exact hS) (by show S ≤ 60; omega) (fun n => ?_)
          rw [HBS.out]
          exact hhas n)
        have e1 : (f : Int) ≤ (m : Int) := by omega
        have d1 : 0 ≤ ((m : Int) - (f : Int)) / (k : Int) := Int.ediv_nonneg (by omega) (by omega)
        have d2 : ((m : Int) - (f : Int)) / (k : Int) ≤ 4000 := by rw [HX.out]; omega
        have d3 : 0 ≤ (st : Int) / (k : Int) := Int.ediv_nonneg (by omega) (by omega)
        have d4 : (st : Int) / (k : Int) ≤ 3600 := by rw [HY.out]; omega
        clear hm hS hst hBm hkB hhas hstd hml hlcm
        unfold rwV at HM
        go_wp2_with fail
        refine HM.out.mono ?_
        rintro e w3 ⟨rfl, hb3⟩
        have HB3 := Lib.hid (HB1.out.trans (hb3.mono HB1.out.size))
        have HO3 := Lib.hid (own_below HO1.out hb3 (Nat.le_refl _))
        clear hb3 q0 q1 HM
        go_wp2
        go_region
        go_wp2_with fail
        rw [HX.out, HY.out]
        refine (rowEarly_is ⟨B, S⟩ _ hS0 (by show S ≤ 1000000; omega) (by show B ≤ 1000000; omega)).mono ?_
        rintro e w4 ⟨rfl, hb4⟩
        have hb4' := row_drew (w := w3) hb4
        have HB3' := HB3.out.alloc HB3.out.size (.cells #[.int .i64 m, .int .i64 st] 79)
        have HB3'' := HB3'.alloc HB3'.size (.cells #[.int .i64 B, .int .i64 S] 79)
        have HB4 := Lib.hid (HB3''.trans (hb4'.mono HB3''.size))
        have hown4 := own_below ((HO3.out.alloc (.cells #[.int .i64 m, .int .i64 st] 79)).alloc (.cells #[.int .i64 B, .int .i64 S] 79)) hb4' (Nat.le_refl _)
        obtain ⟨q, hq⟩ : ∃ q, q = (Rw.mk B S).early := ⟨_, rfl⟩
        rw [← hq]
        have HEV2 := Lib.hid (HEV.out q hq)
        obtain ⟨x, y⟩ := q
        have hsz4 := HB4.out.size
        clear hb4 hb4' HB3' HB3'' hq HEV
        unfold rwV
        go_wp2_with
          (at_builtin; refine wpList_append_own _ rfl _ _ 67 rfl w.heap.size 79 i0 (.agg #[.int .i64 0, .int .i64 0]) 2 16 Try.underlying67 hi hz0 hz1 hz2 rfl (by decide) _ _ _ rfl (hown4.alloc _) ⟨w4.heap.size, 0, none⟩ 1 1 [.int .i64 x, .int .i64 y] rfl rfl ?c1 ?c2 ?c3 ?c4 ?c5 ?_)
        case c1 =>
          intro j u hj
          match j, hj with
          | 0, hj => simp at hj; subst hj; simp [Addr.add]
          | 1, hj => simp at hj; subst hj; simp [Addr.add]
        case c2 => intro u hu; simp at hu; rcases hu with rfl | rfl <;> rfl
        case c3 => unfold maxLen; omega
        case c4 => omega
        case c5 => simp; omega
        intro v' w5 hown5 hgrow _
        have R := Lib.hid (rows_rel (r := ⟨x, y⟩) hown4 HB4.out (Nat.le_refl _) hsz4 hown5 hgrow)
        clear hown5 hgrow hown4
        go_wp2
        go_roundw
        case rel => exact ⟨j + 1, qs ++ [⟨x, y⟩], by omega, by go_num, HEV2.out, R.out.2, by rw [List.length_append]; exact R.out.1⟩
        case measure => simp [intOf]; omega
      · have HN := Lib.hid (fun n hn => hc (least_there (n := n) (And.left hn) (And.right hn)))
        have HM := Lib.hid (meet_off ⟨b, s⟩ ⟨f, k⟩ (wr.alloc (.cells #[.int .i64 b, .int .i64 s] 79)) (by show b ≤ 200; omega) hs60 hf2 hk2 HN.out)
        have HEV : Hid (EveryIs k f (g.take (j + 1)) qs) := Lib.hid (every_miss HE.out (by omega) (fun n => by
          rw [HBS.out]
          exact part_none hbs1 hk HN.out n))
        clear hc
        unfold rwV at HM
        go_wp2_with fail
        refine HM.out.mono ?_
        rintro e w3 ⟨⟨⟨x, y⟩, rfl⟩, hb3⟩
        have HB3 := Lib.hid (HB1.out.trans (hb3.mono HB1.out.size))
        have HO3 := Lib.hid (own_below HO1.out hb3 (Nat.le_refl _))
        clear hb3 q0 q1 HM
        go_wp2
        go_roundw
        case rel => exact ⟨j + 1, qs, by omega, by go_num, HEV.out, HB3.out.alloc HB3.out.size _, HO3.out.alloc _⟩
        case measure => simp [intOf]; omega
    · obtain rfl : j = n := by omega
      have e : g.take j = g := List.take_of_length_le (by omega)
      have hev := HE.out
      rw [e] at hev
      have HE2 := Lib.hid hev
      obtain ⟨a, c, rfl⟩ := own_form HO.out
      clear e hB hev
      go_wp2
      go_ret
      exact ⟨qs, HE2.out, HB.out, a, c, rfl, HO.out⟩
end Go.Proofs.Ytdcedkjoligekaa
