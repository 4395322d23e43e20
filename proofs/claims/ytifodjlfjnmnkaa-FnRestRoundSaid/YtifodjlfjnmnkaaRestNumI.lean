/-
  The walks of the program's RestFirst and RestRound.
-/
import Derived.Test.YtifodjlfjnmnkaaFillI
import Derived.Test.YtifodjlfjnmnkaaRestMath
set_option linter.unusedVariables false
set_option linter.unusedSimpArgs false
namespace Go.Proofs.Ytifodjlfjnmnkaa
open Go.RowKit

set_option maxHeartbeats 1000000 in
theorem implRound (s : ByteArray) (m0 : Int) (w : World) (hs : s.size ≤ 1048576) (hL : LibAt m0 w) :
    Calls Try.prog 37 #[.string s] w fun e w' => NumIs (okS s) (RoundIs (fS s)) e ∧ Below w.heap.size w w' := by
  have hmm := @run_makeMap Try.prog
  cases ho : okS s
  · have hcall := fill_off s w.heap.size 0 0 (fun _ => false) m0 (w.alloc (.map #[] 0)) hs (hL.alloc _) ho (isMap_made w)
    clear ho hL
    go_enter Try.func37, Try.ntmps37
    go_wp2_with fail
    refine hcall.mono ?_
    rintro e w1 ⟨rfl, htab, hels⟩
    have HB := Lib.hid ((below_made hels).alloc (below_made hels).size (.cells #[.slice none 0 0, .int .i64 0] 50))
    clear htab hels hcall
    go_wp2_with fail
    refine (round_any none 0 0 0 _ (by decide)).mono ?_
    rintro e w2 ⟨rfl, hb2⟩
    have HB2 := Lib.hid (below_step HB.out hb2)
    clear hb2
    go_wp2
    go_ret2
    exact ⟨⟨0, rfl, And.intro (fun h => by cases h) (fun _ => rfl)⟩, HB2.out⟩
  · obtain ⟨m, q, ht, hm, hq⟩ := tidy_there ho
    have hcall := fill_on s w.heap.size m q m0 (w.alloc (.map #[] 0)) hs (hL.alloc _) ho ht hm hq (isMap_made w)
    have HT := Lib.hid ht
    clear ho hL ht
    go_enter Try.func37, Try.ntmps37
    go_wp2_with fail
    refine hcall.mono ?_
    rintro e w1 ⟨a, c, rfl, hown, htab, hels⟩
    have HB := Lib.hid ((below_made hels).alloc (below_made hels).size (.cells #[.slice a (m + q : Nat) c, .int .i64 m] 50))
    clear htab hels hcall hown
    go_wp2_with fail
    refine (round_any a c m q _ (by omega)).mono ?_
    rintro e w2 ⟨rfl, hb2⟩
    have HB2 := Lib.hid (below_step HB.out hb2)
    clear hb2
    go_wp2
    go_ret2
    exact ⟨⟨q, rfl, And.intro (fun _ => ⟨m, HT.out⟩) (fun h => by cases h)⟩, HB2.out⟩

set_option maxHeartbeats 1000000 in
theorem implFirst (s : ByteArray) (k : Int) (m0 : Int) (w : World) (hs : s.size ≤ 1048576) (hL : LibAt m0 w) :
    Calls Try.prog 31 #[.string s, .int .i64 k] w fun e w' => NumIs (okS s && inR k 0 1000) (FirstIs (fS s) k.toNat) e ∧ Below w.heap.size w w' := by
  have hmm := @run_makeMap Try.prog
  cases ho : (okS s && inR k 0 1000)
  · have hcall := restBy_off s k m0 w hs hL ho
    clear ho hL
    go_enter Try.func31, Try.ntmps31
    go_wp2_with fail
    refine hcall.mono ?_
    rintro e w1 ⟨rfl, hb1⟩
    have HB := Lib.hid (hb1.alloc hb1.size (.cells #[.string ⟨#[]⟩, .string ⟨#[]⟩] 57))
    clear hb1
    go_wp2
    go_ret2
    exact ⟨⟨0, rfl, And.intro (fun h => by cases h) (fun _ => rfl)⟩, HB.out⟩
  · rw [Bool.and_eq_true] at ho
    obtain ⟨ho, hk⟩ := ho
    obtain ⟨k, rfl⟩ : ∃ n : Nat, k = n := by
      rcases inR_cases k 0 1000 with ⟨_, h, _⟩ | ⟨h, _⟩
      · exact Int.eq_ofNat_of_zero_le h
      · rw [h] at hk; cases hk
    have hk2 : k ≤ 1000 := by
      rcases inR_cases (k : Int) 0 1000 with ⟨_, _, h⟩ | ⟨h, _⟩
      · omega
      · rw [h] at hk; cases hk
    obtain ⟨m, q, ht, hm, hq⟩ := tidy_there ho
    have hcall := restBy_on s k m q m0 w hs hL ho ht hm hq hk2
    have HT := Lib.hid ht
    have HL := Lib.hid hL
    have HO := Lib.hid ho
    clear ho hL ht hk
    go_enter Try.func31, Try.ntmps31
    go_wp2_with fail
    refine hcall.mono ?_
    rintro e w1 ⟨rfl, hb1⟩
    have HB := Lib.hid (hb1.alloc hb1.size (.cells #[.string (tailT (fS s) m k), .string (ringT (fS s) m q k)] 57))
    generalize hw2 : w1.alloc (.cells #[.string (tailT (fS s) m k), .string (ringT (fS s) m q k)] 57) = w2 at HB
    have c0 : w2.cell? ⟨w1.heap.size, 0, none⟩ = some (.string (tailT (fS s) m k)) := by rw [← hw2, World.cell?_alloc_at _ _ _ _ rfl]; rfl
    have c1 : w2.cell? ⟨w1.heap.size, 1, none⟩ = some (.string (ringT (fS s) m q k)) := by rw [← hw2, World.cell?_alloc_at _ _ _ _ rfl]; rfl
    have hsz : w1.heap.size < w2.heap.size := by rw [← hw2]; simp
    have HC := Lib.hid c0
    have HC1 := Lib.hid c1
    have hcall2 := fill_on s w2.heap.size m q m0 (w2.alloc (.map #[] 0)) hs ((HL.out.below HB.out).alloc _) HO.out HT.out hm hq (isMap_made w2)
    clear hb1 hcall c0 c1
    go_wp2_with fail
    refine hcall2.mono ?_
    rintro e w3 ⟨a, c, rfl, hown, htab, hels⟩
    have hhit := htab.hit HT.out hm hq (Nat.le_refl _) false (i := placeF m q k) (place_lt HT.out.pos k)
    rw [← restV_place HT.out k] at hhit
    unfold restV at hhit
    simp only [Bool.false_eq_true, if_false] at hhit
    have b0 : w3.cell? ⟨w1.heap.size, 0, none⟩ = some (.string (tailT (fS s) m k)) := by
      rw [hels.cell (p := ⟨w1.heap.size, 0, none⟩) (show w1.heap.size ≠ w2.heap.size by omega) (by simp; omega), World.cell?_alloc_past _ _ _ (show w1.heap.size < _ from hsz)]; exact HC.out
    have b1 : w3.cell? ⟨w1.heap.size, 1, none⟩ = some (.string (ringT (fS s) m q k)) := by
      rw [hels.cell (p := ⟨w1.heap.size, 1, none⟩) (show w1.heap.size ≠ w2.heap.size by omega) (by simp; omega), World.cell?_alloc_past _ _ _ (show w1.heap.size < _ from hsz)]; exact HC1.out
    have HB3 := Lib.hid (HB.out.trans ((below_made hels).mono HB.out.size))
    have HP : Hid (FirstIs (fS s) ((k : Int).toNat) (placeF m q k)) := Lib.hid ⟨m, q, HT.out, rfl⟩
    clear hown htab hels hcall2 hw2
    go_wp2
    go_ret2
    exact ⟨⟨placeF m q k, rfl, And.intro (fun _ => HP.out) (fun h => by cases h)⟩, HB3.out⟩
end Go.Proofs.Ytifodjlfjnmnkaa
