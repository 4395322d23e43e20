/-
  The walk of the law FnSumEither.
-/
import Derived.Test.YtcacdgojibojgadPSumBase
import Derived.Test.YtcacdgojibojgadSpecSum
import Derived.Test.YtcacdgojibojgadSumOfAny
import Derived.Test.YtcacdgojibojgadEitherI
set_option linter.unusedVariables false
set_option linter.unusedSimpArgs false
namespace Go.Proofs.Ytcacdgojibojgad
open Go.RowKit

theorem sum_either {f u g : Nat → Bool} {T B Y Z V : ByteArray} {o1 o2 o3 o4 : Bool} (h : fS T = sumG false f g) (h1 : MakeIs o1 (fun n => f n || u n) B true) (h2 : MakeIs o2 (sumG false (fS B) g) Y true) (h3 : MakeIs o3 (sumG false u g) Z true)
    (h4 : MakeIs o4 (fun n => fS T n || fS Z n) V true) : Y = V := by
  have t2 := (makeIs_told h2).2
  have t4 := (makeIs_told h4).2
  rw [(makeIs_told h1).2.told.set] at t2
  rw [h, (makeIs_told h3).2.told.set] at t4
  have e : sumG false (fun n => f n || u n) g = fun n => sumG false f g n || sumG false u g n := by
    funext n
    apply bool_iff
    rw [Bool.or_eq_true, sumG_iff, sumG_iff, sumG_iff]
    constructor
    · rintro ⟨x, y, e, k1, k2, _⟩
      rcases Bool.or_eq_true _ _ ▸ k1 with k | k
      · exact .inl ⟨x, y, e, k, k2, by simp⟩
      · exact .inr ⟨x, y, e, k, k2, by simp⟩
    · rintro (⟨x, y, e, k1, k2, _⟩ | ⟨x, y, e, k1, k2, _⟩)
      · exact ⟨x, y, e, by simp [k1], k2, by simp⟩
      · exact ⟨x, y, e, by simp [k1], k2, by simp⟩
  rw [e] at t2
  exact tidyText_same t2 t4
theorem bytes_below {w w' : World} {a : Option Addr} {n : Nat} (h : Bytes w a n) (hb : Below w.heap.size w w') : Bytes w' a n := by
  rcases h with h | ⟨g, o, ha, hg, hc⟩
  · exact .inl h
  · exact .inr ⟨g, o, ha, Nat.lt_of_lt_of_le hg hb.size, fun i hi => by
      obtain ⟨z, hz, h2⟩ := hc i hi
      exact ⟨z, (hb.cell (p := ⟨g, o + i, none⟩) hg).trans hz, h2⟩⟩

set_option maxRecDepth 100000 in
set_option maxHeartbeats 4000000 in
theorem pSumEither (w : World) (a : Option Addr) (n c : Nat) (zs : List Int) (hr : IsRow .u8 w a n c zs) (a2 : Option Addr) (n2 c2 : Nat) (zs2 : List Int) (hr2 : IsRow .u8 w a2 n2 c2 zs2) (m : Int) (hg : 0 < w.heap.size) (hm : w.cell? ⟨0, 0, none⟩ = some (.int .i64 m)) :
    Calls Try.prog 10 #[.slice a n c, .slice a2 n2 c2] w fun e w' => e = .returned (.bool true) ∧ Below w.heap.size w w' := by
  by_cases hn : n ≤ 1048576
  · have hnI : ¬ (1048576 : Int) < (n : Int) := by omega
    by_cases hn2 : n2 ≤ 1048576
    · have hL : LibAt m w := ⟨hg, hm⟩
      clear hg hm
      have hB := Lib.hid hr.bytes
      have hC := Lib.hid hr.cap
      have hB2 := Lib.hid hr2.bytes
      have hC2 := Lib.hid hr2.cap
      clear hr hr2
      go_enter Try.func10, Try.ntmps10
      go_wp2_with fail
      refine (drawSumOf a n c _ hB.out hn hC.out).mono ?_
      rintro e w1 ⟨s, t, rfl, hs, ht, hb1⟩
      have HB1 := Lib.hid hb1
      have HL1 := Lib.hid (hL.below hb1)
      have HBy := Lib.hid (bytes_below hB2.out hb1)
      clear hb1
      go_wp2_with fail
      refine (drawSumOf a2 n2 c2 _ HBy.out hn2 hC2.out).mono ?_
      rintro e w20 ⟨u, v, rfl, hu, hv, hx20⟩
      have HB20 := Lib.hid (below_step HB1.out hx20)
      have HL20 := Lib.hid (HL1.out.below hx20)
      clear hx20
      go_wp2_with fail
      refine (implSum s t m _ (by omega) (by omega) HL20.out).mono ?_
      rintro e w2 ⟨⟨T, b, rfl, hm2⟩, hx2⟩
      have HB2 := Lib.hid (below_step HB20.out hx2)
      have HL2 := Lib.hid (HL20.out.below hx2)
      have HM := Lib.hid hm2
      clear hx2 hm2
      go_wp2_with fail
      refine (specSum s t _ (by omega) (by omega)).mono ?_
      rintro e w3 ⟨⟨U, c, rfl, hm3⟩, hx3⟩
      have HB3 := Lib.hid (below_step HB2.out hx3)
      have HL3 := Lib.hid (HL2.out.below hx3)
      obtain ⟨rfl, rfl⟩ := makeIs_unique HM.out hm3
      clear hx3 hm3
      cases b
      · go_wp2
        go_ret
        exact ⟨ret_bool (by simp), HB3.out⟩
      · obtain ⟨hok, hT⟩ := makeIs_told HM.out
        have HT := Lib.hid hT
        have HO := Lib.hid hT.told.ok
        have HF := Lib.hid hT.told.set
        have hTs := told_size hT.told.ok
        go_wp2_with fail
        refine (implEither s u m _ (by omega) (by omega) HL3.out).mono ?_
        rintro e w4 ⟨⟨B, b1, rfl, hm4⟩, hx4⟩
        have HB4 := Lib.hid (below_step HB3.out hx4)
        have HL4 := Lib.hid (HL3.out.below hx4)
        have H4 := Lib.hid hm4
        have hBs := makeIs_size hm4
        clear hx4 hm4
        go_wp2_with fail
        refine (implSum B t m _ hBs (by omega) HL4.out).mono ?_
        rintro e w5 ⟨⟨Y, b2, rfl, hm5⟩, hx5⟩
        have HB5 := Lib.hid (below_step HB4.out hx5)
        have HL5 := Lib.hid (HL4.out.below hx5)
        have H5 := Lib.hid hm5
        clear hx5 hm5
        go_wp2_with fail
        refine (implSum u t m _ (by omega) (by omega) HL5.out).mono ?_
        rintro e w6 ⟨⟨Z, b3, rfl, hm6⟩, hx6⟩
        have HB6 := Lib.hid (below_step HB5.out hx6)
        have HL6 := Lib.hid (HL5.out.below hx6)
        have H6 := Lib.hid hm6
        have hZs := makeIs_size hm6
        clear hx6 hm6
        go_wp2_with fail
        refine (implEither T Z m _ hTs hZs HL6.out).mono ?_
        rintro e w7 ⟨⟨V, b4, rfl, hm7⟩, hx7⟩
        have HB7 := Lib.hid (below_step HB6.out hx7)
        have HL7 := Lib.hid (HL6.out.below hx7)
        have HV : Hid (b1 = true → b2 = true → b3 = true → b4 = true → Y = V) := Lib.hid (fun h1 h2 h3 h4 => by subst h1; subst h2; subst h3; subst h4; exact sum_either HF.out H4.out H5.out H6.out hm7)
        clear hx7 hm7
        clear HM hT
        cases b1
        · go_wp2
          go_ret
          exact ⟨ret_bool (by simp), HB7.out⟩
        · cases b2
          · go_wp2
            go_ret
            exact ⟨ret_bool (by simp), HB7.out⟩
          · cases b3
            · go_wp2
              go_ret
              exact ⟨ret_bool (by simp), HB7.out⟩
            · cases b4
              · go_wp2
                go_ret
                exact ⟨ret_bool (by simp), HB7.out⟩
              · obtain rfl := HV.out rfl rfl rfl rfl
                go_wp2
                go_ret
                exact ⟨ret_bool (by simp), HB7.out⟩
    · have hd : (1048576 : Int) < (n2 : Int) := by omega
      go_enter Try.func10, Try.ntmps10
      go_wp2
      go_ret
      exact ⟨rfl, Below.refl _ _⟩
  · have hd : (1048576 : Int) < (n : Int) := by omega
    go_enter Try.func10, Try.ntmps10
    go_wp2
    go_ret
    exact ⟨rfl, Below.refl _ _⟩
end Go.Proofs.Ytcacdgojibojgad
