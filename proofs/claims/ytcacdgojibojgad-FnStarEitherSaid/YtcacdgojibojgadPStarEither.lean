/-
  The walk of the law FnStarEither.
-/
import Derived.Test.YtcacdgojibojgadPSumBase
import Derived.Test.YtcacdgojibojgadSpecStar
import Derived.Test.YtcacdgojibojgadStarTextI
import Derived.Test.YtcacdgojibojgadEitherI
import Derived.Test.YtcacdgojibojgadSumOfAny
set_option linter.unusedVariables false
set_option linter.unusedSimpArgs false
namespace Go.Proofs.Ytcacdgojibojgad
open Go.RowKit

theorem star_sum {f g : Nat → Bool} : starB (fun n => f n || g n) = sumG false (starB f) (starB g) := by
  funext n
  apply bool_iff
  rw [starB_iff, sumG_iff]
  constructor
  · rintro ⟨l, h1, rfl⟩
    induction l with
    | nil => exact ⟨0, 0, rfl, starB_zero _, starB_zero _, by simp⟩
    | cons x l ih =>
      obtain ⟨y, z, e, k1, k2, _⟩ := ih (fun y hy => h1 y (List.mem_cons_of_mem _ hy))
      have h2 : (f x || g x) = true := h1 x (List.mem_cons_self ..)
      rw [List.sum_cons]
      cases hf : f x
      · rw [hf, Bool.false_or] at h2
        exact ⟨y, x + z, by omega, k1, starB_iff.2 (star_add (star_one h2) (starB_iff.1 k2)), by simp⟩
      · exact ⟨x + y, z, by omega, starB_iff.2 (star_add (star_one hf) (starB_iff.1 k1)), k2, by simp⟩
  · rintro ⟨x, y, rfl, h1, h2, _⟩
    exact star_add (star_mono (fun z hz => by simp [hz]) (starB_iff.1 h1)) (star_mono (fun z hz => by simp [hz]) (starB_iff.1 h2))
theorem star_either {f g : Nat → Bool} {T B U X Y : ByteArray} {o1 o2 o3 o4 : Bool} (h : fS T = starB f) (h1 : MakeIs o1 (starB g) B true) (h2 : MakeIs o2 (fun n => f n || g n) U true) (h3 : MakeIs o3 (starB (fS U)) X true)
    (h4 : MakeIs o4 (sumG false (fS T) (fS B)) Y true) : X = Y := by
  have t3 := (makeIs_told h3).2
  have t4 := (makeIs_told h4).2
  rw [(makeIs_told h2).2.told.set, star_sum] at t3
  rw [h, (makeIs_told h1).2.told.set] at t4
  exact tidyText_same t3 t4

set_option maxRecDepth 100000 in
set_option maxHeartbeats 4000000 in
theorem pStarEither (a : Option Addr) (n c : Nat) (zs : List Int) (w : World) (hr : IsRow .u8 w a n c zs) (m : Int) (hg : 0 < w.heap.size) (hm : w.cell? ⟨0, 0, none⟩ = some (.int .i64 m)) :
    Calls Try.prog 11 #[.slice a n c] w fun e w' => e = .returned (.bool true) ∧ Below w.heap.size w w' := by
  by_cases hn : n ≤ 1048576
  · have hL : LibAt m w := ⟨hg, hm⟩
    clear hg hm
    have hB := Lib.hid hr.bytes
    have hC := Lib.hid hr.cap
    clear hr
    go_enter Try.func11, Try.ntmps11
    go_wp2_with fail
    refine (drawSumOf a n c _ hB.out hn hC.out).mono ?_
    rintro e w1 ⟨s, t, rfl, hs, ht, hb1⟩
    have HB1 := Lib.hid hb1
    have HL1 := Lib.hid (hL.below hb1)
    clear hb1
    go_wp2_with fail
    refine (implStar s m _ (by omega) HL1.out).mono ?_
    rintro e w2 ⟨⟨T, b, rfl, hm2⟩, hx2⟩
    have HB2 := Lib.hid (below_step HB1.out hx2)
    have HL2 := Lib.hid (HL1.out.below hx2)
    have HM := Lib.hid hm2
    clear hx2 hm2
    go_wp2_with fail
    refine (specStar s _ (by omega)).mono ?_
    rintro e w3 ⟨⟨U, c, rfl, hm3⟩, hx3⟩
    have HB3 := Lib.hid (below_step HB2.out hx3)
    have HL3 := Lib.hid (HL2.out.below hx3)
    obtain ⟨rfl, rfl⟩ := makeIs_unique HM.out hm3
    clear hx3 hm3
    cases b
    · go_wp2
      go_ret
      exact ⟨ret_bool (by simp), HB3.out⟩
    · obtain ⟨hok, hT⟩ := makeIs_told HM.out
      have HT := Lib.hid hT
      have HO := Lib.hid hT.told.ok
      have HF := Lib.hid hT.told.set
      have hTs := told_size hT.told.ok
      go_wp2_with fail
      refine (implStar t m _ (by omega) HL3.out).mono ?_
      rintro e w4 ⟨⟨B, b1, rfl, hm4⟩, hx4⟩
      have HB4 := Lib.hid (below_step HB3.out hx4)
      have HL4 := Lib.hid (HL3.out.below hx4)
      have H4 := Lib.hid hm4
      have hBs := makeIs_size hm4
      clear hx4 hm4
      go_wp2_with fail
      refine (implEither s t m _ (by omega) (by omega) HL4.out).mono ?_
      rintro e w5 ⟨⟨U, b2, rfl, hm5⟩, hx5⟩
      have HB5 := Lib.hid (below_step HB4.out hx5)
      have HL5 := Lib.hid (HL4.out.below hx5)
      have H5 := Lib.hid hm5
      have hUs := makeIs_size hm5
      clear hx5 hm5
      go_wp2_with fail
      refine (implStar U m _ hUs HL5.out).mono ?_
      rintro e w6 ⟨⟨X, b3, rfl, hm6⟩, hx6⟩
      have HB6 := Lib.hid (below_step HB5.out hx6)
      have HL6 := Lib.hid (HL5.out.below hx6)
      have H6 := Lib.hid hm6
      clear hx6 hm6
      go_wp2_with fail
      refine (implSum T B m _ hTs hBs HL6.out).mono ?_
      rintro e w7 ⟨⟨Y, b4, rfl, hm7⟩, hx7⟩
      have HB7 := Lib.hid (below_step HB6.out hx7)
      have HL7 := Lib.hid (HL6.out.below hx7)
      have HV : Hid (b1 = true → b2 = true → b3 = true → b4 = true → X = Y) := Lib.hid (fun h1 h2 h3 h4 => by subst h1; subst h2; subst h3; subst h4; exact star_either HF.out H4.out H5.out H6.out hm7)
      clear hx7 hm7
      clear HM hT
      cases b1
      · go_wp2
        go_ret
        exact ⟨ret_bool (by simp), HB7.out⟩
      · cases b2
        · go_wp2
          go_ret
          exact ⟨ret_bool (by simp), HB7.out⟩
        · cases b3
          · go_wp2
            go_ret
            exact ⟨ret_bool (by simp), HB7.out⟩
          · cases b4
            · go_wp2
              go_ret
              exact ⟨ret_bool (by simp), HB7.out⟩
            · obtain rfl := HV.out rfl rfl rfl rfl
              go_wp2
              go_ret
              exact ⟨ret_bool (by simp), HB7.out⟩
  · have hd : (1048576 : Int) < (n : Int) := by omega
    go_enter Try.func11, Try.ntmps11
    go_wp2
    go_ret
    exact ⟨rfl, Below.refl _ _⟩
end Go.Proofs.Ytcacdgojibojgad
