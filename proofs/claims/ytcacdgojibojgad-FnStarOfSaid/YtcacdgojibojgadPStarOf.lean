/-
  The walk of the law FnStarOf.
-/
import Derived.Test.YtcacdgojibojgadPSumBase
import Derived.Test.YtcacdgojibojgadSpecStar
import Derived.Test.YtcacdgojibojgadStarTextI
import Derived.Test.YtcacdgojibojgadBelowI
set_option linter.unusedVariables false
set_option linter.unusedSimpArgs false
namespace Go.Proofs.Ytcacdgojibojgad
open Go.RowKit

theorem law_less (n x : Nat) (h : x ≤ n) : n + 1 - (intOf (.int .i64 ((x : Int) + 1))).toNat < n + 1 - (intOf (.int .i64 x)).toNat := by
  show n + 1 - ((x : Int) + 1).toNat < n + 1 - ((x : Int)).toNat
  omega
theorem ask_zero {s : ByteArray} (h : okS s = true) (m : Int) (W : World) (hs : s.size ≤ 1048576) (hL : LibAt m W) :
    Calls Try.prog 15 #[.string s, .int .i64 0] W fun e w' => e = .returned (.bool (fS s 0)) ∧ Below W.heap.size W w' := ask_set h 0 m W hs (by decide) hL
theorem star_closed {f g : Nat → Bool} (h : g = starB f) (x y : Nat) (h1 : g x = true) (h2 : g y = true) : g (x + y) = true := by
  subst h; exact starB_iff.2 (star_add (starB_iff.1 h1) (starB_iff.1 h2))
theorem starB_starB (f : Nat → Bool) : starB (starB f) = starB f := by
  funext n
  apply bool_iff
  rw [starB_iff, starB_iff]
  exact ⟨star_star fun x hx => starB_iff.1 hx, star_mono fun x hx => starB_iff.2 (star_one hx)⟩
theorem star_again {f : Nat → Bool} {T V : ByteArray} {ok : Bool} (h : fS T = starB f) (hT : TidyText (starB f) T) (hV : MakeIs ok (starB (fS T)) V true) : V = T := by
  have h2 := (makeIs_told hV).2
  rw [h, starB_starB] at h2
  exact tidyText_same h2 hT
theorem star_above {s T : ByteArray} (h : fS T = starB (fS s)) (n : Nat) : cex s T n = false := by
  show (fS s n && !fS T n) = false
  rw [h]
  cases e : fS s n
  · rfl
  · rw [starB_iff.2 (star_one e)]; rfl

set_option maxRecDepth 100000 in
set_option maxHeartbeats 4000000 in
theorem pStarOf (a : Option Addr) (n c : Nat) (zs : List Int) (w : World) (hr : IsRow .u8 w a n c zs) (m : Int) (hg : 0 < w.heap.size) (hm : w.cell? ⟨0, 0, none⟩ = some (.int .i64 m)) :
    Calls Try.prog 5 #[.slice a n c] w fun e w' => e = .returned (.bool true) ∧ Below w.heap.size w w' := by
  by_cases hn : n ≤ 1048576
  · have hL : LibAt m w := ⟨hg, hm⟩
    clear hg hm
    have hB := Lib.hid hr.bytes
    have hC := Lib.hid hr.cap
    clear hr
    go_enter Try.func5, Try.ntmps5
    go_wp2_with fail
    refine (drawStarOf a n c _ hB.out hn hC.out).mono ?_
    rintro e w1 ⟨s, rfl, hs, hb1⟩
    have HB1 := Lib.hid hb1
    have HL1 := Lib.hid (hL.below hb1)
    clear hb1
    go_wp2_with fail
    refine (implStar s m _ (by omega) HL1.out).mono ?_
    rintro e w2 ⟨⟨T, b, rfl, hm2⟩, hx2⟩
    have HB2 := Lib.hid (below_step HB1.out hx2)
    have HL2 := Lib.hid (HL1.out.below hx2)
    have HM := Lib.hid hm2
    clear hx2 hm2
    go_wp2_with fail
    refine (specStar s _ (by omega)).mono ?_
    rintro e w3 ⟨⟨U, c, rfl, hm3⟩, hx3⟩
    have HB3 := Lib.hid (below_step HB2.out hx3)
    have HL3 := Lib.hid (HL2.out.below hx3)
    obtain ⟨rfl, rfl⟩ := makeIs_unique HM.out hm3
    clear hx3 hm3
    cases b
    · go_wp2
      go_ret
      exact ⟨ret_bool (by simp), HB3.out⟩
    · obtain ⟨hok, hT⟩ := makeIs_told HM.out
      have HT := Lib.hid hT
      have HO := Lib.hid hT.told.ok
      have HF := Lib.hid hT.told.set
      have hTs := told_size hT.told.ok
      have HCl := Lib.hid (star_closed HF.out)
      have HS1 := Lib.hid (small_ok hok)
      clear HM hT
      go_wp2
      go_loopw [9] (fun i wr => ∃ z : Nat, i = .int .i64 z ∧ z ≤ 41 ∧ Below w.heap.size w wr ∧ LibAt m wr) (fun i _ => 42 - (intOf i).toNat)
      case atStart => exact ⟨0, rfl, by omega, HB3.out, HL3.out⟩
      case round =>
        obtain ⟨z, rfl, hz, hbz, hLz⟩ := hrel
        have HB0 := Lib.hid hbz
        have HL0 := Lib.hid hLz
        clear hbz hLz
        by_cases hlt : z ≤ 40
        · have hltI : (z : Int) ≤ 40 := by omega
          go_wp2
          go_loopw [10] (fun i wr => ∃ x : Nat, i = .int .i64 x ∧ x ≤ z + 1 ∧ Below w.heap.size w wr ∧ LibAt m wr) (fun i _ => z + 1 - (intOf i).toNat)
          case atStart => exact ⟨0, rfl, by omega, HB0.out, HL0.out⟩
          case round =>
            obtain ⟨x, rfl, hx, hbx, hLx⟩ := hrel
            have HB5 := Lib.hid hbx
            have HL5 := Lib.hid hLx
            clear hbx hLx HB0 HL0
            by_cases hxz : x ≤ z
            · obtain ⟨y, hy⟩ : ∃ y, y = z - x := ⟨_, rfl⟩
              have hyi : (z : Int) - (x : Int) = (y : Int) := by omega
              have hy2 : y ≤ z := by omega
              have HY : Hid (x + y = z) := Lib.hid (by omega)
              clear hy
              have ef := ask_set HO.out x m
              cases hf : fS T x
              · rw [hf] at ef
                clear hf
                go_wp2_with fail
                refine (ef _ hTs (by omega) HL5.out).mono ?_
                rintro e w6 ⟨rfl, hx6⟩
                have HB6 := Lib.hid (below_step HB5.out hx6)
                have HL6 := Lib.hid (HL5.out.below hx6)
                clear hx6 ef
                go_wp2
                go_roundw
                case rel => exact ⟨x + 1, by go_num, by omega, HB6.out, HL6.out⟩
                case measure => exact law_less z x (by omega)
              · have eg := ask_set HO.out y m
                cases hg : fS T y
                · rw [hf] at ef
                  rw [hg] at eg
                  clear hf hg
                  go_wp2_with fail
                  refine (ef _ hTs (by omega) HL5.out).mono ?_
                  rintro e w6 ⟨rfl, hx6⟩
                  have HB6 := Lib.hid (below_step HB5.out hx6)
                  have HL6 := Lib.hid (HL5.out.below hx6)
                  clear hx6 ef
                  go_wp2_with fail
                  refine (eg _ hTs (by omega) HL6.out).mono ?_
                  rintro e w7 ⟨rfl, hx7⟩
                  have HB7 := Lib.hid (below_step HB6.out hx7)
                  have HL7 := Lib.hid (HL6.out.below hx7)
                  clear hx7 eg
                  go_wp2
                  go_roundw
                  case rel => exact ⟨x + 1, by go_num, by omega, HB7.out, HL7.out⟩
                  case measure => exact law_less z x (by omega)
                · have eh := ask_set HO.out z m
                  have hh : fS T z = true := by rw [← HY.out]; exact HCl.out x y hf hg
                  rw [hf] at ef
                  rw [hg] at eg
                  rw [hh] at eh
                  clear hf hg hh
                  go_wp2_with fail
                  refine (ef _ hTs (by omega) HL5.out).mono ?_
                  rintro e w6 ⟨rfl, hx6⟩
                  have HB6 := Lib.hid (below_step HB5.out hx6)
                  have HL6 := Lib.hid (HL5.out.below hx6)
                  clear hx6 ef
                  go_wp2_with fail
                  refine (eg _ hTs (by omega) HL6.out).mono ?_
                  rintro e w7 ⟨rfl, hx7⟩
                  have HB7 := Lib.hid (below_step HB6.out hx7)
                  have HL7 := Lib.hid (HL6.out.below hx7)
                  clear hx7 eg
                  go_wp2_with fail
                  refine (eh _ hTs (by omega) HL7.out).mono ?_
                  rintro e w8 ⟨rfl, hx8⟩
                  have HB8 := Lib.hid (below_step HB7.out hx8)
                  have HL8 := Lib.hid (HL7.out.below hx8)
                  clear hx8 eh
                  go_wp2
                  go_roundw
                  case rel => exact ⟨x + 1, by go_num, by omega, HB8.out, HL8.out⟩
                  case measure => exact law_less z x (by omega)
            · obtain rfl : x = z + 1 := by omega
              go_wp2
              go_roundw
              case rel => exact ⟨z + 1, by go_num, by omega, HB5.out, HL5.out⟩
              case measure => simp [intOf]; omega
        · obtain rfl : z = 41 := by omega
          have e0 := ask_zero HO.out m
          rw [show fS T 0 = true by rw [HF.out]; exact starB_zero _] at e0
          go_wp2_with fail
          refine (implStar T m _ hTs HL0.out).mono ?_
          rintro e w5 ⟨⟨V, d, rfl, hm5⟩, hx5⟩
          have HB5 := Lib.hid (below_step HB0.out hx5)
          have HL5 := Lib.hid (HL0.out.below hx5)
          have HV : Hid (d = true → V = T) := Lib.hid (fun h1 => by subst h1; exact star_again HF.out HT.out hm5)
          clear hx5 hm5
          go_wp2_with fail
          refine (e0 _ hTs HL5.out).mono ?_
          rintro e w6 ⟨rfl, hx6⟩
          have HB6 := Lib.hid (below_step HB5.out hx6)
          have HL6 := Lib.hid (HL5.out.below hx6)
          clear hx6
          go_wp2_with fail
          refine (implBelow s T m true _ (by omega) hTs HL6.out (.yes HS1.out HO.out (star_above HF.out))).mono ?_
          rintro e w7 ⟨rfl, hx7⟩
          have HB7 := Lib.hid (below_step HB6.out hx7)
          have HL7 := Lib.hid (HL6.out.below hx7)
          clear hx7
          clear e0
          cases d
          · go_wp2
            go_ret
            exact ⟨ret_bool (by simp), HB7.out⟩
          · obtain rfl := HV.out rfl
            go_wp2
            go_ret
            exact ⟨ret_bool (by simp), HB7.out⟩
  · have hd : (1048576 : Int) < (n : Int) := by omega
    go_enter Try.func5, Try.ntmps5
    go_wp2
    go_ret
    exact ⟨rfl, Below.refl _ _⟩
end Go.Proofs.Ytcacdgojibojgad
