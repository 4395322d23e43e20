/-
  The walk of SolveTwo, of the model.
-/
import Derived.Test.YtiphooodijbhiabSpecLow
set_option linter.unusedVariables false
set_option linter.unusedSimpArgs false
namespace Go.Proofs.Ytiphooodijbhiab
open Go.RowKit

noncomputable def twoTo (f g : Nat → Bool) (x y : Nat) : Bool := g x || someF (fun y => f y && twoX f g (x - y - 1)) 0 y
theorem twoTo_zero (f g : Nat → Bool) (x : Nat) : twoTo f g x 0 = g x := by unfold twoTo someF; rw [Bool.or_false]
theorem twoTo_next {f g : Nat → Bool} {x y : Nat} {b c : Bool} (h : twoTo f g x y = b) (h2 : (f y && twoX f g (x - y - 1)) = c) : twoTo f g x (y + 1) = (b || c) := by
  unfold twoTo at h ⊢
  rw [show someF (fun y => f y && twoX f g (x - y - 1)) 0 (y + 1) = (someF (fun y => f y && twoX f g (x - y - 1)) 0 y || (f (0 + y) && twoX f g (x - (0 + y) - 1))) from rfl, ← Bool.or_assoc, h, Nat.zero_add, h2]
theorem twoTo_done (f g : Nat → Bool) (x : Nat) : twoTo f g x x = twoX f g x := (twoX_model f g x).symm

theorem two_off {s t : ByteArray} {n : Int} {e : Ending} (h : twoOk s t n = false) (he : e = .returned (.tuple #[.int .i64 0, .bool false])) : e = .returned (.tuple #[.int .i64 (twoN s t n), .bool (twoOk s t n)]) := by
  rw [he]; unfold twoN; rw [h]; rfl
theorem two_on {s t : ByteArray} {n : Nat} {e : Ending} (h : twoOk s t n = true) (he : e = .returned (.tuple #[.int .i64 (countF (twoX (fS s) (fS t)) n : Nat), .bool true])) : e = .returned (.tuple #[.int .i64 (twoN s t n), .bool (twoOk s t n)]) := by
  rw [he]; unfold twoN; rw [h]; rfl

set_option maxRecDepth 100000 in
set_option maxHeartbeats 4000000 in
theorem specSolveTwo (s t : ByteArray) (n : Int) (w : World) (hs : s.size ≤ 1048576) (ht : t.size ≤ 1048576) :
    Calls Try.prog 43 #[.string s, .string t, .int .i64 n] w fun e w' => e = .returned (.tuple #[.int .i64 (twoN s t n), .bool (twoOk s t n)]) ∧ Below w.heap.size w w' := by
  obtain ⟨i0, hi0, hz0, hz1, hz2⟩ := info_parts Try.infoBool
  go_enter Try.func43, Try.ntmps43
  go_wp2_with fail
  refine (l4Small_any s _ hs).mono ?_
  rintro e w1 ⟨a1, n1, c1, a2, n2, c2, rfl, hb1, hA⟩
  have hA2 := fun h => (hA h).alloc (.cells #[.slice a1 n1 c1, .slice a2 n2 c2] 77)
  go_wp2_with fail
  refine (l4Small_any t _ ht).mono ?_
  rintro e w2 ⟨b1, m1, d1, b2, m2, d2, rfl, hb2, hB⟩
  have hb3 := below_step (hb1.alloc hb1.size (.cells #[.slice a1 n1 c1, .slice a2 n2 c2] 77)) hb2
  have HB2 := Lib.hid (hb3.alloc hb3.size (.cells #[.slice b1 m1 d1, .slice b2 m2 d2] 77))
  have hA3 := fun h => ((hA2 h).below hb2 (Nat.le_refl _)).alloc (.cells #[.slice b1 m1 d1, .slice b2 m2 d2] 77)
  have hB3 := fun h => (hB h).alloc (.cells #[.slice b1 m1 d1, .slice b2 m2 d2] 77)
  obtain ⟨q0, q1⟩ := box_later (hb2.alloc hb2.size (.cells #[.slice b1 m1 d1, .slice b2 m2 d2] 77))
  obtain ⟨p0, p1⟩ := box_later (w1 := w2) (u := .slice b1 m1 d1) (v := .slice b2 m2 d2) (T := 77) (Below.refl _ _)
  clear hb1 hb2 hb3 hA hA2 hB
  cases hp : smallS s
  · have HO : Hid (twoOk s t n = false) := Lib.hid (by unfold twoOk; rw [hp]; rfl)
    clear hp hA3 hB3
    cases smallS t
    all_goals
      go_wp2
      go_ret2
      exact ⟨two_off HO.out rfl, HB2.out⟩
  · have HA := Lib.hid (hA3 hp)
    cases hq : smallS t
    · have HO : Hid (twoOk s t n = false) := Lib.hid (by unfold twoOk; rw [hp, hq]; rfl)
      clear hp hq hA3 hB3
      go_wp2
      go_ret2
      exact ⟨two_off HO.out rfl, HB2.out⟩
    · have HB := Lib.hid (hB3 hq)
      rcases inR_cases n 0 500 with ⟨hi, h0, h5⟩ | ⟨hi, ho⟩
      · obtain ⟨N, rfl⟩ := Int.eq_ofNat_of_zero_le h0
        have HO : Hid (twoOk s t N = true) := Lib.hid (by unfold twoOk; rw [hp, hq, hi]; rfl)
        have hN : N ≤ 500 := by omega
        obtain ⟨f, hf⟩ : ∃ f, f = fS s := ⟨_, rfl⟩
        obtain ⟨g, hg⟩ : ∃ g, g = fS t := ⟨_, rfl⟩
        have HEnd : Hid (∀ c : Nat, c = countF (twoX f g) N → ∀ e : Ending, e = .returned (.tuple #[.int .i64 (c : Nat), .bool true]) → e = .returned (.tuple #[.int .i64 (twoN s t N), .bool (twoOk s t N)])) := Lib.hid (fun c hc e he => by
          subst hc
          rw [hf, hg] at he
          exact two_on HO.out he)
        have HIn := Lib.hid (fun W => l6In_yes (N : Int) 0 500 W h0 h5)
        rw [← hf] at HA
        rw [← hg] at HB
        have HL0 := Lib.hid (lowLoop_start (twoX f g) N q0 q1 p0 p1 HB2.out)
        clear hp hq hA3 hB3 hi hf hg
        go_wp2_with fail
        refine (HIn.out _).mono ?_
        rintro e w3 ⟨rfl, rfl⟩
        go_wp2_with (at_make; refine wpList_make_row _ rfl _ _ 65 rfl 4 i0 (.bool false) Try.underlying65 hi0 hz0 hz1 rfl .i64 .i64 N rfl rfl ?b1 ?b2 ?_)
        case b1 => rw [hz2]; omega
        case b2 => omega
        clear q0 q1 p0 p1
        rw [World.size_alloc] at HL0
        obtain ⟨G, hG⟩ : ∃ G, G = w2.heap.size + 1 := ⟨_, rfl⟩
        rw [← hG] at HL0
        rw [← hG]
        have HG : Hid (G = (w2.alloc (.cells #[.slice b1 m1 d1, .slice b2 m2 d2] 77)).heap.size) := Lib.hid (by rw [World.size_alloc]; exact hG)
        clear hG
        go_wp2
        go_loopw [13, 14] (fun mv xi wr => ∃ x : Nat, x ≤ N ∧ xi = .int .i64 x ∧ mv = .int .i64 (countF (twoX f g) x : Nat) ∧ LowLoop (twoX f g) (.slice a1 n1 c1) (.slice a2 n2 c2) (.slice b1 m1 d1) (.slice b2 m2 d2) w1.heap.size w2.heap.size G N x false w wr ∧ Below G (w2.alloc (.cells #[.slice b1 m1 d1, .slice b2 m2 d2] 77)) wr) (fun _ i _ => N - (intOf i).toNat)
        case atStart => exact ⟨0, Nat.zero_le _, rfl, rfl, HL0.out, (Below.refl _ _).alloc (by rw [HG.out]; exact Nat.le_refl _) _⟩
        case round =>
          obtain ⟨x, hx, rfl, rfl, hl, hbg⟩ := hrel
          have hcl := countF_le (twoX f g) x
          obtain ⟨k, hk⟩ : ∃ k, k = countF (twoX f g) x := ⟨_, rfl⟩
          have HK := Lib.hid hk
          rw [← hk] at hcl ⊢
          clear hk
          by_cases hlt : x < N
          · have HL := Lib.hid hl
            have HBg := Lib.hid hbg
            have q0 := hl.r0
            have q1 := hl.r1
            have hcall := small_has (c1 := d1) (c2 := d2) x (HB.out.below hbg (by rw [HG.out]; exact Nat.le_refl _)) (by omega)
            clear hl hbg
            go_wp2_with fail
            refine hcall.mono ?_
            rintro e w3 ⟨rfl, hb3⟩
            have HL3 := Lib.hid (HL.out.step hb3)
            obtain ⟨dX, dF⟩ := HL3.out.cellX hlt
            have HL4 := Lib.hid (HL3.out.set (g x))
            have HBg4 := Lib.hid ((HBg.out.trans (hb3.mono (by rw [HG.out]; exact HBg.out.size))).setCell (p := ⟨G, x, none⟩) (Nat.le_refl _) (.bool (g x)))
            clear hb3 hcall HL q0 q1 HBg
            go_wp2
            go_loopw [15] (fun yi wr => ∃ y : Nat, y ≤ x ∧ yi = .int .i64 y ∧ LowLoop (twoX f g) (.slice a1 n1 c1) (.slice a2 n2 c2) (.slice b1 m1 d1) (.slice b2 m2 d2) w1.heap.size w2.heap.size G N x (twoTo f g x y) w wr ∧ Below G (w2.alloc (.cells #[.slice b1 m1 d1, .slice b2 m2 d2] 77)) wr) (fun i _ => x - (intOf i).toNat)
            case atStart => exact ⟨0, Nat.zero_le _, rfl, by rw [twoTo_zero]; exact HL4.out, HBg4.out⟩
            case round =>
              obtain ⟨y, hy, rfl, hl5, hbg5⟩ := hrel
              have HL5 := Lib.hid hl5
              have HBg5 := Lib.hid hbg5
              clear hl5 hbg5
              obtain ⟨cX, cF⟩ := HL5.out.cellX hlt
              by_cases hyx : y < x
              · have hyi : (y : Int) < (x : Int) := by omega
                cases hb : twoTo f g x y
                · rw [hb] at cX
                  have q0 := HL5.out.q0
                  have q1 := HL5.out.q1
                  have hcall := small_has (c1 := c1) (c2 := c2) y (HA.out.below HBg5.out (by rw [HG.out]; exact Nat.le_refl _)) (by omega)
                  cases hf : f y
                  · have HT : Hid (twoTo f g x (y + 1) = false) := Lib.hid (by rw [twoTo_next hb (c := false) (by rw [hf]; rfl)]; rfl)
                    rw [hf] at hcall
                    clear hb hf
                    go_wp2_with fail
                    refine hcall.mono ?_
                    rintro e w6 ⟨rfl, hb6⟩
                    have HL6 := Lib.hid (HL5.out.step hb6)
                    obtain ⟨eX, eF⟩ := HL6.out.cellX hlt
                    have HL7 := Lib.hid (HL6.out.set false)
                    have HBg7 := Lib.hid ((HBg5.out.trans (hb6.mono (by rw [HG.out]; exact HBg5.out.size))).setCell (p := ⟨G, x, none⟩) (Nat.le_refl _) (.bool false))
                    clear hb6 hcall cX cF
                    go_wp2
                    go_roundw
                    case rel => exact ⟨y + 1, by omega, by go_num, by rw [HT.out]; exact HL7.out, HBg7.out⟩
                    case measure => simp [intOf]; omega
                  · obtain ⟨j, hj⟩ : ∃ j, j = x - y - 1 := ⟨_, rfl⟩
                    have HT : Hid (twoTo f g x (y + 1) = twoX f g j) := Lib.hid (by rw [twoTo_next hb (c := twoX f g j) (by rw [hf, ← hj]; rfl)]; rfl)
                    have hki : (x : Int) - (y : Int) - 1 = (j : Int) := by omega
                    have hkn : j < x := by omega
                    have hkN : j < N := by omega
                    rw [hf] at hcall
                    clear hb hf hj
                    go_wp2_with fail
                    refine hcall.mono ?_
                    rintro e w6 ⟨rfl, hb6⟩
                    have HL6 := Lib.hid (HL5.out.step hb6)
                    obtain ⟨eX, eF⟩ := HL6.out.cellX hlt
                    have cL := HL6.out.cellL hlt hkn
                    have HL7 := Lib.hid (HL6.out.set (twoX f g j))
                    have HBg7 := Lib.hid ((HBg5.out.trans (hb6.mono (by rw [HG.out]; exact HBg5.out.size))).setCell (p := ⟨G, x, none⟩) (Nat.le_refl _) (.bool (twoX f g j)))
                    clear hb6 hcall cX cF
                    go_wp2
                    go_roundw
                    case rel => exact ⟨y + 1, by omega, by go_num, by rw [HT.out]; exact HL7.out, HBg7.out⟩
                    case measure => simp [intOf]; omega
                · rw [hb] at cX
                  have HT : Hid (twoTo f g x (y + 1) = true) := Lib.hid (by rw [twoTo_next hb rfl]; rfl)
                  have HL7 := Lib.hid (HL5.out.set true)
                  have HBg7 := Lib.hid (HBg5.out.setCell (p := ⟨G, x, none⟩) (Nat.le_refl _) (.bool true))
                  clear hb
                  go_wp2
                  go_roundw
                  case rel => exact ⟨y + 1, by omega, by go_num, by rw [HT.out]; exact HL7.out, HBg7.out⟩
                  case measure => simp [intOf]; omega
              · obtain rfl : y = x := by omega
                have HN := Lib.hid (HL5.out.next (twoTo_done f g y))
                rw [twoTo_done] at cX
                have hyi : ¬ (y : Int) < (y : Int) := by omega
                cases hv : twoX f g y
                · rw [hv] at cX
                  have HC : Hid (countF (twoX f g) (y + 1) = k) := Lib.hid (by rw [countF_off hv, HK.out])
                  clear hv
                  go_wp2
                  go_roundw
                  case rel => exact ⟨y + 1, by omega, by go_num, by rw [HC.out], HN.out, HBg5.out⟩
                  case measure => simp [intOf]; omega
                · rw [hv] at cX
                  have HC : Hid (countF (twoX f g) (y + 1) = k + 1) := Lib.hid (by rw [countF_on hv, HK.out])
                  clear hv
                  go_wp2
                  go_roundw
                  case rel => exact ⟨y + 1, by omega, by go_num, by rw [HC.out]; go_num, HN.out, HBg5.out⟩
                  case measure => simp [intOf]; omega
          · obtain rfl : x = N := by omega
            have HL := Lib.hid hl.below
            clear hl hbg
            go_wp2
            go_ret2
            exact ⟨HEnd.out k HK.out _ rfl, HL.out⟩
      · have HO : Hid (twoOk s t n = false) := Lib.hid (by unfold twoOk; rw [hi, Bool.and_false])
        have HIn := Lib.hid (fun W => l6In_no n 0 500 W ho (by decide))
        clear hp hq hA3 hB3 hi
        go_wp2_with fail
        refine (HIn.out _).mono ?_
        rintro e w3 ⟨rfl, rfl⟩
        go_wp2
        go_ret2
        exact ⟨two_off HO.out rfl, HB2.out⟩

end Go.Proofs.Ytiphooodijbhiab
