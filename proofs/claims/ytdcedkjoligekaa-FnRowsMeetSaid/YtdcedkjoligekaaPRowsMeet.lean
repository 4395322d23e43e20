/-
  The walk of the law on RowsMeet: what is met is in both.
-/
import Derived.Test.YtdcedkjoligekaaDrawRowsMeet
import Derived.Test.YtdcedkjoligekaaRowMeetS
import Derived.Test.YtdcedkjoligekaaRowMeet
import Derived.Test.YtdcedkjoligekaaInRow
import Derived.Test.YtdcedkjoligekaaSameInts
import Derived.Test.YtdcedkjoligekaaRowBytes
namespace Go.Proofs.Ytdcedkjoligekaa
open Go.RowKit
set_option linter.unusedVariables false

theorem meetYes_comm {z t : List Int} {m : Nat} (h : MeetYes z t m) : MeetYes t z m := ⟨h.2.1, h.1, least_comm h.2.2.1, h.2.2.2.1, by rw [stepOf_comm]; exact h.2.2.2.2⟩
theorem meetAns_comm {z t l : List Int} {b : Bool} (h : MeetAns z t l b) : MeetAns t z l b := by
  rcases h with ⟨rfl, m, hm, rfl⟩ | ⟨rfl, rfl, hn⟩
  · exact .inl ⟨rfl, m, meetYes_comm hm, by rw [stepOf_comm]⟩
  · exact .inr ⟨rfl, rfl, fun m hm => hn m (meetYes_comm hm)⟩

theorem below_drewB {w w' : World} {B : Nat} (h : ∃ nd, w' = w.drewN nd) : Below B w w' := by
  obtain ⟨nd, rfl⟩ := h
  exact below_drewN (Below.refl _ _) _

set_option maxRecDepth 100000 in
set_option maxHeartbeats 4000000 in
theorem pRowsMeet (a : Option Addr) (n c : Nat) (zs : List Int) (w : World) (hr : IsRow .u8 w a n c zs) :
    Calls Try.prog 7 #[.slice a n c] w fun e w' => e = .returned (.bool true) ∧ Below w.heap.size w w' := by
  by_cases hn : n ≤ 1048576
  · have HD := Lib.hid (drawRowsMeet a n c w hr.bytes hn hr.cap)
    clear hr
    go_enter Try.func7, Try.ntmps7
    go_wp2_with fail
    refine HD.out.mono ?_
    rintro e w1 ⟨g1, g2, b, s, p, q, rfl, hb, hs, hp, hq, hr1, hr2, hb1⟩
    have B1 := Lib.hid hb1
    have R1 := Lib.hid hr1
    have T1 := Lib.hid hr2
    clear hb1 hr1 hr2 HD
    go_wp2_with fail
    refine (implMeet _ _ 2 2 2 2 _ _ _ R1.out T1.out (by decide) (by decide)).mono ?_
    rintro e w2 ⟨l, ok, hl, a2, c2, rfl, hb2, hown2⟩
    have B2 := Lib.hid (B1.out.trans (hb2.mono B1.out.size))
    have R2 := Lib.hid (R1.out.below hb2 (Nat.le_refl _))
    have T2 := Lib.hid (T1.out.below hb2 (Nat.le_refl _))
    have L2 := Lib.hid (readsI_own hown2)
    have HL := Lib.hid hl
    have hle := meetAns_le hl
    clear hb2 hown2 hl R1 T1 B1
    go_wp2_with fail
    refine (specMeet _ _ 2 2 2 2 _ _ _ R2.out T2.out (by decide) (by decide)).mono ?_
    rintro e w3 ⟨l3, b3, hl3, a3, c3, rfl, hb3, hown3⟩
    obtain ⟨rfl, rfl⟩ := meetAns_unique HL.out hl3
    have B3 := Lib.hid (B2.out.trans (hb3.mono B2.out.size))
    have R3 := Lib.hid (R2.out.below hb3 (Nat.le_refl _))
    have T3 := Lib.hid (T2.out.below hb3 (Nat.le_refl _))
    have L3 := Lib.hid (L2.out.below hb3 (Nat.le_refl _))
    have M3 := Lib.hid (readsI_own hown3)
    clear hb3 hown3 hl3 R2 T2 L2 B2
    go_wp2_with fail
    refine (sameInts_same _ _ l.length _ _ l _ L3.out M3.out (by omega)).mono ?_
    rintro e w4 ⟨rfl, hb4⟩
    have hb4' := below_drewB (B := w3.heap.size) hb4
    have B4 := Lib.hid (B3.out.trans (hb4'.mono B3.out.size))
    have R4 := Lib.hid (R3.out.below hb4' (Nat.le_refl _))
    have T4 := Lib.hid (T3.out.below hb4' (Nat.le_refl _))
    have L4 := Lib.hid (L3.out.below hb4' (Nat.le_refl _))
    clear hb4 hb4' R3 T3 L3 M3 B3
    cases ok
    · go_wp2
      go_ret
      exact ⟨rfl, B4.out⟩
    · obtain ⟨m, ⟨hz, ht, hleast, hm59, hst⟩, hl⟩ : ∃ m, MeetYes [(b : Int), (s : Int)] [(p : Int), (q : Int)] m ∧ l = [(m : Int), ((stepOf (theRow [(b : Int), (s : Int)]) (theRow [(p : Int), (q : Int)]) : Nat) : Int)] := by
        rcases HL.out with ⟨_, h⟩ | ⟨h, _⟩
        · exact h
        · cases h
      have er : theRow [(b : Int), (s : Int)] = ⟨b, s⟩ := by unfold theRow; simp
      have eq : theRow [(p : Int), (q : Int)] = ⟨p, q⟩ := by unfold theRow; simp
      rw [er, eq] at hleast hst hl
      obtain ⟨st, hstd⟩ : ∃ st, st = stepOf ⟨b, s⟩ ⟨p, q⟩ := ⟨_, rfl⟩
      have HH := Lib.hid (fun x => least_has hleast x)
      rw [← hstd] at hst hl HH
      have L4' : Hid (IsRw w4 a2 ⟨m, st⟩) := Lib.hid (by have h := L4.out; rw [hl] at h; exact h)
      have HLEN : Hid (l.length = 2) := Lib.hid (by rw [hl]; rfl)
      have R4' : Hid (IsRw w4 (some ⟨g1, 0, none⟩) ⟨b, s⟩) := Lib.hid R4.out
      have T4' : Hid (IsRw w4 (some ⟨g2, 0, none⟩) ⟨p, q⟩) := Lib.hid T4.out
      clear hleast hstd hl er eq hz ht
      rw [HLEN.out]
      go_wp2
      go_loopw [10] (fun i wr => ∃ k : Nat, k ≤ 301 ∧ i = .int .i64 k ∧ Below w4.heap.size w4 wr) (fun i _ => 301 - (intOf i).toNat)
      case atStart => exact ⟨0, by omega, rfl, Below.refl _ _⟩
      case round =>
        obtain ⟨k, hk, rfl, hB⟩ := hrel
        have HB := Lib.hid hB
        clear hB
        by_cases hlt : k ≤ 300
        · have hhk := HH.out k
          have I1 := Lib.hid (L4'.out.below HB.out (Nat.le_refl _))
          cases e1 : (Rw.mk b s).has k
          · rw [e1, Bool.false_and] at hhk
            have HK := Lib.hid hhk
            have E1 := Lib.hid e1
            clear hhk e1
            go_wp2_with fail
            refine (inRow_is a2 c2 ⟨m, st⟩ k _ I1.out (by show m ≤ 1000000; omega) (by show st ≤ 1000000; omega) (by omega)).mono ?_
            rintro e w5 ⟨rfl, hb5⟩
            rw [HK.out]
            have HB5 := Lib.hid (HB.out.trans (hb5.mono HB.out.size))
            have I2 := Lib.hid (R4'.out.below HB5.out (Nat.le_refl _))
            clear hb5
            go_wp2_with fail
            refine (inRow_is _ 2 ⟨b, s⟩ k _ I2.out (by show b ≤ 1000000; omega) (by show s ≤ 1000000; omega) (by omega)).mono ?_
            rintro e w6 ⟨rfl, hb6⟩
            rw [E1.out]
            have HB6 := Lib.hid (HB5.out.trans (hb6.mono HB5.out.size))
            clear hb6
            go_wp2
            go_roundw
            case rel => exact ⟨k + 1, by omega, by go_num, HB6.out⟩
            case measure => simp [intOf]; omega
          · obtain ⟨x, hx⟩ : ∃ x, x = (Rw.mk p q).has k := ⟨_, rfl⟩
            rw [e1, Bool.true_and, ← hx] at hhk
            have HK := Lib.hid hhk
            have E1 := Lib.hid e1
            have HX := Lib.hid hx
            clear hhk e1 hx
            go_wp2_with fail
            refine (inRow_is a2 c2 ⟨m, st⟩ k _ I1.out (by show m ≤ 1000000; omega) (by show st ≤ 1000000; omega) (by omega)).mono ?_
            rintro e w5 ⟨rfl, hb5⟩
            rw [HK.out]
            have HB5 := Lib.hid (HB.out.trans (hb5.mono HB.out.size))
            have I2 := Lib.hid (R4'.out.below HB5.out (Nat.le_refl _))
            clear hb5
            go_wp2_with fail
            refine (inRow_is _ 2 ⟨b, s⟩ k _ I2.out (by show b ≤ 1000000; omega) (by show s ≤ 1000000; omega) (by omega)).mono ?_
            rintro e w6 ⟨rfl, hb6⟩
            rw [E1.out]
            have HB6 := Lib.hid (HB5.out.trans (hb6.mono HB5.out.size))
            have I3 := Lib.hid (T4'.out.below HB6.out (Nat.le_refl _))
            clear hb6
            go_wp2_with fail
            refine (inRow_is _ 2 ⟨p, q⟩ k _ I3.out (by show p ≤ 1000000; omega) (by show q ≤ 1000000; omega) (by omega)).mono ?_
            rintro e w7 ⟨rfl, hb7⟩
            rw [← HX.out]
            have HB7 := Lib.hid (HB6.out.trans (hb7.mono HB6.out.size))
            have hne : (x != x) = false := by simp
            clear hb7
            go_wp2
            go_roundw
            case rel => exact ⟨k + 1, by omega, by go_num, HB7.out⟩
            case measure => simp [intOf]; omega
        · obtain rfl : k = 301 := by omega
          have T5 := Lib.hid (T4'.out.below HB.out (Nat.le_refl _))
          have R5 := Lib.hid (R4'.out.below HB.out (Nat.le_refl _))
          have L5 := Lib.hid (L4.out.below HB.out (Nat.le_refl _))
          go_wp2_with fail
          refine (implMeet _ _ 2 2 2 2 _ _ _ T5.out R5.out (by decide) (by decide)).mono ?_
          rintro e w8 ⟨l8, ok8, hl8, a8, c8, rfl, hb8, hown8⟩
          obtain ⟨rfl, rfl⟩ := meetAns_unique HL.out (meetAns_comm hl8)
          have B8 := Lib.hid (HB.out.trans (hb8.mono HB.out.size))
          have L8 := Lib.hid (L5.out.below hb8 (Nat.le_refl _))
          have M8 := Lib.hid (readsI_own hown8)
          rw [HLEN.out] at L8 M8 ⊢
          clear hb8 hown8 hl8
          go_wp2_with fail
          refine (sameInts_same _ _ 2 _ _ l _ M8.out L8.out (by omega)).mono ?_
          rintro e w9 ⟨rfl, hb9⟩
          have hb9' := below_drewB (B := w8.heap.size) hb9
          have B9 := Lib.hid (B8.out.trans (hb9'.mono B8.out.size))
          clear hb9 hb9'
          go_wp2
          go_ret
          exact ⟨rfl, B4.out.trans (B9.out.mono B4.out.size)⟩
  · have hd : (1048576 : Int) < (n : Int) := by omega
    clear hr
    go_enter Try.func7, Try.ntmps7
    go_wp2
    go_ret
    exact ⟨rfl, Below.refl _ _⟩
end Go.Proofs.Ytdcedkjoligekaa
