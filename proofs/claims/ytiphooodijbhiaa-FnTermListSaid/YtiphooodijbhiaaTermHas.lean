/-
  The walks of TermHas and TermEmpty, of the program and of the model.
-/
import Derived.Test.YtiphooodijbhiaaTermFirstI
import Derived.Test.YtiphooodijbhiaaTermMarksS
import Derived.Test.YtiphooodijbhiaaInS
set_option linter.unusedVariables false
set_option linter.unusedSimpArgs false
namespace Go.Proofs.Ytiphooodijbhiaa
open Go.RowKit

/-- What TermHas answers. -/
noncomputable def hasTV (s : ByteArray) (n : Int) : Bool := match termOf s.data.toList with | some t => inR n 0 200 && tmF t n.toNat | none => false
theorem hasTV_none {s : ByteArray} {n : Int} (h : termOf s.data.toList = none) : hasTV s n = false := by unfold hasTV; rw [h]
theorem hasTV_out {s : ByteArray} {n : Int} {t : Tm} (h : termOf s.data.toList = some t) (hn : inR n 0 200 = false) : hasTV s n = false := by unfold hasTV; rw [h]; show (inR n 0 200 && _) = false; rw [hn]; rfl
theorem hasTV_in {s : ByteArray} {n : Nat} {t : Tm} (h : termOf s.data.toList = some t) (hn : n ≤ 200) : hasTV s n = tmF t n := by
  unfold hasTV; rw [h]
  show (inR (n : Int) 0 200 && tmF t ((n : Int).toNat)) = _
  rcases inR_cases n 0 200 with ⟨e, _⟩ | ⟨_, e⟩
  · rw [e, Int.toNat_natCast]; rfl
  · omega

set_option maxRecDepth 100000 in
set_option maxHeartbeats 2000000 in
theorem implTermHas (s : ByteArray) (n m : Int) (w : World) (hL : LibAt m w) : Calls Try.prog 39 #[.string s, .int .i64 n] w fun e w' => e = .returned (.bool (hasTV s n)) ∧ Below w.heap.size w w' := by
  have HL := Lib.hid hL
  have HI := Lib.hid (fun w => readTerm_any s w)
  clear hL
  cases h : termOf s.data.toList with
  | none =>
    rw [hasTV_none h]
    rw [h] at HI
    clear h
    go_enter Try.func39, Try.ntmps39
    go_wp2_with fail
    refine (HI.out _).mono ?_
    rintro e w1 ⟨he, k, rfl⟩
    rw [show e = _ from he]
    clear he
    go_wp2_with fail
    go_ret
    exact ⟨rfl, below_drewN (Below.refl _ _) k⟩
  | some t =>
    rw [h] at HI
    have HH := Lib.hid h
    obtain ⟨_, ho, _⟩ := termOf_some h
    have HT := Lib.hid (fun w hL => termFirst_any m t w ho hL)
    have hm := method_first t
    have he := first_enters t
    clear h ho
    rcases inR_cases n 0 200 with ⟨hin, hlo, hhi⟩ | ⟨hout, _⟩
    · obtain ⟨k, rfl⟩ := Int.eq_ofNat_of_zero_le hlo
      rw [hasTV_in HH.out (by omega)]
      have hk : k < 201 := by omega
      have HIN := Lib.hid (fun w => between_in k 0 200 w hin)
      clear hin
      go_enter Try.func39, Try.ntmps39
      go_wp2_with fail
      refine (HI.out _).mono ?_
      rintro e w1 ⟨hr, j, rfl⟩
      rw [show e = _ from hr]
      clear hr
      have HB := Lib.hid (below_drewN (Below.refl w.heap.size w) j)
      simp only [tmV]
      go_wp2_with (first
        | (go_at_call 65; (with_reducible refine (HIN.out _).mono ?_); rintro e w3 ⟨rfl, rfl⟩)
        | (go_at_fn (firstF t); refine (HT.out _ (HL.out.below HB.out)).mono ?_; rintro e w2 ⟨⟨G, o, M, rfl, hG, hN⟩, hb⟩; have c1 := hN.cell hk; have HB2 := Lib.hid (HB.out.trans (hb.mono HB.out.size)); clear hb hN hG))
      go_ret
      exact ⟨by cases tmF t k <;> rfl, HB2.out⟩
    · rw [hasTV_out HH.out hout]
      have HOUT := Lib.hid (fun w => between_out n 0 200 w hout)
      clear hout
      go_enter Try.func39, Try.ntmps39
      go_wp2_with fail
      refine (HI.out _).mono ?_
      rintro e w1 ⟨hr, j, rfl⟩
      rw [show e = _ from hr]
      clear hr
      have HB := Lib.hid (below_drewN (Below.refl w.heap.size w) j)
      simp only [tmV]
      go_wp2_with (first
        | (go_at_call 65; (with_reducible refine (HOUT.out _).mono ?_); rintro e w3 ⟨rfl, rfl⟩))
      go_ret
      exact ⟨rfl, HB.out⟩

set_option maxRecDepth 100000 in
set_option maxHeartbeats 2000000 in
theorem specTermHas (s : ByteArray) (n : Int) (w : World) : Calls Try.prog 40 #[.string s, .int .i64 n] w fun e w' => e = .returned (.bool (hasTV s n)) ∧ Below w.heap.size w w' := by
  have HI := Lib.hid (fun w => l7Of_any s w)
  cases h : termOf s.data.toList with
  | none =>
    rw [hasTV_none h]
    rw [h] at HI
    clear h
    go_enter Try.func40, Try.ntmps40
    go_wp2_with fail
    refine (HI.out _).mono ?_
    rintro e w1 ⟨he, hb⟩
    obtain ⟨c, a, q, k, rfl, _⟩ := he.form
    have HB := Lib.hid (hb.alloc hb.size (.cells #[.int .u8 c.toNat, .slice a q k] 100))
    clear he hb
    go_wp2_with fail
    go_ret
    exact ⟨rfl, HB.out⟩
  | some t =>
    rw [h] at HI
    have HH := Lib.hid h
    obtain ⟨_, ho, _⟩ := termOf_some h
    have HT := Lib.hid (fun B v N w hI hN => marks_any t B v N w ho hI hN)
    clear h ho
    rcases inR_cases n 0 200 with ⟨_, hlo, hhi⟩ | ⟨hout, hoo⟩
    · obtain ⟨k, rfl⟩ := Int.eq_ofNat_of_zero_le hlo
      rw [hasTV_in HH.out (by omega)]
      have hk : k < k + 1 := by omega
      have hkw : (k : Int) ≤ 200 := hhi
      go_enter Try.func40, Try.ntmps40
      go_wp2_with fail
      refine (HI.out _).mono ?_
      rintro e w1 ⟨he, hb⟩
      obtain ⟨c, a, q, j, rfl, hI⟩ := he.form
      have HB := Lib.hid (hb.alloc hb.size (.cells #[.int .u8 c.toNat, .slice a q j] 100))
      have HX := Lib.hid (HT.out _ _ (k + 1) (w1.alloc (.cells #[.int .u8 c.toNat, .slice a q j] 100)) ((hI t rfl).step ((Below.refl _ _).alloc (Nat.le_refl _) _)) (by omega))
      clear he hb hI
      go_wp2_with fail
      refine (l6In_yes k 0 200 _ (by omega) (by omega)).mono ?_
      rintro e w2 ⟨rfl, rfl⟩
      go_wp2_with fail
      refine HX.out.mono ?_
      rintro e w2 ⟨⟨G, rfl, hG, hr⟩, hb2⟩
      have c1 := hr.cell hk
      have HB2 := Lib.hid (HB.out.trans (hb2.mono HB.out.size))
      clear hG hr hb2
      go_wp2_with fail
      go_ret
      exact ⟨by cases tmF t k <;> rfl, HB2.out⟩
    · rw [hasTV_out HH.out hout]
      clear hout
      go_enter Try.func40, Try.ntmps40
      go_wp2_with fail
      refine (HI.out _).mono ?_
      rintro e w1 ⟨he, hb⟩
      obtain ⟨c, a, q, j, rfl, _⟩ := he.form
      have HB := Lib.hid (hb.alloc hb.size (.cells #[.int .u8 c.toNat, .slice a q j] 100))
      clear he hb
      go_wp2_with fail
      refine (l6In_no n 0 200 _ hoo (by decide)).mono ?_
      rintro e w2 ⟨rfl, rfl⟩
      go_wp2_with fail
      go_ret
      exact ⟨rfl, HB.out⟩

end Go.Proofs.Ytiphooodijbhiaa
