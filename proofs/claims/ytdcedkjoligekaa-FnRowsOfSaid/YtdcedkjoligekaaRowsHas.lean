/-
  The walk of impl.countHas: how many rows have a number. The walks of RowsIn and RowsHas, of the program.
-/
import Derived.Test.YtdcedkjoligekaaRowGoing
namespace Go.Proofs.Ytdcedkjoligekaa
open Go.RowKit

set_option linter.unusedVariables false

theorem cnt_stepI (l : List Rw) (n k : Nat) (h : k < l.length) : cnt (l.take (k + 1)) n = cnt (l.take k) n + (if (l.getD k default).has n then 1 else 0) := by
  rw [cnt_take l n k h, List.getD_eq_getElem?_getD, List.getElem?_eq_getElem h]; rfl

set_option maxRecDepth 100000 in
set_option maxHeartbeats 1000000 in
theorem countHas_is (a : Option Addr) (n c : Nat) (l : List Rw) (x : Nat) (w : World) (h : ReadsL w a n l) (hn : n ≤ 20) (hf : ∀ r ∈ l, r.Fits) (hx : x ≤ 1000000) :
    Calls Try.prog 56 #[.slice a n c, .int .i64 x] w fun e w' => e = .returned (.int .i64 (cnt l x : Nat)) ∧ Below w.heap.size w w' := by
  have H := Lib.hid h
  have HF := Lib.hid hf
  have hlen := h.len
  clear h hf
  go_enter Try.func56, Try.ntmps56
  go_wp2
  go_loopw [5, 10] (fun m i wr => ∃ k : Nat, k ≤ n ∧ i = .int .i64 k ∧ m = .int .i64 (cnt (l.take k) x : Nat) ∧ Below w.heap.size w wr) (fun _ i _ => n - (intOf i).toNat)
  case atStart => exact ⟨0, Nat.zero_le _, rfl, rfl, Below.refl _ _⟩
  case round =>
    obtain ⟨k, hk, rfl, rfl, hB⟩ := hrel
    have HB := Lib.hid hB
    by_cases hlt : k < n
    · obtain ⟨g1, o1, b, s, rfl, hg1, hbs, q0, q1⟩ := (H.out.below hB (Nat.le_refl _)).row hlt
      have hfit := HF.out _ (mem_getD (l := l) (i := k) (by omega))
      rw [hbs] at hfit
      have hb59 : b ≤ 59 := hfit.1
      have hs60 : s ≤ 60 := hfit.2
      have HT := cnt_stepI l x k (by omega)
      rw [hbs] at HT
      obtain ⟨m, hm⟩ : ∃ m, m = cnt (l.take k) x := ⟨_, rfl⟩
      have hm20 : m ≤ 20 := by rw [hm]; exact Nat.le_trans (cnt_le _ _) (by rw [List.length_take]; omega)
      rw [← hm] at HT ⊢
      have f1 : (k : Int) < (n : Int) := by omega
      have f2 : (0 : Int) ≤ (k : Int) := by omega
      have HB1 := Lib.hid (HB.out.alloc HB.out.size (.cells #[.int .i64 b, .int .i64 s] 79))
      clear hB hm hbs hfit
      cases hh : (Rw.mk b s).has x
      · rw [hh] at HT
        have HT2 := Lib.hid HT
        have HH := Lib.hid hh
        clear hh HT
        go_wp2_with fail
        refine (rowHas_is ⟨b, s⟩ x _ (by show b ≤ 1000000; omega) (by show s ≤ 1000000; omega) hx).mono ?_
        rintro e w3 ⟨rfl, hb3⟩
        rw [HH.out]
        have HB3 := Lib.hid (HB1.out.trans (hb3.mono HB1.out.size))
        clear hb3
        go_wp2
        go_roundw
        case rel => exact ⟨k + 1, by omega, by go_num, by rw [HT2.out]; rfl, HB3.out⟩
        case measure => simp [intOf]; omega
      · rw [hh] at HT
        have HT2 := Lib.hid HT
        have HH := Lib.hid hh
        clear hh HT
        go_wp2_with fail
        refine (rowHas_is ⟨b, s⟩ x _ (by show b ≤ 1000000; omega) (by show s ≤ 1000000; omega) hx).mono ?_
        rintro e w3 ⟨rfl, hb3⟩
        rw [HH.out]
        have HB3 := Lib.hid (HB1.out.trans (hb3.mono HB1.out.size))
        clear hb3
        go_wp2
        go_roundw
        case rel => exact ⟨k + 1, by omega, by go_num, by rw [HT2.out]; rfl, HB3.out⟩
        case measure => simp [intOf]; omega
    · obtain rfl : k = n := by omega
      have e : l.take k = l := List.take_of_length_le (by omega)
      have HE := Lib.hid e
      clear e
      rw [HE.out]
      go_wp2
      go_ret
      exact ⟨rfl, HB.out⟩

set_option linter.unusedVariables false

/-- What RowsHas answers. -/
def hasOk (rs : List (List Int)) (x : Int) : Bool := goodRows rs && decide (0 ≤ x ∧ x ≤ 10000)
def hasMany (rs : List (List Int)) (x : Int) : Nat := if hasOk rs x = true then cnt (theRows rs) x.toNat else 0
theorem hasMany_off {rs : List (List Int)} {x : Int} (h : hasOk rs x = false) : hasMany rs x = 0 := by unfold hasMany; rw [h]; rfl

theorem implRowsIn (a : Option Addr) (n c : Nat) (rs : List (List Int)) (w : World) (h : ReadsR w a n rs) (hn : n ≤ 1048576) (hs : Short rs) :
    Calls Try.prog 16 #[.slice a n c] w fun e w' => e = .returned (.bool (goodRows rs)) ∧ Below w.heap.size w w' := by
  have HC := Lib.hid (readRows_is a n c rs w h hn hs)
  clear h
  go_enter Try.func16, Try.ntmps16
  go_wp2_with fail
  refine HC.out.mono ?_
  rintro e w1 ⟨hb1, a1, c1, n1, rfl, hgood⟩
  have HB := Lib.hid hb1
  clear hgood hb1
  go_wp2
  go_ret
  exact ⟨rfl, HB.out⟩

set_option maxHeartbeats 1000000 in
theorem implRowsHas (a : Option Addr) (n c : Nat) (rs : List (List Int)) (x : Int) (w : World) (h : ReadsR w a n rs) (hn : n ≤ 1048576) (hs : Short rs) :
    Calls Try.prog 18 #[.slice a n c, .int .i64 x] w fun e w' => e = .returned (.tuple #[.int .i64 (hasMany rs x : Nat), .bool (hasOk rs x)]) ∧ Below w.heap.size w w' := by
  have HC := Lib.hid (readRows_is a n c rs w h hn hs)
  have hlen := h.len
  clear h
  cases hg : goodRows rs
  · have ho : hasOk rs x = false := by unfold hasOk; rw [hg]; rfl
    have HM := Lib.hid (hasMany_off ho)
    have HO := Lib.hid ho
    have HG := Lib.hid hg
    clear ho hg hlen
    go_enter Try.func18, Try.ntmps18
    go_wp2_with fail
    refine HC.out.mono ?_
    rintro e w1 ⟨hb1, a1, c1, n1, rfl, hgood⟩
    rw [HG.out]
    have HB := Lib.hid hb1
    clear hgood hb1
    go_wp2
    go_ret2
    exact ⟨by rw [HM.out, HO.out]; rfl, HB.out⟩
  · obtain ⟨hf1, hf2⟩ := goodRows_fits hg
    have hll : (theRows rs).length = n := by unfold theRows; rw [List.length_map]; exact hlen
    have hn20 : n ≤ 20 := by omega
    cases hx : decide (0 ≤ x ∧ x ≤ 10000)
    · have ho : hasOk rs x = false := by unfold hasOk; rw [hg, hx]; rfl
      have HM := Lib.hid (hasMany_off ho)
      have HO := Lib.hid ho
      have HG := Lib.hid hg
      have HX := Lib.hid hx
      clear ho hg hx hlen hll hf1
      go_enter Try.func18, Try.ntmps18
      go_wp2_with fail
      refine HC.out.mono ?_
      rintro e w1 ⟨hb1, a1, c1, n1, rfl, hgood⟩
      rw [HG.out]
      have HB := Lib.hid hb1
      clear hgood hb1
      go_wp2_with fail
      refine (betw_is x 0 10000 _).mono ?_
      rintro e w2 ⟨rfl, rfl⟩
      rw [HX.out]
      go_wp2
      go_ret2
      exact ⟨by rw [HM.out, HO.out]; rfl, HB.out⟩
    · have hx2 := of_decide_eq_true hx
      obtain ⟨y, rfl⟩ := Int.eq_ofNat_of_zero_le hx2.1
      have ho : hasOk rs y = true := by unfold hasOk; rw [hg, hx]; rfl
      have HM : Hid (hasMany rs y = cnt (theRows rs) y) := Lib.hid (by unfold hasMany; rw [ho, if_pos rfl]; rfl)
      have HO := Lib.hid ho
      have HG := Lib.hid hg
      have HX := Lib.hid hx
      have HL := Lib.hid hll
      have HLN := Lib.hid hlen
      clear ho hg hx hlen hll hf1
      go_enter Try.func18, Try.ntmps18
      go_wp2_with fail
      refine HC.out.mono ?_
      rintro e w1 ⟨hb1, a1, c1, n1, rfl, hgood⟩
      obtain ⟨e1, hown⟩ := hgood HG.out
      obtain rfl : n1 = n := e1.trans HLN.out
      rw [HG.out]
      have HB := Lib.hid hb1
      have HR := Lib.hid (readsL_own hown)
      clear hgood hb1 hown e1
      go_wp2_with fail
      refine (betw_is y 0 10000 _).mono ?_
      rintro e w2 ⟨rfl, rfl⟩
      rw [HX.out]
      go_wp2_with fail
      refine (countHas_is a1 n1 c1 (theRows rs) y _ HR.out hn20 hf2 (by omega)).mono ?_
      rintro e w3 ⟨rfl, hb3⟩
      have HB3 := Lib.hid (HB.out.trans (hb3.mono HB.out.size))
      clear hb3
      go_wp2
      go_ret2
      exact ⟨by rw [HM.out, HO.out]; rfl, HB3.out⟩

end Go.Proofs.Ytdcedkjoligekaa
