/-
  The walk of the exact law on RowsOnce.
-/
import Derived.Test.YtdcedkjoligekabOnceLaw
import Derived.Test.YtdcedkjoligekabLawRows
import Derived.Test.YtdcedkjoligekabOpenRows
namespace Go.Proofs.Ytdcedkjoligekab
open Go.RowKit
set_option linter.unusedVariables false

set_option maxRecDepth 100000 in
set_option maxHeartbeats 2000000 in
theorem lawRowsOnce (a : Option Addr) (n c : Nat) (rs : List (List Int)) (w : World) (h : ReadsR w a n rs ∧ n ≤ maxLen ∧ ∀ i, i < n → (rs.getD i []).length ≤ maxLen) :
    Calls Try.prog 5 #[.slice a n c] w fun e w' => e = .returned (.bool true) ∧ Below w.heap.size w w' := by
  have HZ := Lib.hid (szIntSS_is a n c rs w h.1 h.2.1 h.2.2)
  have H := Lib.hid h.1
  clear h
  go_enter Try.func5, Try.ntmps5
  go_wp2_with fail
  refine HZ.out.mono ?_
  rintro e w1 ⟨⟨v, rfl, hv⟩, rfl⟩
  rcases hv with hv | ⟨hv, hn, hs⟩
  · go_wp2
    go_ret
    exact ⟨rfl, Below.refl _ _⟩
  · have HS := Lib.hid hs
    clear hs HZ
    go_wp2_with fail
    refine (toIntSS_any a n c rs _ H.out hn HS.out).mono ?_
    rintro e w2 ⟨rfl, hb2, hr2⟩
    have HB2 := Lib.hid hb2
    have R2 := Lib.hid hr2
    clear hb2 hr2
    go_wp2_with fail
    refine (specRowsOnce _ n n rs _ R2.out hn HS.out).mono ?_
    rintro e w3 ⟨rfl, hb3⟩
    have HB3 := Lib.hid (HB2.out.trans (hb3.mono HB2.out.size))
    have H3 := Lib.hid (H.out.below HB3.out (Nat.le_refl _))
    clear hb3 R2
    go_wp2_with fail
    refine (toIntSS_any a n c rs _ H3.out hn HS.out).mono ?_
    rintro e w4 ⟨rfl, hb4, hr4⟩
    have HB4 := Lib.hid (HB3.out.trans (hb4.mono HB3.out.size))
    have R4 := Lib.hid hr4
    clear hb4 hr4
    go_wp2_with fail
    refine (implRowsOnce _ n n rs _ R4.out hn HS.out).mono ?_
    rintro e w5 ⟨rfl, hb5⟩
    have HB5 := Lib.hid (HB4.out.trans (hb5.mono HB4.out.size))
    have R5 := Lib.hid (R4.out.below hb5 (Nat.le_refl _))
    have H5 := Lib.hid (H.out.below HB5.out (Nat.le_refl _))
    clear hb5 R4
    go_wp2_with fail
    refine (toIntSS_any a n c rs _ H5.out hn HS.out).mono ?_
    rintro e w6 ⟨rfl, hb6, hr6⟩
    have HB6 := Lib.hid (HB5.out.trans (hb6.mono HB5.out.size))
    have R56 := Lib.hid (R5.out.below hb6 (Nat.le_refl _))
    have R6 := Lib.hid hr6
    clear hb6 hr6
    go_wp2_with fail
    refine (eqIntSS_same _ _ n n n rs _ R56.out R6.out hn HS.out).mono ?_
    rintro e w7 ⟨rfl, hb7⟩
    have HB7 := Lib.hid (HB6.out.trans (hb7.mono HB6.out.size))
    clear hb7
    go_wp2
    go_ret
    exact ⟨rfl, HB7.out⟩
end Go.Proofs.Ytdcedkjoligekab
