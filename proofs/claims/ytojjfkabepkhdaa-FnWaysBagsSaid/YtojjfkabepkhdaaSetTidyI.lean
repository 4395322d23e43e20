/-
  The walk of SetTidy, of the program.
-/
import Derived.Test.YtojjfkabepkhdaaFirst
import Derived.Test.YtojjfkabepkhdaaText
import Derived.Test.YtojjfkabepkhdaaTidyText
namespace Go.Proofs.Ytojjfkabepkhdaa
open Go.RowKit

set_option maxHeartbeats 400000 in
theorem implTidy_off (s : ByteArray) (m : Int) (w : World) (hs : s.size ≤ 1048576) (hL : LibAt m w) (h : okS s = false) :
    Calls Try.prog 72 #[.string s] w fun e w' => e = .returned (.tuple #[.string ⟨#[]⟩, .bool false]) ∧ Below w.heap.size w w' := by
  go_enter Try.func72, Try.ntmps72
  go_wp2_with fail
  refine (split_off s m _ hs hL h).mono ?_
  rintro e w1 ⟨rfl, hb⟩
  go_wp2
  go_ret2
  exact ⟨rfl, hb.alloc hb.size _⟩

set_option maxRecDepth 100000 in
set_option maxHeartbeats 400000 in
theorem implTidy_on (s T : ByteArray) (g : Int) (w : World) (hs : s.size ≤ 1048576) (hL : LibAt g w) (h : okS s = true) (hT : TidyText (fS s) T) :
    Calls Try.prog 72 #[.string s] w fun e w' => e = .returned (.tuple #[.string T, .bool true]) ∧ Below w.heap.size w w' := by
  obtain ⟨m, q, ht, hm, hq, rfl⟩ := hT
  have HT := Lib.hid ht
  clear ht
  go_enter Try.func72, Try.ntmps72
  go_wp2_with fail
  refine (split_on s g _ hs hL h).mono ?_
  rintro e w1 ⟨T, R, rfl, hb, hsp⟩
  go_wp2_with fail
  refine (first_any s T R _ hsp).mono ?_
  rintro e w2 ⟨rfl, hb2⟩
  have HB := Lib.hid (box_below hb hb2)
  clear hb hb2
  go_wp2_with fail
  refine (text_any (fS s) m q _ HT.out hm hq).mono ?_
  rintro e w3 ⟨rfl, hb3⟩
  have HB3 := Lib.hid (HB.out.trans (hb3.mono HB.out.size))
  clear hb3
  go_wp2
  go_ret2
  exact ⟨rfl, HB3.out⟩

end Go.Proofs.Ytojjfkabepkhdaa
