/-
  The walk of the program's RestMany.
-/
import Derived.Test.YtiphooodijbhiaaFillI
set_option linter.unusedVariables false
set_option linter.unusedSimpArgs false
namespace Go.Proofs.Ytiphooodijbhiaa
open Go.RowKit

set_option maxHeartbeats 1000000 in
theorem implMany (s : ByteArray) (m0 : Int) (w : World) (hs : s.size ≤ 1048576) (hL : LibAt m0 w) :
    Calls Try.prog 78 #[.string s] w fun e w' => NumIs (okS s) (ManyIs (fS s)) e ∧ Below w.heap.size w w' := by
  have hmm := @run_makeMap Try.prog
  cases ho : okS s
  · have hcall := fill_off s w.heap.size 0 0 (fun _ => false) m0 (w.alloc (.map #[] 0)) hs (hL.alloc _) ho (isMap_made w)
    clear ho hL
    go_enter Try.func78, Try.ntmps78
    go_wp2_with fail
    refine hcall.mono ?_
    rintro e w1 ⟨rfl, htab, hels⟩
    have hlen := (htab.step ((Below.refl _ _).alloc (Nat.le_refl _) (.cells #[.slice none 0 0, .int .i64 0] 128))).len 3
    have HB := Lib.hid ((below_made hels).alloc (below_made hels).size (.cells #[.slice none 0 0, .int .i64 0] 128))
    clear htab hels hcall
    go_wp2
    go_ret2
    exact ⟨⟨0, rfl, And.intro (fun h => by cases h) (fun _ => rfl)⟩, HB.out⟩
  · obtain ⟨m, q, ht, hm, hq⟩ := tidy_there ho
    have hcall := fill_on s w.heap.size m q m0 (w.alloc (.map #[] 0)) hs (hL.alloc _) ho ht hm hq (isMap_made w)
    have HT := Lib.hid ht
    clear ho hL ht
    go_enter Try.func78, Try.ntmps78
    go_wp2_with fail
    refine hcall.mono ?_
    rintro e w1 ⟨a, c, rfl, hown, htab, hels⟩
    have hlen := (htab.step ((Below.refl _ _).alloc (Nat.le_refl _) (.cells #[.slice a (m + q : Nat) c, .int .i64 m] 128))).len 3
    have HB := Lib.hid ((below_made hels).alloc (below_made hels).size (.cells #[.slice a (m + q : Nat) c, .int .i64 m] 128))
    clear htab hels hcall hown
    go_wp2
    go_ret2
    exact ⟨⟨m + q, rfl, And.intro (fun _ => ⟨m, q, HT.out, rfl⟩) (fun h => by cases h)⟩, HB.out⟩

end Go.Proofs.Ytiphooodijbhiaa
