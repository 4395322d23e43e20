/-
  The walk of the program's MachFew.
-/
import Derived.Test.YtiphooodijbhiaaMachSetI
import Derived.Test.YtiphooodijbhiaaRestManyI
namespace Go.Proofs.Ytiphooodijbhiaa
open Go.RowKit
set_option linter.unusedVariables false

theorem few_of {ok : Bool} {f : Nat → Bool} {T : ByteArray} {e : Ending} (h : SetIs ok f T) (hn : NumIs (okS T) (ManyIs (fS T)) e) : NumIs ok (ManyIs f) e := by
  cases ok
  · have := h.2 rfl
    subst this
    obtain ⟨x, rfl, h1, h2⟩ := hn
    have hk : okS ⟨#[]⟩ = false := rfl
    rw [hk] at h2 ⊢
    exact ⟨x, rfl, And.intro (fun h => by cases h) h2⟩
  · have ht := (h.1 rfl).told
    rw [ht.ok, ht.set] at hn
    exact hn
theorem setIs_size {ok : Bool} {f : Nat → Bool} {T : ByteArray} (h : SetIs ok f T) : T.size ≤ 1048576 := by
  cases ok
  · rw [h.2 rfl]; decide
  · have ht := (h.1 rfl).told
    rw [set_size ht.ok]
    have h1 := setT_le ht.ok
    have h2 := setR_le ht.ok
    omega

theorem implFew (a : Option Addr) (n c : Nat) (zs : List Int) (b e m0 : Int) (w : World) (h : ReadsI w a n zs) (hn : n ≤ 1048576) (hL : LibAt m0 w) :
    Calls Try.prog 27 #[.agg #[.slice a n c, .int .i64 b, .int .i64 e]] w fun e1 w' => NumIs (okM zs b e) (ManyIs (fM zs b e)) e1 ∧ Below w.heap.size w w' := by
  have HCALL := Lib.hid (implSet a n c zs b e _ (h.alloc (.cells #[.slice a n c, .int .i64 b, .int .i64 e] 25)) hn)
  have HL := Lib.hid (hL.alloc (.cells #[.slice a n c, .int .i64 b, .int .i64 e] 25))
  clear h hL
  go_enter Try.func27, Try.ntmps27
  go_wp2_with fail
  refine HCALL.out.mono ?_
  rintro e1 w1 ⟨⟨T, rfl, hT⟩, hb⟩
  have HB := Lib.hid (boxed hb)
  have HL1 := Lib.hid (HL.out.below hb)
  have HT := Lib.hid hT
  clear hb hT
  go_wp2_with fail
  refine (implMany T m0 _ (setIs_size HT.out) HL1.out).mono ?_
  rintro e1 w2 ⟨hN, hb⟩
  obtain ⟨x, rfl, hx⟩ := few_of HT.out hN
  have HX := Lib.hid hx
  have HB2 := Lib.hid (HB.out.trans (hb.mono HB.out.size))
  clear hN hb hx
  go_wp2
  go_ret2
  exact ⟨⟨x, rfl, HX.out⟩, HB2.out⟩

end Go.Proofs.Ytiphooodijbhiaa
