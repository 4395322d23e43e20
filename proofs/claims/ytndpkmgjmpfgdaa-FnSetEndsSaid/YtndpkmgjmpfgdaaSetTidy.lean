/-
  The walks of SetTidy, of the program, of the model, and of the law that holds them against each other.
-/
import Derived.Test.YtndpkmgjmpfgdaaSetSizes
import Derived.Test.YtndpkmgjmpfgdaaWrite
namespace Go.Proofs.Ytndpkmgjmpfgdaa
open Go.RowKit

/-- T is the tidy text of a set. -/
def TidyText (f : Nat → Bool) (T : ByteArray) : Prop := ∃ m q, Tidy f m q ∧ m ≤ 60 ∧ q ≤ 60 ∧ T = ⟨(textOf (part f 0 m) (part f m q)).toArray⟩

set_option maxHeartbeats 400000 in
theorem done_any (t r : List Bool) (a1 : Option Addr) (n1 c1 : Nat) (a2 : Option Addr) (n2 c2 : Nat) (w : World) (h : LessIn w t r a1 n1 c1 a2 n2 c2) :
    Calls Try.prog 58 #[.agg #[.slice a1 n1 c1, .slice a2 n2 c2]] w fun e w' => ∃ T, e = .returned (.tuple #[.string T, .bool true]) ∧ TidyText (hasB t r) T ∧ Below w.heap.size w w' := by
  have HIn := Lib.hid (h.below (B := w.heap.size) ((Below.refl _ _).alloc (Nat.le_refl _) (.cells #[.slice a1 n1 c1, .slice a2 n2 c2] 53)) (Nat.le_refl _))
  clear h
  go_enter Try.func58, Try.ntmps58
  go_wp2_with fail
  refine (less_any _ t r a1 n1 c1 a2 n2 c2 _ rfl HIn.out).mono ?_
  rintro e w2 ⟨b1, m, e1, b2, q, e2, rfl, hb2, hout⟩
  have hm := hout.lies.le1
  have hq := hout.lies.le2
  have HT := Lib.hid hout.tidy
  have HL := Lib.hid (hout.lies.below (B := w2.heap.size) ((Below.refl _ _).alloc (Nat.le_refl _) (.cells #[.slice b1 m e1, .slice b2 q e2] 53)) (Nat.le_refl _))
  have HB := Lib.hid (((Below.refl w.heap.size w).alloc (Nat.le_refl _) (.cells #[.slice a1 n1 c1, .slice a2 n2 c2] 53)).trans (hb2.mono (by simp)))
  clear hout hb2
  go_wp2_with fail
  refine (write_any _ _ b1 m e1 b2 q e2 _ HL.out).mono ?_
  rintro e w3 ⟨rfl, hb3⟩
  have HB3 := Lib.hid ((HB.out.alloc HB.out.size _).trans (hb3.mono (by have := HB.out.size; simp; omega)))
  clear hb3
  go_wp2
  go_ret2
  exact ⟨_, rfl, ⟨m, q, HT.out, hm, hq, rfl⟩, HB3.out⟩

set_option maxHeartbeats 400000 in
theorem specTidy_off (s : ByteArray) (w : World) (hs : s.size ≤ 1048576) (h : okS s = false) :
    Calls Try.prog 23 #[.string s] w fun e w' => e = .returned (.tuple #[.string ⟨#[]⟩, .bool false]) ∧ Below w.heap.size w w' := by
  go_enter Try.func23, Try.ntmps23
  go_wp2_with fail
  refine (read_off s _ hs h).mono ?_
  rintro e w1 ⟨a1, n1, c1, a2, n2, c2, rfl, hb⟩
  go_wp2
  go_ret2
  exact ⟨rfl, hb.alloc hb.size _⟩

set_option maxHeartbeats 400000 in
theorem specTidy_on (s : ByteArray) (w : World) (hs : s.size ≤ 1048576) (h : okS s = true) :
    Calls Try.prog 23 #[.string s] w fun e w' => ∃ T, e = .returned (.tuple #[.string T, .bool true]) ∧ TidyText (fS s) T ∧ Below w.heap.size w w' := by
  go_enter Try.func23, Try.ntmps23
  go_wp2_with fail
  refine (read_less s _ hs h).mono ?_
  rintro e w1 ⟨a1, n1, c1, a2, n2, c2, rfl, hb, hin⟩
  have HIn := Lib.hid (hin.below (B := w1.heap.size) ((Below.refl _ _).alloc (Nat.le_refl _) (.cells #[.slice a1 n1 c1, .slice a2 n2 c2] 53)) (Nat.le_refl _))
  clear hin
  go_wp2_with fail
  refine (done_any (setT s) (setR s) a1 n1 c1 a2 n2 c2 _ HIn.out).mono ?_
  rintro e w2 ⟨T, rfl, hT, hb2⟩
  have HT : Hid (TidyText (fS s) T) := Lib.hid hT
  have HB := Lib.hid (box_below hb hb2)
  clear hT hb hb2
  go_wp2
  go_ret2
  exact ⟨T, rfl, HT.out, HB.out⟩

set_option maxHeartbeats 400000 in
theorem implTidy_off (s : ByteArray) (m : Int) (w : World) (hs : s.size ≤ 1048576) (hL : LibAt m w) (h : okS s = false) :
    Calls Try.prog 18 #[.string s] w fun e w' => e = .returned (.tuple #[.string ⟨#[]⟩, .bool false]) ∧ Below w.heap.size w w' := by
  go_enter Try.func18, Try.ntmps18
  go_wp2_with fail
  refine (split_off s m _ hs hL h).mono ?_
  rintro e w1 ⟨rfl, hb⟩
  go_wp2
  go_ret2
  exact ⟨rfl, hb.alloc hb.size _⟩

set_option maxRecDepth 100000 in
set_option maxHeartbeats 400000 in
theorem implTidy_on (s T : ByteArray) (g : Int) (w : World) (hs : s.size ≤ 1048576) (hL : LibAt g w) (h : okS s = true) (hT : TidyText (fS s) T) :
    Calls Try.prog 18 #[.string s] w fun e w' => e = .returned (.tuple #[.string T, .bool true]) ∧ Below w.heap.size w w' := by
  obtain ⟨m, q, ht, hm, hq, rfl⟩ := hT
  have HT := Lib.hid ht
  clear ht
  go_enter Try.func18, Try.ntmps18
  go_wp2_with fail
  refine (split_on s g _ hs hL h).mono ?_
  rintro e w1 ⟨T, R, rfl, hb, hsp⟩
  go_wp2_with fail
  refine (first_any s T R _ hsp).mono ?_
  rintro e w2 ⟨rfl, hb2⟩
  have HB := Lib.hid (box_below hb hb2)
  clear hb hb2
  go_wp2_with fail
  refine (text_any (fS s) m q _ HT.out hm hq).mono ?_
  rintro e w3 ⟨rfl, hb3⟩
  have HB3 := Lib.hid (HB.out.trans (hb3.mono HB.out.size))
  clear hb3
  go_wp2
  go_ret2
  exact ⟨rfl, HB3.out⟩

end Go.Proofs.Ytndpkmgjmpfgdaa
