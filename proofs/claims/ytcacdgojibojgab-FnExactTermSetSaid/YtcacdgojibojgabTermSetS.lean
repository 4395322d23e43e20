/-
  The walks of the methods that make the set text of a term, and of TermSet and TermSame, of the program. The walks of spec.l7Set, spec.TermSet and spec.TermSame.
-/
import Derived.Test.YtcacdgojibojgabTermI
import Derived.Test.YtcacdgojibojgabTermSem
import Derived.Test.YtcacdgojibojgabTermSignI
import Derived.Test.YtcacdgojibojgabStarTextI
import Derived.Test.YtcacdgojibojgabSumTimesI
import Derived.Test.YtcacdgojibojgabSumOfAny
import Derived.Test.YtcacdgojibojgabEitherI
import Derived.Test.YtcacdgojibojgabBothI
import Derived.Shelf.Abstract
import Derived.Test.YtcacdgojibojgabTermPart
import Derived.Test.YtcacdgojibojgabSpecStar
import Derived.Test.YtcacdgojibojgabSpecSum
import Derived.Test.YtcacdgojibojgabSpecSumOf
import Derived.Test.YtcacdgojibojgabSpecJoin
set_option linter.unusedSimpArgs false
set_option linter.unusedVariables false
namespace Go.Proofs.Ytcacdgojibojgab
open Go.RowKit

/-- The method that makes the set text of a term. -/
def setF : Tm → Nat
  | .sign _ => 144
  | .star _ => 123
  | .times _ _ => 128
  | .pair _ _ _ => 135
theorem method_set (t : Tm) (w : World) : (method 248 (tmTy t) (tmRecv t) "loop.example/oneletter/impl.set").run Try.prog w = .ok (setF t, tmRecv t) w := by
  cases t <;> kernel_rfl
theorem set_enters (t : Tm) : ∀ (args : Array Value) (w : World), (callFunc (setF t) args).run Try.prog w = .ok (.enter (setF t) args) w := by
  cases t
  · exact enters_of Try.func144 (by kernel_rfl) rfl
  · exact enters_of Try.func123 (by kernel_rfl) rfl
  · exact enters_of Try.func128 (by kernel_rfl) rfl
  · exact enters_of Try.func135 (by kernel_rfl) rfl
set_option maxRecDepth 100000 in
set_option maxHeartbeats 1000000 in
theorem set_star (t : Tm) (m : Int) (w : World) (ho : tmOk t = true) (hL : LibAt m w) (ih : ∀ w, LibAt m w → Calls Try.prog (setF t) #[tmRecv t] w fun e w' => TermEnd t e ∧ Below w.heap.size w w') :
    Calls Try.prog 123 #[tmRecv (.star t)] w fun e w' => TermEnd (.star t) e ∧ Below w.heap.size w w' := by
  have HI := Lib.hid ih
  have HL := Lib.hid hL
  clear ih hL
  have hm := method_set t
  have he := set_enters t
  show Calls Try.prog 123 #[.agg #[.iface (tmTy t) (tmRecv t)]] w _
  go_enter Try.func123, Try.ntmps123
  go_wp2_with (go_at_fn (setF t); refine (HI.out _ (HL.out.alloc _)).mono ?_; rintro e w1 ⟨⟨U, c, rfl, hU⟩, hb⟩; have HU := Lib.hid hU; have HB := Lib.hid (((Below.refl w.heap.size w).alloc (Nat.le_refl _) _).trans (hb.mono (by simp))); clear hU hb)
  refine (implStar U m w1 (termText_size ho HU.out) (HL.out.below HB.out)).mono ?_
  rintro e w2 ⟨⟨T, b, rfl, hT⟩, hb2⟩
  have HT := Lib.hid hT
  have HB2 := Lib.hid (HB.out.trans (hb2.mono HB.out.size))
  clear hT hb2
  go_wp2_with fail
  go_ret2
  exact ⟨⟨T, b, rfl, U, c, HU.out, HT.out⟩, HB2.out⟩

set_option maxRecDepth 100000 in
set_option maxHeartbeats 1000000 in
theorem set_times (d : UInt8) (t : Tm) (m : Int) (w : World) (hd : isDig d = true) (ho : tmOk t = true) (hL : LibAt m w) (ih : ∀ w, LibAt m w → Calls Try.prog (setF t) #[tmRecv t] w fun e w' => TermEnd t e ∧ Below w.heap.size w w') :
    Calls Try.prog 128 #[tmRecv (.times d t)] w fun e w' => TermEnd (.times d t) e ∧ Below w.heap.size w w' := by
  have HI := Lib.hid ih
  have HL := Lib.hid hL
  have HD := Lib.hid hd
  clear ih hL hd
  have hm := method_set t
  have he := set_enters t
  show Calls Try.prog 128 #[.agg #[.int .u8 d.toNat, .iface (tmTy t) (tmRecv t)]] w _
  go_enter Try.func128, Try.ntmps128
  go_wp2_with (go_at_fn (setF t); refine (HI.out _ (HL.out.alloc _)).mono ?_; rintro e w1 ⟨⟨U, c, rfl, hU⟩, hb⟩; have HU := Lib.hid hU; have HB := Lib.hid (((Below.refl w.heap.size w).alloc (Nat.le_refl _) _).trans (hb.mono (by simp))); obtain ⟨d0, d1⟩ := box_later hb; clear hU hb)
  refine (times_val d _ _ w1 HD.out).mono ?_
  rintro e w2 ⟨rfl, hb2⟩
  have HB2 := Lib.hid (HB.out.trans (hb2.mono HB.out.size))
  clear hb2 d0 d1
  go_wp2_with fail
  refine (implTimes U ((d.toNat : Int) - 48) m w2 (termText_size ho HU.out) (HL.out.below HB2.out)).mono ?_
  rintro e w3 ⟨⟨T, b, rfl, hT⟩, hb3⟩
  have HT := Lib.hid hT
  have HB3 := Lib.hid (HB2.out.trans (hb3.mono HB2.out.size))
  clear hT hb3
  go_wp2_with fail
  go_ret2
  exact ⟨⟨T, b, rfl, U, c, HU.out, HT.out⟩, HB3.out⟩

theorem box3_later {w w1 : World} {x y z : Value} {T : TypeId} (hb : Below (w.alloc (.cells #[x, y, z] T)).heap.size (w.alloc (.cells #[x, y, z] T)) w1) :
    w1.cell? ⟨w.heap.size, 0, none⟩ = some x ∧ w1.cell? ⟨w.heap.size, 1, none⟩ = some y ∧ w1.cell? ⟨w.heap.size, 2, none⟩ = some z :=
  ⟨(hb.cell (p := ⟨w.heap.size, 0, none⟩) (by simp)).trans (by rw [World.cell?_alloc_at _ _ _ _ rfl]; rfl), (hb.cell (p := ⟨w.heap.size, 1, none⟩) (by simp)).trans (by rw [World.cell?_alloc_at _ _ _ _ rfl]; rfl), (hb.cell (p := ⟨w.heap.size, 2, none⟩) (by simp)).trans (by rw [World.cell?_alloc_at _ _ _ _ rfl]; rfl)⟩
set_option maxRecDepth 100000 in
set_option maxHeartbeats 1000000 in
theorem set_pair46 (l r : Tm) (m : Int) (w : World) (hol : tmOk l = true) (hor : tmOk r = true) (hL : LibAt m w) (ihl : ∀ w, LibAt m w → Calls Try.prog (setF l) #[tmRecv l] w fun e w' => TermEnd l e ∧ Below w.heap.size w w')
    (ihr : ∀ w, LibAt m w → Calls Try.prog (setF r) #[tmRecv r] w fun e w' => TermEnd r e ∧ Below w.heap.size w w') :
    Calls Try.prog 135 #[tmRecv (.pair l 46 r)] w fun e w' => TermEnd (.pair l 46 r) e ∧ Below w.heap.size w w' := by
  have HI := Lib.hid ihl
  have HR := Lib.hid ihr
  have HL := Lib.hid hL
  clear ihl ihr hL
  have hml := method_set l
  have hel := set_enters l
  have hmr := method_set r
  have her := set_enters r
  show Calls Try.prog 135 #[.agg #[.iface (tmTy l) (tmRecv l), .int .u8 46, .iface (tmTy r) (tmRecv r)]] w _
  go_enter Try.func135, Try.ntmps135
  go_wp2_with (first
    | (go_at_fn (setF l); (with_reducible refine (HI.out _ (HL.out.alloc _)).mono ?_); rintro e w1 ⟨⟨U, c, rfl, hU⟩, hb⟩; have HU := Lib.hid hU; have HB := Lib.hid (((Below.refl w.heap.size w).alloc (Nat.le_refl _) _).trans (hb.mono (by simp))); obtain ⟨d0, d1, d2⟩ := box3_later hb; clear hU hb)
    | (go_at_fn (setF r); (with_reducible refine (HR.out _ (HL.out.below HB.out)).mono ?_); rintro e w2 ⟨⟨V, c2, rfl, hV⟩, hb2⟩; have HV := Lib.hid hV; have f1 := (hb2.cell (p := ⟨w.heap.size, 1, none⟩) (lt_of_some d1)).trans d1; have HB2 := Lib.hid (HB.out.trans (hb2.mono HB.out.size)); clear hV hb2 d0 d1 d2))
  refine (implSum U V m w2 (termText_size hol HU.out) (termText_size hor HV.out) (HL.out.below HB2.out)).mono ?_
  rintro e w3 ⟨⟨T, b, rfl, hT⟩, hb3⟩
  have HT := Lib.hid hT
  have HB3 := Lib.hid (HB2.out.trans (hb3.mono HB2.out.size))
  clear hT hb3 f1
  go_wp2_with fail
  go_ret2
  exact ⟨⟨T, b, rfl, termText_pair HU.out HV.out HT.out⟩, HB3.out⟩
set_option maxRecDepth 100000 in
set_option maxHeartbeats 1000000 in
theorem set_pair43 (l r : Tm) (m : Int) (w : World) (hol : tmOk l = true) (hor : tmOk r = true) (hL : LibAt m w) (ihl : ∀ w, LibAt m w → Calls Try.prog (setF l) #[tmRecv l] w fun e w' => TermEnd l e ∧ Below w.heap.size w w')
    (ihr : ∀ w, LibAt m w → Calls Try.prog (setF r) #[tmRecv r] w fun e w' => TermEnd r e ∧ Below w.heap.size w w') :
    Calls Try.prog 135 #[tmRecv (.pair l 43 r)] w fun e w' => TermEnd (.pair l 43 r) e ∧ Below w.heap.size w w' := by
  have HI := Lib.hid ihl
  have HR := Lib.hid ihr
  have HL := Lib.hid hL
  clear ihl ihr hL
  have hml := method_set l
  have hel := set_enters l
  have hmr := method_set r
  have her := set_enters r
  show Calls Try.prog 135 #[.agg #[.iface (tmTy l) (tmRecv l), .int .u8 43, .iface (tmTy r) (tmRecv r)]] w _
  go_enter Try.func135, Try.ntmps135
  go_wp2_with (first
    | (go_at_fn (setF l); (with_reducible refine (HI.out _ (HL.out.alloc _)).mono ?_); rintro e w1 ⟨⟨U, c, rfl, hU⟩, hb⟩; have HU := Lib.hid hU; have HB := Lib.hid (((Below.refl w.heap.size w).alloc (Nat.le_refl _) _).trans (hb.mono (by simp))); obtain ⟨d0, d1, d2⟩ := box3_later hb; clear hU hb)
    | (go_at_fn (setF r); (with_reducible refine (HR.out _ (HL.out.below HB.out)).mono ?_); rintro e w2 ⟨⟨V, c2, rfl, hV⟩, hb2⟩; have HV := Lib.hid hV; have f1 := (hb2.cell (p := ⟨w.heap.size, 1, none⟩) (lt_of_some d1)).trans d1; have HB2 := Lib.hid (HB.out.trans (hb2.mono HB.out.size)); clear hV hb2 d0 d1 d2))
  refine (implEither U V m w2 (termText_size hol HU.out) (termText_size hor HV.out) (HL.out.below HB2.out)).mono ?_
  rintro e w3 ⟨⟨T, b, rfl, hT⟩, hb3⟩
  have HT := Lib.hid hT
  have HB3 := Lib.hid (HB2.out.trans (hb3.mono HB2.out.size))
  clear hT hb3 f1
  go_wp2_with fail
  go_ret2
  exact ⟨⟨T, b, rfl, termText_pair HU.out HV.out HT.out⟩, HB3.out⟩
set_option maxRecDepth 100000 in
set_option maxHeartbeats 1000000 in
theorem set_pair38 (l r : Tm) (m : Int) (w : World) (hol : tmOk l = true) (hor : tmOk r = true) (hL : LibAt m w) (ihl : ∀ w, LibAt m w → Calls Try.prog (setF l) #[tmRecv l] w fun e w' => TermEnd l e ∧ Below w.heap.size w w')
    (ihr : ∀ w, LibAt m w → Calls Try.prog (setF r) #[tmRecv r] w fun e w' => TermEnd r e ∧ Below w.heap.size w w') :
    Calls Try.prog 135 #[tmRecv (.pair l 38 r)] w fun e w' => TermEnd (.pair l 38 r) e ∧ Below w.heap.size w w' := by
  have HI := Lib.hid ihl
  have HR := Lib.hid ihr
  have HL := Lib.hid hL
  clear ihl ihr hL
  have hml := method_set l
  have hel := set_enters l
  have hmr := method_set r
  have her := set_enters r
  show Calls Try.prog 135 #[.agg #[.iface (tmTy l) (tmRecv l), .int .u8 38, .iface (tmTy r) (tmRecv r)]] w _
  go_enter Try.func135, Try.ntmps135
  go_wp2_with (first
    | (go_at_fn (setF l); (with_reducible refine (HI.out _ (HL.out.alloc _)).mono ?_); rintro e w1 ⟨⟨U, c, rfl, hU⟩, hb⟩; have HU := Lib.hid hU; have HB := Lib.hid (((Below.refl w.heap.size w).alloc (Nat.le_refl _) _).trans (hb.mono (by simp))); obtain ⟨d0, d1, d2⟩ := box3_later hb; clear hU hb)
    | (go_at_fn (setF r); (with_reducible refine (HR.out _ (HL.out.below HB.out)).mono ?_); rintro e w2 ⟨⟨V, c2, rfl, hV⟩, hb2⟩; have HV := Lib.hid hV; have f1 := (hb2.cell (p := ⟨w.heap.size, 1, none⟩) (lt_of_some d1)).trans d1; have HB2 := Lib.hid (HB.out.trans (hb2.mono HB.out.size)); clear hV hb2 d0 d1 d2))
  refine (implBoth U V m w2 (termText_size hol HU.out) (termText_size hor HV.out) (HL.out.below HB2.out)).mono ?_
  rintro e w3 ⟨⟨T, b, rfl, hT⟩, hb3⟩
  have HT := Lib.hid hT
  have HB3 := Lib.hid (HB2.out.trans (hb3.mono HB2.out.size))
  clear hT hb3 f1
  go_wp2_with fail
  go_ret2
  exact ⟨⟨T, b, rfl, termText_pair HU.out HV.out HT.out⟩, HB3.out⟩

/-- The walk of the method that makes the set text of a term, whatever the term. -/
theorem set_any (m : Int) : ∀ (t : Tm) (w : World), tmOk t = true → LibAt m w → Calls Try.prog (setF t) #[tmRecv t] w fun e w' => TermEnd t e ∧ Below w.heap.size w w' := by
  intro t
  induction t with
  | sign c =>
    intro w ho _
    rcases one_cases ho with rfl | rfl | rfl
    · exact set_sign48 w
    · exact set_sign49 w
    · exact set_sign97 w
  | star t ih => intro w ho hL; exact set_star t m w ho hL (fun w hL => ih w ho hL)
  | times d t ih =>
    intro w ho hL
    rw [tmOk, Bool.and_eq_true] at ho
    exact set_times d t m w ho.1 ho.2 hL (fun w hL => ih w ho.2 hL)
  | pair l s r ihl ihr =>
    intro w ho hL
    rw [tmOk, Bool.and_eq_true, Bool.and_eq_true] at ho
    rcases mid_cases ho.2.1 with rfl | rfl | rfl
    · exact set_pair43 l r m w ho.1 ho.2.2 hL (fun w hL => ihl w ho.1 hL) (fun w hL => ihr w ho.2.2 hL)
    · exact set_pair46 l r m w ho.1 ho.2.2 hL (fun w hL => ihl w ho.1 hL) (fun w hL => ihr w ho.2.2 hL)
    · exact set_pair38 l r m w ho.1 ho.2.2 hL (fun w hL => ihl w ho.1 hL) (fun w hL => ihr w ho.2.2 hL)

set_option maxRecDepth 100000 in
set_option maxHeartbeats 1000000 in
theorem implTermSet (s : ByteArray) (m : Int) (w : World) (hL : LibAt m w) : Calls Try.prog 22 #[.string s] w fun e w' => (∃ T b, e = .returned (.tuple #[.string T, .bool b]) ∧ TextOf s T b) ∧ Below w.heap.size w w' := by
  have HL := Lib.hid hL
  clear hL
  cases h : termOf s.data.toList with
  | none =>
    have HE := Lib.hid (textOf_none h)
    have HI := Lib.hid (fun w => readTerm_any s w)
    rw [h] at HI
    clear h
    go_enter Try.func22, Try.ntmps22
    go_wp2_with fail
    refine (HI.out _).mono ?_
    rintro e w1 ⟨he, k, rfl⟩
    rw [show e = _ from he]
    clear he
    go_wp2_with fail
    go_ret2
    exact ⟨⟨_, _, rfl, HE.out⟩, below_drewN (Below.refl _ _) k⟩
  | some t =>
    have HE := Lib.hid (fun T b => textOf_some (T := T) (b := b) h)
    have HI := Lib.hid (fun w => readTerm_any s w)
    rw [h] at HI
    obtain ⟨_, ho, hl⟩ := termOf_some h
    have HT := Lib.hid (fun w hL => set_any m t w ho hL)
    have hm := method_set t
    have he := set_enters t
    clear h ho hl
    go_enter Try.func22, Try.ntmps22
    go_wp2_with fail
    refine (HI.out _).mono ?_
    rintro e w1 ⟨hr, k, rfl⟩
    rw [show e = _ from hr]
    clear hr
    have HB := Lib.hid (below_drewN (Below.refl w.heap.size w) k)
    simp only [tmV]
    go_wp2_with (go_at_fn (setF t); refine (HT.out _ (HL.out.below HB.out)).mono ?_; rintro e w2 ⟨⟨T, b, rfl, hT⟩, hb2⟩; have HX := Lib.hid hT; have HB2 := Lib.hid (HB.out.trans (hb2.mono HB.out.size)); clear hT hb2)
    go_ret2
    exact ⟨⟨T, b, rfl, (HE.out T b).2 HX.out⟩, HB2.out⟩

set_option maxRecDepth 100000 in
set_option maxHeartbeats 1000000 in
theorem implTermSame (s t : ByteArray) (m : Int) (w : World) (hL : LibAt m w) : Calls Try.prog 26 #[.string s, .string t] w fun e w' => (∃ T b U c, e = .returned (.bool (b && (c && decide (T = U)))) ∧ TextOf s T b ∧ TextOf t U c) ∧ Below w.heap.size w w' := by
  have HL := Lib.hid hL
  clear hL
  go_enter Try.func26, Try.ntmps26
  go_wp2_with fail
  refine (implTermSet s m w HL.out).mono ?_
  rintro e w1 ⟨⟨T, b, rfl, hT⟩, hb⟩
  have HT := Lib.hid hT
  have HB := Lib.hid hb
  clear hT hb
  go_wp2_with fail
  refine (implTermSet t m w1 (HL.out.below HB.out)).mono ?_
  rintro e w2 ⟨⟨U, c, rfl, hU⟩, hb2⟩
  have HU := Lib.hid hU
  have HB2 := Lib.hid (HB.out.trans (hb2.mono HB.out.size))
  clear hU hb2
  cases b
  · go_wp2_with fail
    go_ret
    exact ⟨⟨T, false, U, c, rfl, HT.out, HU.out⟩, HB2.out⟩
  · cases c
    · go_wp2_with fail
      go_ret
      exact ⟨⟨T, true, U, false, rfl, HT.out, HU.out⟩, HB2.out⟩
    · by_cases hTU : T = U
      · have hd : decide (T = U) = true := decide_eq_true hTU
        have HD := Lib.hid hd
        have hl : T.toList = U.toList := by rw [hTU]
        have hl2 : (T.toList == U.toList) = true := by rw [hl]; simp
        clear hTU hd
        go_wp2_with fail
        go_ret
        exact ⟨⟨T, true, U, true, by rw [HD.out]; rfl, HT.out, HU.out⟩, HB2.out⟩
      · have hd : decide (T = U) = false := decide_eq_false hTU
        have HD := Lib.hid hd
        have hl : ¬ T.toList = U.toList := fun e => hTU (by
          rw [Lib.toList_data, Lib.toList_data] at e
          exact ByteArray.ext (Array.ext' e))
        have hl2 : (T.toList == U.toList) = false := by simpa using hl
        clear hTU hd
        go_wp2_with fail
        go_ret
        exact ⟨⟨T, true, U, true, by rw [HD.out]; rfl, HT.out, HU.out⟩, HB2.out⟩

set_option maxRecDepth 100000 in
set_option maxHeartbeats 1000000 in
theorem setS_sign48 (a : Option Addr) (k : Nat) (w : World) : Calls Try.prog 38 #[.agg #[.int .u8 48, .slice a 0 k]] w fun e w' => TermEnd (.sign 48) e ∧ Below w.heap.size w w' := by
  go_enter Try.func38, Try.ntmps38
  go_wp2_with fail
  go_ret2
  exact ⟨⟨_, _, rfl, rfl, rfl⟩, (Below.refl _ _).alloc (Nat.le_refl _) _⟩
set_option maxRecDepth 100000 in
set_option maxHeartbeats 1000000 in
theorem setS_sign49 (a : Option Addr) (k : Nat) (w : World) : Calls Try.prog 38 #[.agg #[.int .u8 49, .slice a 0 k]] w fun e w' => TermEnd (.sign 49) e ∧ Below w.heap.size w w' := by
  go_enter Try.func38, Try.ntmps38
  go_wp2_with fail
  go_ret2
  exact ⟨⟨_, _, rfl, rfl, rfl⟩, (Below.refl _ _).alloc (Nat.le_refl _) _⟩
set_option maxRecDepth 100000 in
set_option maxHeartbeats 1000000 in
theorem setS_sign97 (a : Option Addr) (k : Nat) (w : World) : Calls Try.prog 38 #[.agg #[.int .u8 97, .slice a 0 k]] w fun e w' => TermEnd (.sign 97) e ∧ Below w.heap.size w w' := by
  go_enter Try.func38, Try.ntmps38
  go_wp2_with fail
  go_ret2
  exact ⟨⟨_, _, rfl, rfl, rfl⟩, (Below.refl _ _).alloc (Nat.le_refl _) _⟩
set_option maxRecDepth 100000 in
set_option maxHeartbeats 2000000 in
theorem setS_star (t : Tm) (g m : Nat) (c : UInt8) (a : Option Addr) (n k : Nat) (w : World) (hp : PartT w g 0 c a n k) (ho : tmOk t = true)
    (ih : ∀ W, Below w.heap.size w W → Calls Try.prog 38 #[.agg #[.int .u8 c.toNat, .slice a n k]] W fun e w' => TermEnd t e ∧ Below W.heap.size W w') :
    Calls Try.prog 38 #[.agg #[.int .u8 42, .slice (some ⟨g, 0, none⟩) 1 m]] w fun e w' => TermEnd (.star t) e ∧ Below w.heap.size w w' := by
  have HI := Lib.hid (ih (w.alloc (.cells #[.int .u8 42, .slice (some ⟨g, 0, none⟩) 1 m] 37)) ((Below.refl _ _).alloc (Nat.le_refl _) _))
  have hp2 := hp.alloc (.cells #[.int .u8 42, .slice (some ⟨g, 0, none⟩) 1 m] 37)
  have c0 := hp2.p
  have c1 := hp2.q
  clear ih hp hp2
  go_enter Try.func38, Try.ntmps38
  go_wp2_with fail
  refine HI.out.mono ?_
  rintro e w1 ⟨⟨U, b, rfl, hU⟩, hb⟩
  obtain ⟨d0, d1⟩ := box_later hb
  have HB := Lib.hid (((Below.refl w.heap.size w).alloc (Nat.le_refl _) _).trans (hb.mono (by simp)))
  have HU := Lib.hid hU
  clear c0 c1 hb hU
  cases b
  · have HN := Lib.hid (termText_false HU.out)
    go_wp2_with fail
    go_ret2
    exact ⟨⟨_, _, rfl, U, false, HU.out, by rw [HN.out]; exact star_none'⟩, HB.out⟩
  · go_wp2_with fail
    refine (specStar U w1 (termText_size ho HU.out)).mono ?_
    rintro e w2 ⟨⟨V, b, rfl, hV⟩, hb2⟩
    have HV := Lib.hid hV
    have HB2 := Lib.hid (HB.out.trans (hb2.mono HB.out.size))
    clear hV hb2 d0 d1
    go_wp2_with fail
    go_ret2
    exact ⟨⟨V, b, rfl, U, true, HU.out, HV.out⟩, HB2.out⟩
set_option maxRecDepth 100000 in
set_option maxHeartbeats 2000000 in
theorem setS_times50 (t : Tm) (g m : Nat) (c : UInt8) (a : Option Addr) (n k : Nat) (w : World) (hp : PartT w g 0 c a n k) (ho : tmOk t = true)
    (ih : ∀ W, Below w.heap.size w W → Calls Try.prog 38 #[.agg #[.int .u8 c.toNat, .slice a n k]] W fun e w' => TermEnd t e ∧ Below W.heap.size W w') :
    Calls Try.prog 38 #[.agg #[.int .u8 50, .slice (some ⟨g, 0, none⟩) 1 m]] w fun e w' => TermEnd (.times 50 t) e ∧ Below w.heap.size w w' := by
  have HI := Lib.hid (ih (w.alloc (.cells #[.int .u8 50, .slice (some ⟨g, 0, none⟩) 1 m] 37)) ((Below.refl _ _).alloc (Nat.le_refl _) _))
  have hp2 := hp.alloc (.cells #[.int .u8 50, .slice (some ⟨g, 0, none⟩) 1 m] 37)
  have c0 := hp2.p
  have c1 := hp2.q
  clear ih hp hp2
  go_enter Try.func38, Try.ntmps38
  go_wp2_with fail
  refine HI.out.mono ?_
  rintro e w1 ⟨⟨U, b, rfl, hU⟩, hb⟩
  obtain ⟨d0, d1⟩ := box_later hb
  have HB := Lib.hid (((Below.refl w.heap.size w).alloc (Nat.le_refl _) _).trans (hb.mono (by simp)))
  have HU := Lib.hid hU
  clear c0 c1 hb hU
  cases b
  · have HN := Lib.hid (termText_false HU.out)
    go_wp2_with fail
    go_ret2
    exact ⟨⟨_, _, rfl, U, false, HU.out, by rw [HN.out]; exact times_none⟩, HB.out⟩
  · go_wp2_with fail
    refine (specTimes U 2 w1 (termText_size ho HU.out)).mono ?_
    rintro e w2 ⟨⟨V, b, rfl, hV⟩, hb2⟩
    have HV := Lib.hid hV
    have HB2 := Lib.hid (HB.out.trans (hb2.mono HB.out.size))
    clear hV hb2 d0 d1
    go_wp2_with fail
    go_ret2
    exact ⟨⟨V, b, rfl, U, true, HU.out, HV.out⟩, HB2.out⟩
set_option maxRecDepth 100000 in
set_option maxHeartbeats 2000000 in
theorem setS_times51 (t : Tm) (g m : Nat) (c : UInt8) (a : Option Addr) (n k : Nat) (w : World) (hp : PartT w g 0 c a n k) (ho : tmOk t = true)
    (ih : ∀ W, Below w.heap.size w W → Calls Try.prog 38 #[.agg #[.int .u8 c.toNat, .slice a n k]] W fun e w' => TermEnd t e ∧ Below W.heap.size W w') :
    Calls Try.prog 38 #[.agg #[.int .u8 51, .slice (some ⟨g, 0, none⟩) 1 m]] w fun e w' => TermEnd (.times 51 t) e ∧ Below w.heap.size w w' := by
  have HI := Lib.hid (ih (w.alloc (.cells #[.int .u8 51, .slice (some ⟨g, 0, none⟩) 1 m] 37)) ((Below.refl _ _).alloc (Nat.le_refl _) _))
  have hp2 := hp.alloc (.cells #[.int .u8 51, .slice (some ⟨g, 0, none⟩) 1 m] 37)
  have c0 := hp2.p
  have c1 := hp2.q
  clear ih hp hp2
  go_enter Try.func38, Try.ntmps38
  go_wp2_with fail
  refine HI.out.mono ?_
  rintro e w1 ⟨⟨U, b, rfl, hU⟩, hb⟩
  obtain ⟨d0, d1⟩ := box_later hb
  have HB := Lib.hid (((Below.refl w.heap.size w).alloc (Nat.le_refl _) _).trans (hb.mono (by simp)))
  have HU := Lib.hid hU
  clear c0 c1 hb hU
  cases b
  · have HN := Lib.hid (termText_false HU.out)
    go_wp2_with fail
    go_ret2
    exact ⟨⟨_, _, rfl, U, false, HU.out, by rw [HN.out]; exact times_none⟩, HB.out⟩
  · go_wp2_with fail
    refine (specTimes U 3 w1 (termText_size ho HU.out)).mono ?_
    rintro e w2 ⟨⟨V, b, rfl, hV⟩, hb2⟩
    have HV := Lib.hid hV
    have HB2 := Lib.hid (HB.out.trans (hb2.mono HB.out.size))
    clear hV hb2 d0 d1
    go_wp2_with fail
    go_ret2
    exact ⟨⟨V, b, rfl, U, true, HU.out, HV.out⟩, HB2.out⟩
set_option maxRecDepth 100000 in
set_option maxHeartbeats 2000000 in
theorem setS_times52 (t : Tm) (g m : Nat) (c : UInt8) (a : Option Addr) (n k : Nat) (w : World) (hp : PartT w g 0 c a n k) (ho : tmOk t = true)
    (ih : ∀ W, Below w.heap.size w W → Calls Try.prog 38 #[.agg #[.int .u8 c.toNat, .slice a n k]] W fun e w' => TermEnd t e ∧ Below W.heap.size W w') :
    Calls Try.prog 38 #[.agg #[.int .u8 52, .slice (some ⟨g, 0, none⟩) 1 m]] w fun e w' => TermEnd (.times 52 t) e ∧ Below w.heap.size w w' := by
  have HI := Lib.hid (ih (w.alloc (.cells #[.int .u8 52, .slice (some ⟨g, 0, none⟩) 1 m] 37)) ((Below.refl _ _).alloc (Nat.le_refl _) _))
  have hp2 := hp.alloc (.cells #[.int .u8 52, .slice (some ⟨g, 0, none⟩) 1 m] 37)
  have c0 := hp2.p
  have c1 := hp2.q
  clear ih hp hp2
  go_enter Try.func38, Try.ntmps38
  go_wp2_with fail
  refine HI.out.mono ?_
  rintro e w1 ⟨⟨U, b, rfl, hU⟩, hb⟩
  obtain ⟨d0, d1⟩ := box_later hb
  have HB := Lib.hid (((Below.refl w.heap.size w).alloc (Nat.le_refl _) _).trans (hb.mono (by simp)))
  have HU := Lib.hid hU
  clear c0 c1 hb hU
  cases b
  · have HN := Lib.hid (termText_false HU.out)
    go_wp2_with fail
    go_ret2
    exact ⟨⟨_, _, rfl, U, false, HU.out, by rw [HN.out]; exact times_none⟩, HB.out⟩
  · go_wp2_with fail
    refine (specTimes U 4 w1 (termText_size ho HU.out)).mono ?_
    rintro e w2 ⟨⟨V, b, rfl, hV⟩, hb2⟩
    have HV := Lib.hid hV
    have HB2 := Lib.hid (HB.out.trans (hb2.mono HB.out.size))
    clear hV hb2 d0 d1
    go_wp2_with fail
    go_ret2
    exact ⟨⟨V, b, rfl, U, true, HU.out, HV.out⟩, HB2.out⟩
set_option maxRecDepth 100000 in
set_option maxHeartbeats 2000000 in
theorem setS_times53 (t : Tm) (g m : Nat) (c : UInt8) (a : Option Addr) (n k : Nat) (w : World) (hp : PartT w g 0 c a n k) (ho : tmOk t = true)
    (ih : ∀ W, Below w.heap.size w W → Calls Try.prog 38 #[.agg #[.int .u8 c.toNat, .slice a n k]] W fun e w' => TermEnd t e ∧ Below W.heap.size W w') :
    Calls Try.prog 38 #[.agg #[.int .u8 53, .slice (some ⟨g, 0, none⟩) 1 m]] w fun e w' => TermEnd (.times 53 t) e ∧ Below w.heap.size w w' := by
  have HI := Lib.hid (ih (w.alloc (.cells #[.int .u8 53, .slice (some ⟨g, 0, none⟩) 1 m] 37)) ((Below.refl _ _).alloc (Nat.le_refl _) _))
  have hp2 := hp.alloc (.cells #[.int .u8 53, .slice (some ⟨g, 0, none⟩) 1 m] 37)
  have c0 := hp2.p
  have c1 := hp2.q
  clear ih hp hp2
  go_enter Try.func38, Try.ntmps38
  go_wp2_with fail
  refine HI.out.mono ?_
  rintro e w1 ⟨⟨U, b, rfl, hU⟩, hb⟩
  obtain ⟨d0, d1⟩ := box_later hb
  have HB := Lib.hid (((Below.refl w.heap.size w).alloc (Nat.le_refl _) _).trans (hb.mono (by simp)))
  have HU := Lib.hid hU
  clear c0 c1 hb hU
  cases b
  · have HN := Lib.hid (termText_false HU.out)
    go_wp2_with fail
    go_ret2
    exact ⟨⟨_, _, rfl, U, false, HU.out, by rw [HN.out]; exact times_none⟩, HB.out⟩
  · go_wp2_with fail
    refine (specTimes U 5 w1 (termText_size ho HU.out)).mono ?_
    rintro e w2 ⟨⟨V, b, rfl, hV⟩, hb2⟩
    have HV := Lib.hid hV
    have HB2 := Lib.hid (HB.out.trans (hb2.mono HB.out.size))
    clear hV hb2 d0 d1
    go_wp2_with fail
    go_ret2
    exact ⟨⟨V, b, rfl, U, true, HU.out, HV.out⟩, HB2.out⟩
set_option maxRecDepth 100000 in
set_option maxHeartbeats 2000000 in
theorem setS_pair43 (l r : Tm) (g m : Nat) (c : UInt8) (a : Option Addr) (n k : Nat) (c2 : UInt8) (a2 : Option Addr) (n2 k2 : Nat) (w : World) (hp : PartT w g 0 c a n k) (hq : PartT w g 2 c2 a2 n2 k2) (hol : tmOk l = true) (hor : tmOk r = true)
    (ih : ∀ W, Below w.heap.size w W → Calls Try.prog 38 #[.agg #[.int .u8 c.toNat, .slice a n k]] W fun e w' => TermEnd l e ∧ Below W.heap.size W w')
    (ih2 : ∀ W, Below w.heap.size w W → Calls Try.prog 38 #[.agg #[.int .u8 c2.toNat, .slice a2 n2 k2]] W fun e w' => TermEnd r e ∧ Below W.heap.size W w') :
    Calls Try.prog 38 #[.agg #[.int .u8 43, .slice (some ⟨g, 0, none⟩) 2 m]] w fun e w' => TermEnd (.pair l 43 r) e ∧ Below w.heap.size w w' := by
  have HI := Lib.hid (ih (w.alloc (.cells #[.int .u8 43, .slice (some ⟨g, 0, none⟩) 2 m] 37)) ((Below.refl _ _).alloc (Nat.le_refl _) _))
  have H2 := Lib.hid ih2
  have HQ := Lib.hid hq
  have hp2 := hp.alloc (.cells #[.int .u8 43, .slice (some ⟨g, 0, none⟩) 2 m] 37)
  have c0 := hp2.p
  have c1 := hp2.q
  clear ih ih2 hp hq hp2
  go_enter Try.func38, Try.ntmps38
  go_wp2_with fail
  refine HI.out.mono ?_
  rintro e w1 ⟨⟨U, b, rfl, hU⟩, hb⟩
  obtain ⟨d0, d1⟩ := box_later hb
  have HB := Lib.hid (((Below.refl w.heap.size w).alloc (Nat.le_refl _) _).trans (hb.mono (by simp)))
  have hq1 := HQ.out.step HB.out
  have e0 := hq1.p
  have e1 := hq1.q
  have HD := Lib.hid (And.intro d0 d1)
  have HU := Lib.hid hU
  clear c0 c1 hb hq1 hU
  cases b
  · have HN := Lib.hid (termText_false HU.out)
    go_wp2_with fail
    go_ret2
    exact ⟨⟨_, _, rfl, U, false, HU.out, .inl ⟨rfl, rfl, rfl⟩⟩, HB.out⟩
  · go_wp2_with fail
    refine (H2.out _ HB.out).mono ?_
    rintro e w2 ⟨⟨V, b2, rfl, hV⟩, hb2⟩
    have f0 := (hb2.cell (p := ⟨w.heap.size, 0, none⟩) (lt_of_some HD.out.1)).trans HD.out.1
    have f1 := (hb2.cell (p := ⟨w.heap.size, 1, none⟩) (lt_of_some HD.out.1)).trans HD.out.2
    have HB2 := Lib.hid (HB.out.trans (hb2.mono HB.out.size))
    have HV := Lib.hid hV
    clear d0 d1 e0 e1 hb2 HD hV
    cases b2
    · have HN := Lib.hid (termText_false HV.out)
      go_wp2_with fail
      go_ret2
      exact ⟨⟨_, _, rfl, termText_pair HU.out HV.out (by rw [HN.out]; exact midIs_right)⟩, HB2.out⟩
    · go_wp2_with fail
      refine (specEither U V w2 (termText_size hol HU.out) (termText_size hor HV.out)).mono ?_
      rintro e w3 ⟨⟨X, b, rfl, hX⟩, hb3⟩
      have HX := Lib.hid hX
      have HB3 := Lib.hid (HB2.out.trans (hb3.mono HB2.out.size))
      clear hX hb3 f0 f1
      go_wp2_with fail
      go_ret2
      exact ⟨⟨X, b, rfl, termText_pair HU.out HV.out HX.out⟩, HB3.out⟩
set_option maxRecDepth 100000 in
set_option maxHeartbeats 2000000 in
theorem setS_pair46 (l r : Tm) (g m : Nat) (c : UInt8) (a : Option Addr) (n k : Nat) (c2 : UInt8) (a2 : Option Addr) (n2 k2 : Nat) (w : World) (hp : PartT w g 0 c a n k) (hq : PartT w g 2 c2 a2 n2 k2) (hol : tmOk l = true) (hor : tmOk r = true)
    (ih : ∀ W, Below w.heap.size w W → Calls Try.prog 38 #[.agg #[.int .u8 c.toNat, .slice a n k]] W fun e w' => TermEnd l e ∧ Below W.heap.size W w')
    (ih2 : ∀ W, Below w.heap.size w W → Calls Try.prog 38 #[.agg #[.int .u8 c2.toNat, .slice a2 n2 k2]] W fun e w' => TermEnd r e ∧ Below W.heap.size W w') :
    Calls Try.prog 38 #[.agg #[.int .u8 46, .slice (some ⟨g, 0, none⟩) 2 m]] w fun e w' => TermEnd (.pair l 46 r) e ∧ Below w.heap.size w w' := by
  have HI := Lib.hid (ih (w.alloc (.cells #[.int .u8 46, .slice (some ⟨g, 0, none⟩) 2 m] 37)) ((Below.refl _ _).alloc (Nat.le_refl _) _))
  have H2 := Lib.hid ih2
  have HQ := Lib.hid hq
  have hp2 := hp.alloc (.cells #[.int .u8 46, .slice (some ⟨g, 0, none⟩) 2 m] 37)
  have c0 := hp2.p
  have c1 := hp2.q
  clear ih ih2 hp hq hp2
  go_enter Try.func38, Try.ntmps38
  go_wp2_with fail
  refine HI.out.mono ?_
  rintro e w1 ⟨⟨U, b, rfl, hU⟩, hb⟩
  obtain ⟨d0, d1⟩ := box_later hb
  have HB := Lib.hid (((Below.refl w.heap.size w).alloc (Nat.le_refl _) _).trans (hb.mono (by simp)))
  have hq1 := HQ.out.step HB.out
  have e0 := hq1.p
  have e1 := hq1.q
  have HD := Lib.hid (And.intro d0 d1)
  have HU := Lib.hid hU
  clear c0 c1 hb hq1 hU
  cases b
  · have HN := Lib.hid (termText_false HU.out)
    go_wp2_with fail
    go_ret2
    exact ⟨⟨_, _, rfl, U, false, HU.out, .inl ⟨rfl, rfl, rfl⟩⟩, HB.out⟩
  · go_wp2_with fail
    refine (H2.out _ HB.out).mono ?_
    rintro e w2 ⟨⟨V, b2, rfl, hV⟩, hb2⟩
    have f0 := (hb2.cell (p := ⟨w.heap.size, 0, none⟩) (lt_of_some HD.out.1)).trans HD.out.1
    have f1 := (hb2.cell (p := ⟨w.heap.size, 1, none⟩) (lt_of_some HD.out.1)).trans HD.out.2
    have HB2 := Lib.hid (HB.out.trans (hb2.mono HB.out.size))
    have HV := Lib.hid hV
    clear d0 d1 e0 e1 hb2 HD hV
    cases b2
    · have HN := Lib.hid (termText_false HV.out)
      go_wp2_with fail
      go_ret2
      exact ⟨⟨_, _, rfl, termText_pair HU.out HV.out (by rw [HN.out]; exact midIs_right)⟩, HB2.out⟩
    · go_wp2_with fail
      refine (specSum U V w2 (termText_size hol HU.out) (termText_size hor HV.out)).mono ?_
      rintro e w3 ⟨⟨X, b, rfl, hX⟩, hb3⟩
      have HX := Lib.hid hX
      have HB3 := Lib.hid (HB2.out.trans (hb3.mono HB2.out.size))
      clear hX hb3 f0 f1
      go_wp2_with fail
      go_ret2
      exact ⟨⟨X, b, rfl, termText_pair HU.out HV.out HX.out⟩, HB3.out⟩
set_option maxRecDepth 100000 in
set_option maxHeartbeats 2000000 in
theorem setS_pair38 (l r : Tm) (g m : Nat) (c : UInt8) (a : Option Addr) (n k : Nat) (c2 : UInt8) (a2 : Option Addr) (n2 k2 : Nat) (w : World) (hp : PartT w g 0 c a n k) (hq : PartT w g 2 c2 a2 n2 k2) (hol : tmOk l = true) (hor : tmOk r = true)
    (ih : ∀ W, Below w.heap.size w W → Calls Try.prog 38 #[.agg #[.int .u8 c.toNat, .slice a n k]] W fun e w' => TermEnd l e ∧ Below W.heap.size W w')
    (ih2 : ∀ W, Below w.heap.size w W → Calls Try.prog 38 #[.agg #[.int .u8 c2.toNat, .slice a2 n2 k2]] W fun e w' => TermEnd r e ∧ Below W.heap.size W w') :
    Calls Try.prog 38 #[.agg #[.int .u8 38, .slice (some ⟨g, 0, none⟩) 2 m]] w fun e w' => TermEnd (.pair l 38 r) e ∧ Below w.heap.size w w' := by
  have HI := Lib.hid (ih (w.alloc (.cells #[.int .u8 38, .slice (some ⟨g, 0, none⟩) 2 m] 37)) ((Below.refl _ _).alloc (Nat.le_refl _) _))
  have H2 := Lib.hid ih2
  have HQ := Lib.hid hq
  have hp2 := hp.alloc (.cells #[.int .u8 38, .slice (some ⟨g, 0, none⟩) 2 m] 37)
  have c0 := hp2.p
  have c1 := hp2.q
  clear ih ih2 hp hq hp2
  go_enter Try.func38, Try.ntmps38
  go_wp2_with fail
  refine HI.out.mono ?_
  rintro e w1 ⟨⟨U, b, rfl, hU⟩, hb⟩
  obtain ⟨d0, d1⟩ := box_later hb
  have HB := Lib.hid (((Below.refl w.heap.size w).alloc (Nat.le_refl _) _).trans (hb.mono (by simp)))
  have hq1 := HQ.out.step HB.out
  have e0 := hq1.p
  have e1 := hq1.q
  have HD := Lib.hid (And.intro d0 d1)
  have HU := Lib.hid hU
  clear c0 c1 hb hq1 hU
  cases b
  · have HN := Lib.hid (termText_false HU.out)
    go_wp2_with fail
    go_ret2
    exact ⟨⟨_, _, rfl, U, false, HU.out, .inl ⟨rfl, rfl, rfl⟩⟩, HB.out⟩
  · go_wp2_with fail
    refine (H2.out _ HB.out).mono ?_
    rintro e w2 ⟨⟨V, b2, rfl, hV⟩, hb2⟩
    have f0 := (hb2.cell (p := ⟨w.heap.size, 0, none⟩) (lt_of_some HD.out.1)).trans HD.out.1
    have f1 := (hb2.cell (p := ⟨w.heap.size, 1, none⟩) (lt_of_some HD.out.1)).trans HD.out.2
    have HB2 := Lib.hid (HB.out.trans (hb2.mono HB.out.size))
    have HV := Lib.hid hV
    clear d0 d1 e0 e1 hb2 HD hV
    cases b2
    · have HN := Lib.hid (termText_false HV.out)
      go_wp2_with fail
      go_ret2
      exact ⟨⟨_, _, rfl, termText_pair HU.out HV.out (by rw [HN.out]; exact midIs_right)⟩, HB2.out⟩
    · go_wp2_with fail
      refine (specBoth U V w2 (termText_size hol HU.out) (termText_size hor HV.out)).mono ?_
      rintro e w3 ⟨⟨X, b, rfl, hX⟩, hb3⟩
      have HX := Lib.hid hX
      have HB3 := Lib.hid (HB2.out.trans (hb3.mono HB2.out.size))
      clear hX hb3 f0 f1
      go_wp2_with fail
      go_ret2
      exact ⟨⟨X, b, rfl, termText_pair HU.out HV.out HX.out⟩, HB3.out⟩

/-- The walk of spec.l7Set, whatever the term. -/
theorem setS_any : ∀ (t : Tm) (B : Nat) (v : Value) (w : World), tmOk t = true → IsT B w t v → Calls Try.prog 38 #[v] w fun e w' => TermEnd t e ∧ Below w.heap.size w w' := by
  intro t
  induction t with
  | sign c =>
    rintro B v w ho ⟨a, k, rfl⟩
    rcases one_cases ho with rfl | rfl | rfl
    · exact setS_sign48 a k w
    · exact setS_sign49 a k w
    · exact setS_sign97 a k w
  | star t ih =>
    rintro B v w ho ⟨g, m, x, rfl, _, hx, hT⟩
    obtain ⟨c, a, n, k, rfl, hp⟩ := part_of hx hT
    exact setS_star t g m c a n k w hp ho (fun W hb => ih B _ W ho (hT.step hb))
  | times d t ih =>
    rintro B v w ho ⟨g, m, x, rfl, _, hx, hT⟩
    rw [tmOk, Bool.and_eq_true] at ho
    obtain ⟨c, a, n, k, rfl, hp⟩ := part_of hx hT
    have ih' := fun W (hb : Below w.heap.size w W) => ih B _ W ho.2 (hT.step hb)
    rcases dig_cases ho.1 with rfl | rfl | rfl | rfl
    · exact setS_times50 t g m c a n k w hp ho.2 ih'
    · exact setS_times51 t g m c a n k w hp ho.2 ih'
    · exact setS_times52 t g m c a n k w hp ho.2 ih'
    · exact setS_times53 t g m c a n k w hp ho.2 ih'
  | pair l s r ihl ihr =>
    rintro B v w ho ⟨g, m, x, y, rfl, _, hx, hT, hy, hU⟩
    rw [tmOk, Bool.and_eq_true, Bool.and_eq_true] at ho
    obtain ⟨c, a, n, k, rfl, hp⟩ := part_of hx hT
    obtain ⟨c2, a2, n2, k2, rfl, hq⟩ := part_of hy hU
    have ih1 := fun W (hb : Below w.heap.size w W) => ihl B _ W ho.1 (hT.step hb)
    have ih2 := fun W (hb : Below w.heap.size w W) => ihr B _ W ho.2.2 (hU.step hb)
    rcases mid_cases ho.2.1 with rfl | rfl | rfl
    · exact setS_pair43 l r g m c a n k c2 a2 n2 k2 w hp hq ho.1 ho.2.2 ih1 ih2
    · exact setS_pair46 l r g m c a n k c2 a2 n2 k2 w hp hq ho.1 ho.2.2 ih1 ih2
    · exact setS_pair38 l r g m c a n k c2 a2 n2 k2 w hp hq ho.1 ho.2.2 ih1 ih2

set_option maxRecDepth 100000 in
set_option maxHeartbeats 1000000 in
theorem specTermSet (s : ByteArray) (w : World) : Calls Try.prog 21 #[.string s] w fun e w' => (∃ T b, e = .returned (.tuple #[.string T, .bool b]) ∧ TextOf s T b) ∧ Below w.heap.size w w' := by
  have HI := Lib.hid (fun w => l7Of_any s w)
  cases h : termOf s.data.toList with
  | none =>
    have HE := Lib.hid (textOf_none h)
    rw [h] at HI
    clear h
    go_enter Try.func21, Try.ntmps21
    go_wp2_with fail
    refine (HI.out _).mono ?_
    rintro e w1 ⟨he, hb⟩
    obtain ⟨c, a, n, k, rfl, _⟩ := he.form
    have HB := Lib.hid (hb.alloc hb.size (.cells #[.int .u8 c.toNat, .slice a n k] 37))
    clear he hb
    go_wp2_with fail
    go_ret2
    exact ⟨⟨_, _, rfl, HE.out⟩, HB.out⟩
  | some t =>
    have HE := Lib.hid (fun T b => textOf_some (T := T) (b := b) h)
    rw [h] at HI
    obtain ⟨_, ho, _⟩ := termOf_some h
    have HT := Lib.hid (fun B v w hI => setS_any t B v w ho hI)
    clear h ho
    go_enter Try.func21, Try.ntmps21
    go_wp2_with fail
    refine (HI.out _).mono ?_
    rintro e w1 ⟨he, hb⟩
    obtain ⟨c, a, n, k, rfl, hI⟩ := he.form
    have HB := Lib.hid (hb.alloc hb.size (.cells #[.int .u8 c.toNat, .slice a n k] 37))
    have HX := Lib.hid (HT.out _ _ (w1.alloc (.cells #[.int .u8 c.toNat, .slice a n k] 37)) ((hI t rfl).step ((Below.refl _ _).alloc (Nat.le_refl _) _)))
    clear he hb hI
    go_wp2_with fail
    refine HX.out.mono ?_
    rintro e w2 ⟨⟨V, b, rfl, hV⟩, hb2⟩
    have HV := Lib.hid hV
    have HB2 := Lib.hid (HB.out.trans (hb2.mono HB.out.size))
    clear hV hb2
    go_wp2_with fail
    go_ret2
    exact ⟨⟨V, b, rfl, (HE.out V b).2 HV.out⟩, HB2.out⟩

set_option maxRecDepth 100000 in
set_option maxHeartbeats 1000000 in
theorem specTermSame (s t : ByteArray) (w : World) : Calls Try.prog 25 #[.string s, .string t] w fun e w' => (∃ T b U c, e = .returned (.bool (b && (c && decide (T = U)))) ∧ TextOf s T b ∧ TextOf t U c) ∧ Below w.heap.size w w' := by
  go_enter Try.func25, Try.ntmps25
  go_wp2_with fail
  refine (specTermSet s w).mono ?_
  rintro e w1 ⟨⟨T, b, rfl, hT⟩, hb⟩
  have HT := Lib.hid hT
  have HB := Lib.hid hb
  clear hT hb
  go_wp2_with fail
  refine (specTermSet t w1).mono ?_
  rintro e w2 ⟨⟨U, c, rfl, hU⟩, hb2⟩
  have HU := Lib.hid hU
  have HB2 := Lib.hid (HB.out.trans (hb2.mono HB.out.size))
  clear hU hb2
  cases b
  · go_wp2_with fail
    go_ret
    exact ⟨⟨T, false, U, c, rfl, HT.out, HU.out⟩, HB2.out⟩
  · cases c
    · go_wp2_with fail
      go_ret
      exact ⟨⟨T, true, U, false, rfl, HT.out, HU.out⟩, HB2.out⟩
    · by_cases hTU : T = U
      · have hd : decide (T = U) = true := decide_eq_true hTU
        have HD := Lib.hid hd
        have hl : T.toList = U.toList := by rw [hTU]
        have hl2 : (T.toList == U.toList) = true := by rw [hl]; simp
        clear hTU hd
        go_wp2_with fail
        go_ret
        exact ⟨⟨T, true, U, true, by rw [HD.out]; rfl, HT.out, HU.out⟩, HB2.out⟩
      · have hd : decide (T = U) = false := decide_eq_false hTU
        have HD := Lib.hid hd
        have hl : ¬ T.toList = U.toList := fun e => hTU (by
          rw [Lib.toList_data, Lib.toList_data] at e
          exact ByteArray.ext (Array.ext' e))
        have hl2 : (T.toList == U.toList) = false := by simpa using hl
        clear hTU hd
        go_wp2_with fail
        go_ret
        exact ⟨⟨T, true, U, true, by rw [HD.out]; rfl, HT.out, HU.out⟩, HB2.out⟩

end Go.Proofs.Ytcacdgojibojgab
