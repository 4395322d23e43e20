/-
  The walk of spec.l91Said: a term that is drawn, seldom none. A slice of integers that came in, as a walk is told of it. A slice of bytes that came in: some bytes. What the walks of chapter 7's promises share. The walks of the methods that find the first numbers of a term. The walks of spec.l7Sum and of spec.l7Marks. The walks of TermHas and TermEmpty, of the program and of the model. The walks of TermList, of the program and of the model. The function that MakeEither hands joined. The walk of MakeEither, of the program. The function that MakeBoth hands joined. The walk of MakeBoth, of the program. What the model's MakeEither, MakeBoth, MakeWithout, MakeOther answer. The walks of the methods that make the set text of a term, and of TermSet and TermSame, of the program. The walks of spec.l7Set, spec.TermSet and spec.TermSame. The walk of impl.numberIn. The walks of SetList and SetCount, of the program. The walk of the laws' own sameInts. The walk of the law FnTermSet.
-/
import Derived.Test.YtiphooodijbhiaaDrawTerm
import Derived.Test.YtiphooodijbhiaaInts
import Derived.Test.YtiphooodijbhiaaSetDef
import Derived.Test.YtiphooodijbhiaaDrawOpen
import Derived.Test.YtiphooodijbhiaaTermSem
import Derived.Test.YtiphooodijbhiaaTermSignI
import Derived.Test.YtiphooodijbhiaaStarOfI
import Derived.Shelf.Abstract
import Derived.Deep.RegionHeld
import Derived.Test.YtiphooodijbhiaaTermPart
import Derived.Test.YtiphooodijbhiaaSumWithI
import Derived.Test.YtiphooodijbhiaaTwoS
import Derived.Test.YtiphooodijbhiaaInS
import Derived.Test.YtiphooodijbhiaaJoinI
import Derived.Test.YtiphooodijbhiaaTermI
import Derived.Test.YtiphooodijbhiaaStarTextI
import Derived.Test.YtiphooodijbhiaaSumTimesI
import Derived.Test.YtiphooodijbhiaaSumOfAny
import Derived.Test.YtiphooodijbhiaaSpecStar
import Derived.Test.YtiphooodijbhiaaSpecSum
import Derived.Test.YtiphooodijbhiaaSpecSumOf
import Derived.Test.YtiphooodijbhiaaHasI
import Derived.Test.YtiphooodijbhiaaSetTidyI

namespace Go.Proofs.Ytiphooodijbhiaa
open Go.RowKit
set_option linter.unusedVariables false

theorem term_less {d B C : Nat} (h : TermAt d B) (hBC : B ≤ C) : TermAt d C := by
  intro R a n c p w hr hp
  refine (h hr (by omega)).mono ?_
  rintro e w' ⟨s, p', h1, h2, h3, h4, h5, h6⟩
  exact ⟨s, p', h1, h2, by omega, by omega, h5, h6⟩
theorem term_any (d : Nat) (hd : d < 4) : TermAt d 29 := by
  have t0 : TermAt 0 1 := term_zero
  have t1 : TermAt 1 5 := @term_step 0 1 1 (by decide) (by decide) rfl @t0
  have t2 : TermAt 2 13 := @term_step 1 5 2 (by decide) (by decide) rfl @t1
  have t3 : TermAt 3 29 := @term_step 2 13 3 (by decide) (by decide) rfl @t2
  have : d = 0 ∨ d = 1 ∨ d = 2 ∨ d = 3 := by omega
  rcases this with rfl | rfl | rfl | rfl
  · exact @term_less 0 1 29 @t0 (by omega)
  · exact @term_less 1 5 29 @t1 (by omega)
  · exact @term_less 2 13 29 @t2 (by omega)
  · exact @t3
theorem five_str (v : Nat) (hv : v < 5) : ∃ s : ByteArray, s.size ≤ 1 ∧ (#[Value.string ⟨#[]⟩, Value.string ⟨#[98]⟩, Value.string ⟨#[40]⟩, Value.string ⟨#[41]⟩, Value.string ⟨#[43]⟩] : Array Value)[v]? = some (.string s) := by
  have : v = 0 ∨ v = 1 ∨ v = 2 ∨ v = 3 ∨ v = 4 := by omega
  rcases this with rfl | rfl | rfl | rfl | rfl
  · exact ⟨⟨#[]⟩, by decide, rfl⟩
  · exact ⟨⟨#[98]⟩, by decide, rfl⟩
  · exact ⟨⟨#[40]⟩, by decide, rfl⟩
  · exact ⟨⟨#[41]⟩, by decide, rfl⟩
  · exact ⟨⟨#[43]⟩, by decide, rfl⟩

def SaidEnds (R : Nat) (a : Option Addr) (n c p : Nat) (w : World) (e : Ending) (w' : World) : Prop :=
  ∃ (s : ByteArray) (p' : Nat), e = .returned (.string s) ∧ s.size ≤ 30 ∧ p' ≤ p + 40 ∧ Rd R a n c p' w' ∧ Apart R w w'

set_option maxRecDepth 100000 in
set_option maxHeartbeats 4000000 in
theorem said_rd {R : Nat} {a : Option Addr} {n c p : Nat} {w : World} (h : Rd R a n c p w) (hp : p ≤ 1000) :
    Calls Try.prog 83 #[.pointer (some ⟨R, 0, none⟩)] w (SaidEnds R a n c p w) := by
  have hR := h.lt
  go_enter Try.func83, Try.ntmps83
  go_wp2_with fail
  refine (pick_rd h 4 (by omega) (by omega) (by omega)).mono ?_
  rintro e w1 ⟨d, rfl, hd, hrd1, hap1, hz1⟩
  clear hz1
  go_wp2_with fail
  refine (term_any d hd hrd1 (by omega)).mono ?_
  rintro e w2 ⟨s, p2, rfl, hs1, hs2, hp2, hrd2, hap2⟩
  have HA2 := Lib.hid (hap1.trans hap2)
  clear hap1 hap2 hrd1
  go_wp2_with fail
  refine (pick_rd hrd2 16 (by omega) (by omega) (by omega)).mono ?_
  rintro e w3 ⟨z, rfl, hz, hrd3, hap3, hz3⟩
  clear hz3
  have HA3 := Lib.hid (HA2.out.trans hap3)
  clear hap3 hrd2 HA2
  by_cases h0 : z = 0
  · subst h0
    go_wp2_with fail
    refine (pick_rdi hrd3 ((s.size : Int) + 1) (s.size + 1) (by omega) (by omega) (by omega) (by omega)).mono ?_
    rintro e w4 ⟨k, rfl, hk, hrd4, hap4, hz4⟩
    clear hz4
    have hR4 := hrd4.lt
    have HA4 := Lib.hid (HA3.out.trans hap4)
    have HR4 := Lib.hid hrd4
    have hk1 : (k : Int) ≤ (s.size : Int) := by omega
    have hk2 : k ≤ s.size := by omega
    have hk0 : (0 : Int) ≤ (k : Int) := by omega
    have hk3 : ¬ (k : Int) < 0 := by omega
    have hk4 : ¬ (s.size : Int) < (k : Int) := by omega
    clear hap4 hrd3 hrd4 HA3
    go_wp2
    go_region_with (first
      | (go_at_call 60; (with_reducible refine (pick_rdi (a := a) (n := n) (c := c) (p := p2 + 1 + 1) ?_ (5 : Int) 5 rfl (by omega) (by omega) (by omega)).mono ?_); rdt HR4; rintro e w5 ⟨v, rfl, hv, hrd5, hap5, hsz5⟩; have hR5 := hrd5.lt; have HR5 := Lib.hid hrd5; have HA5 := Lib.hid (show Apart R w w5 from (by refine Apart.trans ?_ hap5; apt HA4)); obtain ⟨t, ht1, ht⟩ := five_str v hv; have ht2 := fun T W => four_new (T := T) ht W; have hv5 : (v : Int) < 5 := (by omega); (first | (with_reducible have htab5 := table_new hap5 hR4) | (with_reducible have htab5 := table_newD hap5 hR4) | (with_reducible have htab5 := table_newM hap5 hR4) | (with_reducible have htab5 := table_newN hap5 hR4) | skip); (first | have hcell5 := table_at htab5 ht | skip); clear hrd5 hsz5))
    all_goals
      go_wp2
      go_ret
      refine ⟨_, p2 + 1 + 1 + 1, rfl, ?_, ?_, ?_, ?_⟩
      · rw [ByteArray.size_append, ByteArray.size_append, ByteArray.size_extract, ByteArray.size_extract]; omega
      · omega
      · rdt HR5
      · apt HA5
  · have z0 : ((z : Int) == 0) = false := by rw [beq_eq_false_iff_ne]; omega
    go_wp2
    go_ret
    exact ⟨s, _, rfl, by omega, by omega, hrd3, HA3.out⟩

end Go.Proofs.Ytiphooodijbhiaa

namespace Go.Proofs.Ytiphooodijbhiaa
open Go.RowKit
set_option linter.unusedVariables false

theorem lt_of_cell1 {w : World} {b o : Nat} {v : Value} (h : w.cell? ⟨b, o, none⟩ = some v) : b < w.heap.size := by
  rcases Nat.lt_or_ge b w.heap.size with k | k
  · exact k
  · simp [World.cell?, Array.getElem?_eq_none k] at h
/-- What a walk is told of a slice of integers that came in. -/
def IsRow (k : IntKind) (w : World) (a : Option Addr) (len cap : Nat) (zs : List Int) : Prop :=
  (a = none ∧ len = 0 ∧ cap = 0 ∧ zs = []) ∨
  ∃ x, a = some x ∧ len ≤ cap ∧ cap ≤ maxLen ∧ zs.length = cap ∧ (∀ i, i < zs.length → w.cell? (x.add i) = some (.int k (zs.getD i 0))) ∧ ∀ n ∈ zs, (Lit.int k n).wf = true
theorem IsRow.reads {w : World} {a : Option Addr} {len cap : Nat} {zs : List Int} (h : IsRow .i64 w a len cap zs) : ReadsI w a len (zs.take len) := by
  rcases h with ⟨rfl, rfl, rfl, rfl⟩ | ⟨x, rfl, hl, hm, hz, hc, _⟩
  · exact ⟨rfl, .inl rfl⟩
  · refine ⟨by rw [List.length_take]; omega, ?_⟩
    rcases Nat.eq_zero_or_pos len with h0 | h0
    · exact .inl h0
    · right
      obtain ⟨b, off, spot⟩ := x
      have h1 := hc 0 (by omega)
      have hspot : spot = none := by simpa [Addr.add] using World.cell?_spot h1
      subst hspot
      have hadd : ∀ j, (⟨b, off, none⟩ : Addr).add j = ⟨b, off + j, none⟩ := fun j => by unfold Addr.add; split <;> simp_all
      refine ⟨b, off, rfl, lt_of_cell1 (by rw [hadd] at h1; exact h1), fun i hi => ?_⟩
      have := hc i (by omega)
      rw [hadd] at this
      rw [this, List.getD_eq_getElem?_getD, List.getD_eq_getElem?_getD, List.getElem?_take_of_lt hi]

theorem IsRow.cap {k : IntKind} {w : World} {a : Option Addr} {len cap : Nat} {zs : List Int} (h : IsRow k w a len cap zs) : len ≤ cap := by
  rcases h with ⟨_, rfl, rfl, _⟩ | ⟨x, _, hl, _⟩
  · exact Nat.le_refl _
  · exact hl

end Go.Proofs.Ytiphooodijbhiaa

namespace Go.Proofs.Ytiphooodijbhiaa
open Go.RowKit

theorem IsRow.bytes {w : World} {a : Option Addr} {len cap : Nat} {zs : List Int} (h : IsRow .u8 w a len cap zs) : Bytes w a len := by
  rcases h with ⟨rfl, rfl, rfl, rfl⟩ | ⟨x, rfl, hl, hm, hz, hc, hw⟩
  · exact .inl rfl
  · rcases Nat.eq_zero_or_pos len with h0 | h0
    · exact .inl h0
    · right
      obtain ⟨b, off, spot⟩ := x
      have h1 := hc 0 (by omega)
      have hspot : spot = none := by simpa [Addr.add] using World.cell?_spot h1
      subst hspot
      have hadd : ∀ j, (⟨b, off, none⟩ : Addr).add j = ⟨b, off + j, none⟩ := fun j => by unfold Addr.add; split <;> simp_all
      refine ⟨b, off, rfl, lt_of_some (by rw [hadd] at h1; exact h1), fun i hi => ⟨zs.getD i 0, ?_, ?_⟩⟩
      · have := hc i (by omega)
        rw [hadd] at this
        exact this
      · have hmem : zs.getD i 0 ∈ zs := by
          rw [List.getD_eq_getElem?_getD, List.getElem?_eq_getElem (by omega)]; exact List.getElem_mem _
        have := hw _ hmem
        simp only [Lit.wf, Bool.and_eq_true, decide_eq_true_eq] at this
        have e1 : IntKind.u8.min = 0 := rfl
        have e2 : IntKind.u8.max = 255 := rfl
        rw [e1, e2] at this
        exact this
end Go.Proofs.Ytiphooodijbhiaa

set_option linter.unusedVariables false
set_option linter.unusedSimpArgs false
namespace Go.Proofs.Ytiphooodijbhiaa
open Go.RowKit

/-- A number is drawn from a row of five. -/
theorem pick_at {R : Nat} {a : Option Addr} {n c p : Nat} {w w0 : World} (h : Rd R a n c p w) (hp : p ≤ 1000) (hR : R < w.heap.size) (hb : Below w.heap.size w w0) (M : Int) (m : Nat) (hM : M = (m : Int)) (hm0 : 0 < m) (hm : m ≤ 1000000) :
    Calls Try.prog 60 #[.pointer (some ⟨R, 0, none⟩), .int .i64 M] w0 fun e w' =>
      ∃ v : Nat, e = .returned (.int .i64 v) ∧ v < m ∧ Rd R a n c (p + 1) w' ∧ Apart R w0 w' ∧ Apart R w w' := by
  subst hM
  refine (pick_rd (h.below hb hR) m (by omega) hm0 hm).mono ?_
  rintro e w' ⟨v, h1, h2, h3, h4, _⟩
  exact ⟨v, h1, h2, h3, h4, (Apart.of_below (Nat.le_of_lt hR) hb).trans h4⟩
theorem five_at (y1 y2 v : Nat) (h1 : y1 < 30) (h2 : y2 < 201) (hv : v < 5) : ∃ x : Int, (-1 ≤ x ∧ x ≤ 201) ∧ (#[.int .i64 y1, .int .i64 y2, .int .i64 200, .int .i64 201, .int .i64 (-1)] : Array Value)[v]? = some (.int .i64 x) ∧
    ∀ W : World, (W.alloc (.cells #[.int .i64 y1, .int .i64 y2, .int .i64 200, .int .i64 201, .int .i64 (-1)] 3)).cell? ⟨W.heap.size, v, none⟩ = some (.int .i64 x) := by
  have key : ∀ x : Int, (#[.int .i64 y1, .int .i64 y2, .int .i64 200, .int .i64 201, .int .i64 (-1)] : Array Value)[v]? = some (.int .i64 x) → ∀ W : World, (W.alloc (.cells #[.int .i64 y1, .int .i64 y2, .int .i64 200, .int .i64 201, .int .i64 (-1)] 3)).cell? ⟨W.heap.size, v, none⟩ = some (.int .i64 x) := fun x h W => by
    rw [World.cell?_alloc_at _ _ _ _ rfl]; exact h
  have : v = 0 ∨ v = 1 ∨ v = 2 ∨ v = 3 ∨ v = 4 := by omega
  rcases this with rfl | rfl | rfl | rfl | rfl
  · exact ⟨y1, by omega, rfl, key _ rfl⟩
  · exact ⟨y2, by omega, rfl, key _ rfl⟩
  · exact ⟨200, by omega, rfl, key _ rfl⟩
  · exact ⟨201, by omega, rfl, key _ rfl⟩
  · exact ⟨-1, by omega, rfl, key _ rfl⟩
/-- What the text of a set that a term tells says. -/
theorem text_says {s T : ByteArray} (h : TextOf s T true) : ∃ t, termOf s.data.toList = some t ∧ tmOk t = true ∧ TidyText (tmF t) T := by
  unfold TextOf at h
  cases e : termOf s.data.toList with
  | none => rw [e] at h; exact absurd h.2 (by decide)
  | some t =>
    rw [e] at h
    obtain ⟨_, ho, _⟩ := termOf_some e
    exact ⟨t, rfl, ho, termText_told ho h⟩
theorem told_size {T : ByteArray} (h : okS T = true) : T.size ≤ 1048576 := by
  rw [set_size h]
  have h1 := setT_le h
  have h2 := setR_le h
  omega
theorem textOf_size {s T : ByteArray} {b : Bool} (h : TextOf s T b) : T.size ≤ 1048576 := by
  unfold TextOf at h
  cases e : termOf s.data.toList with
  | none => rw [e] at h; rw [h.1]; decide
  | some t =>
    rw [e] at h
    exact termText_size (termOf_some e).2.1 h

end Go.Proofs.Ytiphooodijbhiaa

set_option linter.unusedVariables false
set_option linter.unusedSimpArgs false
namespace Go.Proofs.Ytiphooodijbhiaa
open Go.RowKit

/-- The method that finds the first numbers of a term. -/
def firstF : Tm → Nat
  | .sign _ => 199
  | .star _ => 174
  | .times _ _ => 186
  | .pair _ _ _ => 193
theorem method_first (t : Tm) (w : World) : (method 305 (tmTy t) (tmRecv t) "loop.example/oneletter/impl.first").run Try.prog w = .ok (firstF t, tmRecv t) w := by
  cases t <;> kernel_rfl
theorem first_enters (t : Tm) : ∀ (args : Array Value) (w : World), (callFunc (firstF t) args).run Try.prog w = .ok (.enter (firstF t) args) w := by
  cases t
  · exact enters_of Try.func199 (by kernel_rfl) rfl
  · exact enters_of Try.func174 (by kernel_rfl) rfl
  · exact enters_of Try.func186 (by kernel_rfl) rfl
  · exact enters_of Try.func193 (by kernel_rfl) rfl
/-- What is answered where the first numbers of a set are found. -/
def FirstEnd (f : Nat → Bool) (w : World) (e : Ending) (w' : World) : Prop :=
  (∃ G o M, e = .returned (.slice (some ⟨G, o, none⟩) (201 : Nat) (201 : Nat)) ∧ w.heap.size ≤ G ∧ NumAt w' G o 201 M f) ∧ Below w.heap.size w w'

theorem one_tells {c : UInt8} (h : isOne c = true) {T R : ByteArray} (hs : IsSplit (signT c) T R) : Tells (oneF c) T R := by
  have ht := signT_tells h
  have he : fS (signT c) = oneF c := ht.told.set
  rw [← he] at ht
  obtain ⟨h1, h2⟩ := split_parts ht hs
  rw [he] at h1 h2
  have h3 : T.size ≤ 8 ∧ R.size ≤ 8 := by
    rcases one_cases h with rfl | rfl | rfl
    · obtain ⟨e1, e2⟩ := tidy_unique h1 tidy_noneF; omega
    · rw [oneF_one] at h1; obtain ⟨e1, e2⟩ := tidy_unique h1 tidy_zeroOnly; omega
    · obtain ⟨e1, e2⟩ := tidy_unique h1 tidy_aOnly; omega
  exact (h2 h3.1 h3.2).parts

set_option maxRecDepth 100000 in
set_option maxHeartbeats 1000000 in
theorem first_sign (c : UInt8) (m : Int) (w : World) (ho : isOne c = true) (hL : LibAt m w) : Calls Try.prog 199 #[.int .u8 c.toNat] w (FirstEnd (oneF c) w) := by
  have HS := Lib.hid (fun w => set_sign c w ho)
  have HO := Lib.hid ho
  have HL := Lib.hid hL
  clear ho hL
  go_enter Try.func199, Try.ntmps199
  go_wp2_with fail
  refine (HS.out w).mono ?_
  rintro e w1 ⟨⟨U, b, rfl, rfl, rfl⟩, hb⟩
  have HB := Lib.hid hb
  clear hb
  go_wp2_with fail
  refine (split_on (signT c) m w1 (termText_size (t := .sign c) HO.out ⟨rfl, rfl⟩) (HL.out.below HB.out) (signT_tells HO.out).told.ok).mono ?_
  rintro e w2 ⟨T, R, rfl, hb2, hsp⟩
  have HT := Lib.hid (one_tells HO.out hsp)
  have HB2 := Lib.hid ((HB.out.trans (hb2.mono HB.out.size)).alloc (Nat.le_trans HB.out.size hb2.size) (.cells #[.string T, .string R] 84))
  clear hb2 hsp
  go_wp2_with fail
  refine (numbersOf_any (oneF c) T R 201 _ HT.out (by omega)).mono ?_
  rintro e w3 ⟨G, rfl, hG, hr, hb3⟩
  have HR := Lib.hid hr
  have HB3 := Lib.hid (HB2.out.trans (hb3.mono HB2.out.size))
  have HG := Lib.hid (Nat.le_trans HB2.out.size hG)
  clear hr hb3 hG
  go_wp2_with fail
  go_ret
  exact ⟨⟨G, 0, 201, rfl, HG.out, HR.out.num⟩, HB3.out⟩

set_option maxRecDepth 100000 in
set_option maxHeartbeats 1000000 in
theorem first_star (t : Tm) (m : Int) (w : World) (hL : LibAt m w) (ih : ∀ w, LibAt m w → Calls Try.prog (firstF t) #[tmRecv t] w (FirstEnd (tmF t) w)) :
    Calls Try.prog 174 #[tmRecv (.star t)] w (FirstEnd (starB (tmF t)) w) := by
  have HI := Lib.hid ih
  have HL := Lib.hid hL
  clear ih hL
  have hm := method_first t
  have he := first_enters t
  show Calls Try.prog 174 #[.agg #[.iface (tmTy t) (tmRecv t)]] w _
  go_enter Try.func174, Try.ntmps174
  go_wp2_with (go_at_fn (firstF t); refine (HI.out _ (HL.out.alloc _)).mono ?_; rintro e w1 ⟨⟨G, o, M, rfl, hG, hN⟩, hb⟩; have HN := Lib.hid hN; have HB := Lib.hid (((Below.refl w.heap.size w).alloc (Nat.le_refl _) _).trans (hb.mono (by simp))); clear hG hN hb)
  refine (star_call G o 201 M 201 (tmF t) w1 HN.out (by omega) (by omega)).mono ?_
  rintro e w2 ⟨G2, a, c, rfl, hr, _, hG2, hb2⟩
  have HR := Lib.hid hr
  have HB2 := Lib.hid (HB.out.trans (hb2.mono HB.out.size))
  have HG2 := Lib.hid (Nat.le_trans HB.out.size hG2)
  clear hr hb2 hG2
  go_wp2_with fail
  go_ret
  refine ⟨⟨G2, 201, 402, rfl, HG2.out, starRowN 201 (tmF t) 201, HR.out, by omega, fun n hn => ?_⟩, HB2.out⟩
  unfold starRowN behind
  rw [decide_eq_true (by omega), Bool.true_and, show 201 + n - 201 = n from by omega, starB_less hn]

/-- The world of the loop that sums a set again and again. -/
structure TimesLoop (f : Nat → Bool) (G1 o1 M1 k : Nat) (v : Value) (w wr : World) : Prop where
  one : NumAt wr G1 o1 201 M1 f
  sum : ∃ G o M, v = .slice (some ⟨G, o, none⟩) (201 : Nat) (201 : Nat) ∧ w.heap.size ≤ G ∧ NumAt wr G o 201 M (sumK f k)
  below : Below w.heap.size w wr
set_option maxRecDepth 100000 in
set_option maxHeartbeats 2000000 in
theorem first_times (d : UInt8) (t : Tm) (m : Int) (w : World) (hd : isDig d = true) (hL : LibAt m w) (ih : ∀ w, LibAt m w → Calls Try.prog (firstF t) #[tmRecv t] w (FirstEnd (tmF t) w)) :
    Calls Try.prog 186 #[tmRecv (.times d t)] w (FirstEnd (sumK (tmF t) (d.toNat - 49)) w) := by
  have HI := Lib.hid ih
  have HL := Lib.hid hL
  have HD := Lib.hid hd
  obtain ⟨K, hK⟩ : ∃ K, K = d.toNat - 49 := ⟨_, rfl⟩
  have hKi : (d.toNat : Int) - 48 - 1 = (K : Int) := by rcases dig_cases hd with rfl | rfl | rfl | rfl <;> (subst hK; rfl)
  have hKl : K ≤ 4 := by rcases dig_cases hd with rfl | rfl | rfl | rfl <;> (subst hK; decide)
  obtain ⟨z, hz⟩ : ∃ z : Int, z = (d.toNat : Int) - 48 := ⟨_, rfl⟩
  have hzk : z = (K : Int) + 1 := by omega
  rw [← hK]
  have HV := Lib.hid (fun T v w => times_val d T v w hd)
  rw [← hz, hzk] at HV
  clear ih hL hd hK hKi hz hzk
  have hm := method_first t
  have he := first_enters t
  show Calls Try.prog 186 #[.agg #[.int .u8 d.toNat, .iface (tmTy t) (tmRecv t)]] w _
  go_enter Try.func186, Try.ntmps186
  go_wp2_with (go_at_fn (firstF t); refine (HI.out _ (HL.out.alloc _)).mono ?_; rintro e w1 ⟨⟨G, o, M, rfl, hG, hN⟩, hb⟩; have HN := Lib.hid hN; have HB := Lib.hid (((Below.refl w.heap.size w).alloc (Nat.le_refl _) _).trans (hb.mono (by simp))); have HG := Lib.hid (show w.heap.size ≤ G by simp at hG; omega); obtain ⟨d0, d1⟩ := box_later hb; clear hG hN hb)
  refine (HV.out _ _ w1).mono ?_
  rintro e w2 ⟨rfl, hb2⟩
  have HL0 : Hid (TimesLoop (tmF t) G o M 0 (.slice (some ⟨G, o, none⟩) (201 : Nat) (201 : Nat)) w w2) := Lib.hid ⟨HN.out.step hb2, ⟨G, o, M, rfl, HG.out, HN.out.step hb2⟩, HB.out.trans (hb2.mono HB.out.size)⟩
  clear hb2 d0 d1
  go_wp2
  go_loopw [4, 12] (fun v i wr => ∃ k : Nat, k ≤ K ∧ i = .int .i64 k ∧ TimesLoop (tmF t) G o M k v w wr) (fun _ i _ => K - (intOf i).toNat)
  case atStart => exact ⟨0, Nat.zero_le _, rfl, HL0.out⟩
  case round =>
    obtain ⟨k, hk, rfl, hl⟩ := hrel
    obtain ⟨G2, o2, M2, rfl, hG2, hN2⟩ := hl.sum
    have H1 := Lib.hid hl.one
    have H2 := Lib.hid hN2
    have HB2 := Lib.hid hl.below
    have HG2 := Lib.hid hG2
    clear hl hG2 hN2
    by_cases hlt : k < K
    · go_wp2_with fail
      refine (sumWith_any G2 o2 M2 201 G o M 201 201 (sumK (tmF t) k) (tmF t) wr H2.out H1.out (by omega) (by omega)).mono ?_
      rintro e w3 ⟨G3, rfl, hG3, hr3, hb3⟩
      have HX : Hid (TimesLoop (tmF t) G o M (k + 1) (.slice (some ⟨G3, 0, none⟩) (201 : Nat) (201 : Nat)) w w3) := Lib.hid ⟨H1.out.step hb3, ⟨G3, 0, 201, rfl, Nat.le_trans HB2.out.size hG3, hr3.num⟩, HB2.out.trans (hb3.mono HB2.out.size)⟩
      clear hG3 hr3 hb3
      go_wp2
      go_roundw
      case rel => exact ⟨k + 1, by omega, by go_num, HX.out⟩
      case measure => simp [intOf]; omega
    · obtain rfl : k = K := by omega
      go_wp2
      go_ret
      exact ⟨⟨G2, o2, M2, rfl, HG2.out, H2.out⟩, HB2.out⟩

set_option maxRecDepth 100000 in
set_option maxHeartbeats 4000000 in
theorem first_pair46 (l r : Tm) (m : Int) (w : World) (hL : LibAt m w) (ihl : ∀ w, LibAt m w → Calls Try.prog (firstF l) #[tmRecv l] w (FirstEnd (tmF l) w)) (ihr : ∀ w, LibAt m w → Calls Try.prog (firstF r) #[tmRecv r] w (FirstEnd (tmF r) w)) :
    Calls Try.prog 193 #[tmRecv (.pair l 46 r)] w (FirstEnd (midF 46 (tmF l) (tmF r)) w) := by
  have keepB : ∀ W1 w1 : World, Below W1.heap.size W1 w1 → (W1.cell? ⟨w.heap.size, 0, none⟩ = some (.iface (tmTy l) (tmRecv l)) ∧ W1.cell? ⟨w.heap.size, 1, none⟩ = some (.int .u8 46) ∧ W1.cell? ⟨w.heap.size, 2, none⟩ = some (.iface (tmTy r) (tmRecv r)) ∧ Below w.heap.size w W1) → (w1.cell? ⟨w.heap.size, 0, none⟩ = some (.iface (tmTy l) (tmRecv l)) ∧ w1.cell? ⟨w.heap.size, 1, none⟩ = some (.int .u8 46) ∧ w1.cell? ⟨w.heap.size, 2, none⟩ = some (.iface (tmTy r) (tmRecv r)) ∧ Below w.heap.size w w1) :=
    fun W1 w1 hb h => ⟨(hb.cell (p := ⟨w.heap.size, 0, none⟩) (lt_of_some h.1)).trans h.1, (hb.cell (p := ⟨w.heap.size, 1, none⟩) (lt_of_some h.2.1)).trans h.2.1, (hb.cell (p := ⟨w.heap.size, 2, none⟩) (lt_of_some h.2.2.1)).trans h.2.2.1, h.2.2.2.trans (hb.mono h.2.2.2.size)⟩
  have K1 : Hid (∀ W1 : World, (W1.cell? ⟨w.heap.size, 0, none⟩ = some (.iface (tmTy l) (tmRecv l)) ∧ W1.cell? ⟨w.heap.size, 1, none⟩ = some (.int .u8 46) ∧ W1.cell? ⟨w.heap.size, 2, none⟩ = some (.iface (tmTy r) (tmRecv r)) ∧ Below w.heap.size w W1) → Calls Try.prog (firstF l) #[tmRecv l] W1 fun e w' => (∃ G o M, e = .returned (.slice (some ⟨G, o, none⟩) (201 : Nat) (201 : Nat)) ∧ W1.heap.size ≤ G ∧ NumAt w' G o 201 M (tmF l)) ∧ (w'.cell? ⟨w.heap.size, 0, none⟩ = some (.iface (tmTy l) (tmRecv l)) ∧ w'.cell? ⟨w.heap.size, 1, none⟩ = some (.int .u8 46) ∧ w'.cell? ⟨w.heap.size, 2, none⟩ = some (.iface (tmTy r) (tmRecv r)) ∧ Below w.heap.size w w') ∧ Below W1.heap.size W1 w') :=
    Lib.hid (fun W1 h => (ihl W1 (hL.below h.2.2.2)).mono fun e w' ⟨he, hb⟩ => ⟨he, keepB _ _ hb h, hb⟩)
  have K2 : Hid (∀ W1 : World, (W1.cell? ⟨w.heap.size, 0, none⟩ = some (.iface (tmTy l) (tmRecv l)) ∧ W1.cell? ⟨w.heap.size, 1, none⟩ = some (.int .u8 46) ∧ W1.cell? ⟨w.heap.size, 2, none⟩ = some (.iface (tmTy r) (tmRecv r)) ∧ Below w.heap.size w W1) → Calls Try.prog (firstF r) #[tmRecv r] W1 fun e w' => (∃ G o M, e = .returned (.slice (some ⟨G, o, none⟩) (201 : Nat) (201 : Nat)) ∧ W1.heap.size ≤ G ∧ NumAt w' G o 201 M (tmF r)) ∧ (w'.cell? ⟨w.heap.size, 0, none⟩ = some (.iface (tmTy l) (tmRecv l)) ∧ w'.cell? ⟨w.heap.size, 1, none⟩ = some (.int .u8 46) ∧ w'.cell? ⟨w.heap.size, 2, none⟩ = some (.iface (tmTy r) (tmRecv r)) ∧ Below w.heap.size w w') ∧ Below W1.heap.size W1 w') :=
    Lib.hid (fun W1 h => (ihr W1 (hL.below h.2.2.2)).mono fun e w' ⟨he, hb⟩ => ⟨he, keepB _ _ hb h, hb⟩)
  have HSD : (w.alloc (.cells #[.iface (tmTy l) (tmRecv l), .int .u8 46, .iface (tmTy r) (tmRecv r)] 151)).drew.cell? ⟨w.heap.size, 0, none⟩ = some (.iface (tmTy l) (tmRecv l)) ∧ (w.alloc (.cells #[.iface (tmTy l) (tmRecv l), .int .u8 46, .iface (tmTy r) (tmRecv r)] 151)).drew.cell? ⟨w.heap.size, 1, none⟩ = some (.int .u8 46) ∧ (w.alloc (.cells #[.iface (tmTy l) (tmRecv l), .int .u8 46, .iface (tmTy r) (tmRecv r)] 151)).drew.cell? ⟨w.heap.size, 2, none⟩ = some (.iface (tmTy r) (tmRecv r)) ∧ Below w.heap.size w (w.alloc (.cells #[.iface (tmTy l) (tmRecv l), .int .u8 46, .iface (tmTy r) (tmRecv r)] 151)).drew := ⟨by rw [World.cell?_drew, World.cell?_alloc_at _ _ _ _ rfl]; rfl, by rw [World.cell?_drew, World.cell?_alloc_at _ _ _ _ rfl]; rfl, by rw [World.cell?_drew, World.cell?_alloc_at _ _ _ _ rfl]; rfl, ((Below.refl _ _).alloc (Nat.le_refl _) _).drew⟩
  have hml := method_first l
  have hel := first_enters l
  have hmr := method_first r
  have her := first_enters r
  generalize tmF l = f at *
  generalize tmF r = g at *
  clear keepB ihl ihr hL
  show Calls Try.prog 193 #[.agg #[.iface (tmTy l) (tmRecv l), .int .u8 46, .iface (tmTy r) (tmRecv r)]] w _
  go_enter Try.func193, Try.ntmps193
  go_wp2_with fail
  go_region_held (fun w' => w'.cell? ⟨w.heap.size, 0, none⟩ = some (.iface (tmTy l) (tmRecv l)) ∧ w'.cell? ⟨w.heap.size, 1, none⟩ = some (.int .u8 46) ∧ w'.cell? ⟨w.heap.size, 2, none⟩ = some (.iface (tmTy r) (tmRecv r)) ∧ Below w.heap.size w w') (first | assumption | exact ⟨by assumption, by assumption, by assumption, by assumption⟩)
    (first
      | (go_at_fn (firstF l); (with_reducible refine (K1.out _ ?_).mono ?_); assumption; rintro e w5 ⟨⟨G1, o1, M1, rfl, hG1, hN1⟩, hk5, hb5⟩)
      | (go_at_fn (firstF r); (with_reducible refine (K2.out _ ?_).mono ?_); assumption; rintro e w6 ⟨⟨G2, o2, M2, rfl, hG2, hN2⟩, hk6, hb6⟩))
  have hne : G1 ≠ G2 := by have := hN1.lt; omega
  have HG1 : Hid (w.heap.size ≤ G1) := Lib.hid (by simp at hG1; omega)
  have HN1 := Lib.hid (hN1.step hb6)
  have HN2 := Lib.hid hN2
  have HK := Lib.hid hk6
  have f1 := hk6.2.1
  clear hN1 hN2 hk5 hk6 hb5 hb6 hG1 hG2 HSD K1 K2
  go_wp2_with fail
  refine (sumWith_any G1 o1 M1 201 G2 o2 M2 201 201 f g w6 HN1.out HN2.out (by omega) (by omega)).mono ?_
  rintro e w7 ⟨G3, rfl, hG3, hr3, hb3⟩
  have HR := Lib.hid hr3
  have HB := Lib.hid (HK.out.2.2.2.trans (hb3.mono HK.out.2.2.2.size))
  have HG3 := Lib.hid (Nat.le_trans HK.out.2.2.2.size hG3)
  clear hr3 hb3 hG3 f1
  go_wp2_with fail
  go_ret
  exact ⟨⟨G3, 0, 201, rfl, HG3.out, HR.out.num⟩, HB.out⟩
theorem add_num {w : World} {G1 o1 M1 G2 o2 M2 : Nat} {f g : Nat → Bool} (h1 : NumAt w G1 o1 201 M1 f) (h2 : NumAt w G2 o2 201 M2 g) (hne : G1 ≠ G2) :
    Calls Try.prog 182 #[.slice (some ⟨G1, o1, none⟩) (201 : Nat) (201 : Nat), .slice (some ⟨G2, o2, none⟩) (201 : Nat) (201 : Nat)] w fun e w' =>
      e = .returned (.tuple #[]) ∧ NumAt w' G1 o1 201 M1 (fun n => f n || g n) ∧ Else G1 w w' := by
  obtain ⟨F, q1, q2, q3⟩ := h1
  refine (add_any G1 o1 G2 o2 201 M1 201 201 F (fun j => if o1 ≤ j then (F j || g (j - o1)) else F j) g w q1 q2 (by decide) (fun j hj => by rw [if_neg (by omega)]) (fun i hi => by rw [if_pos (by omega), Nat.add_sub_cancel_left]) (fun k w' hk _ he => (h2.else he (Ne.symm hne)).cell hk)).mono ?_
  rintro e w' ⟨rfl, hr, he⟩
  refine ⟨rfl, ⟨_, hr, q2, fun n hn => ?_⟩, he⟩
  unfold mix
  rw [if_pos (by omega)]
  show (if o1 ≤ o1 + n then _ else _) = _
  rw [if_pos (by omega), Nat.add_sub_cancel_left, q3 n hn]
set_option maxRecDepth 100000 in
set_option maxHeartbeats 4000000 in
theorem first_pair43 (l r : Tm) (m : Int) (w : World) (hL : LibAt m w) (ihl : ∀ w, LibAt m w → Calls Try.prog (firstF l) #[tmRecv l] w (FirstEnd (tmF l) w)) (ihr : ∀ w, LibAt m w → Calls Try.prog (firstF r) #[tmRecv r] w (FirstEnd (tmF r) w)) :
    Calls Try.prog 193 #[tmRecv (.pair l 43 r)] w (FirstEnd (midF 43 (tmF l) (tmF r)) w) := by
  have keepB : ∀ W1 w1 : World, Below W1.heap.size W1 w1 → (W1.cell? ⟨w.heap.size, 0, none⟩ = some (.iface (tmTy l) (tmRecv l)) ∧ W1.cell? ⟨w.heap.size, 1, none⟩ = some (.int .u8 43) ∧ W1.cell? ⟨w.heap.size, 2, none⟩ = some (.iface (tmTy r) (tmRecv r)) ∧ Below w.heap.size w W1) → (w1.cell? ⟨w.heap.size, 0, none⟩ = some (.iface (tmTy l) (tmRecv l)) ∧ w1.cell? ⟨w.heap.size, 1, none⟩ = some (.int .u8 43) ∧ w1.cell? ⟨w.heap.size, 2, none⟩ = some (.iface (tmTy r) (tmRecv r)) ∧ Below w.heap.size w w1) :=
    fun W1 w1 hb h => ⟨(hb.cell (p := ⟨w.heap.size, 0, none⟩) (lt_of_some h.1)).trans h.1, (hb.cell (p := ⟨w.heap.size, 1, none⟩) (lt_of_some h.2.1)).trans h.2.1, (hb.cell (p := ⟨w.heap.size, 2, none⟩) (lt_of_some h.2.2.1)).trans h.2.2.1, h.2.2.2.trans (hb.mono h.2.2.2.size)⟩
  have K1 : Hid (∀ W1 : World, (W1.cell? ⟨w.heap.size, 0, none⟩ = some (.iface (tmTy l) (tmRecv l)) ∧ W1.cell? ⟨w.heap.size, 1, none⟩ = some (.int .u8 43) ∧ W1.cell? ⟨w.heap.size, 2, none⟩ = some (.iface (tmTy r) (tmRecv r)) ∧ Below w.heap.size w W1) → Calls Try.prog (firstF l) #[tmRecv l] W1 fun e w' => (∃ G o M, e = .returned (.slice (some ⟨G, o, none⟩) (201 : Nat) (201 : Nat)) ∧ W1.heap.size ≤ G ∧ NumAt w' G o 201 M (tmF l)) ∧ (w'.cell? ⟨w.heap.size, 0, none⟩ = some (.iface (tmTy l) (tmRecv l)) ∧ w'.cell? ⟨w.heap.size, 1, none⟩ = some (.int .u8 43) ∧ w'.cell? ⟨w.heap.size, 2, none⟩ = some (.iface (tmTy r) (tmRecv r)) ∧ Below w.heap.size w w') ∧ Below W1.heap.size W1 w') :=
    Lib.hid (fun W1 h => (ihl W1 (hL.below h.2.2.2)).mono fun e w' ⟨he, hb⟩ => ⟨he, keepB _ _ hb h, hb⟩)
  have K2 : Hid (∀ W1 : World, (W1.cell? ⟨w.heap.size, 0, none⟩ = some (.iface (tmTy l) (tmRecv l)) ∧ W1.cell? ⟨w.heap.size, 1, none⟩ = some (.int .u8 43) ∧ W1.cell? ⟨w.heap.size, 2, none⟩ = some (.iface (tmTy r) (tmRecv r)) ∧ Below w.heap.size w W1) → Calls Try.prog (firstF r) #[tmRecv r] W1 fun e w' => (∃ G o M, e = .returned (.slice (some ⟨G, o, none⟩) (201 : Nat) (201 : Nat)) ∧ W1.heap.size ≤ G ∧ NumAt w' G o 201 M (tmF r)) ∧ (w'.cell? ⟨w.heap.size, 0, none⟩ = some (.iface (tmTy l) (tmRecv l)) ∧ w'.cell? ⟨w.heap.size, 1, none⟩ = some (.int .u8 43) ∧ w'.cell? ⟨w.heap.size, 2, none⟩ = some (.iface (tmTy r) (tmRecv r)) ∧ Below w.heap.size w w') ∧ Below W1.heap.size W1 w') :=
    Lib.hid (fun W1 h => (ihr W1 (hL.below h.2.2.2)).mono fun e w' ⟨he, hb⟩ => ⟨he, keepB _ _ hb h, hb⟩)
  have HSD : (w.alloc (.cells #[.iface (tmTy l) (tmRecv l), .int .u8 43, .iface (tmTy r) (tmRecv r)] 151)).drew.cell? ⟨w.heap.size, 0, none⟩ = some (.iface (tmTy l) (tmRecv l)) ∧ (w.alloc (.cells #[.iface (tmTy l) (tmRecv l), .int .u8 43, .iface (tmTy r) (tmRecv r)] 151)).drew.cell? ⟨w.heap.size, 1, none⟩ = some (.int .u8 43) ∧ (w.alloc (.cells #[.iface (tmTy l) (tmRecv l), .int .u8 43, .iface (tmTy r) (tmRecv r)] 151)).drew.cell? ⟨w.heap.size, 2, none⟩ = some (.iface (tmTy r) (tmRecv r)) ∧ Below w.heap.size w (w.alloc (.cells #[.iface (tmTy l) (tmRecv l), .int .u8 43, .iface (tmTy r) (tmRecv r)] 151)).drew := ⟨by rw [World.cell?_drew, World.cell?_alloc_at _ _ _ _ rfl]; rfl, by rw [World.cell?_drew, World.cell?_alloc_at _ _ _ _ rfl]; rfl, by rw [World.cell?_drew, World.cell?_alloc_at _ _ _ _ rfl]; rfl, ((Below.refl _ _).alloc (Nat.le_refl _) _).drew⟩
  have hml := method_first l
  have hel := first_enters l
  have hmr := method_first r
  have her := first_enters r
  generalize tmF l = f at *
  generalize tmF r = g at *
  clear keepB ihl ihr hL
  show Calls Try.prog 193 #[.agg #[.iface (tmTy l) (tmRecv l), .int .u8 43, .iface (tmTy r) (tmRecv r)]] w _
  go_enter Try.func193, Try.ntmps193
  go_wp2_with fail
  go_region_held (fun w' => w'.cell? ⟨w.heap.size, 0, none⟩ = some (.iface (tmTy l) (tmRecv l)) ∧ w'.cell? ⟨w.heap.size, 1, none⟩ = some (.int .u8 43) ∧ w'.cell? ⟨w.heap.size, 2, none⟩ = some (.iface (tmTy r) (tmRecv r)) ∧ Below w.heap.size w w') (first | assumption | exact ⟨by assumption, by assumption, by assumption, by assumption⟩)
    (first
      | (go_at_fn (firstF l); (with_reducible refine (K1.out _ ?_).mono ?_); assumption; rintro e w5 ⟨⟨G1, o1, M1, rfl, hG1, hN1⟩, hk5, hb5⟩)
      | (go_at_fn (firstF r); (with_reducible refine (K2.out _ ?_).mono ?_); assumption; rintro e w6 ⟨⟨G2, o2, M2, rfl, hG2, hN2⟩, hk6, hb6⟩))
  have hne : G1 ≠ G2 := by have := hN1.lt; omega
  have HG1 : Hid (w.heap.size ≤ G1) := Lib.hid (by simp at hG1; omega)
  have HN1 := Lib.hid (hN1.step hb6)
  have HN2 := Lib.hid hN2
  have HK := Lib.hid hk6
  have f1 := hk6.2.1
  clear hN1 hN2 hk5 hk6 hb5 hb6 hG1 hG2 HSD K1 K2
  go_wp2_with fail
  refine (add_num HN1.out HN2.out hne).mono ?_
  rintro e w7 ⟨rfl, hN7, he7⟩
  have HN7 := Lib.hid hN7
  have HB := Lib.hid (he7.below HK.out.2.2.2 HG1.out HN1.out.lt)
  clear hN7 he7 f1
  go_wp2_with fail
  go_ret
  exact ⟨⟨G1, o1, M1, rfl, HG1.out, HN7.out⟩, HB.out⟩
/-- The world of the loop that takes away what the second set has not. -/
structure BothLoop (F : Nat → Bool) (g : Nat → Bool) (G1 o1 M1 G2 o2 M2 k : Nat) (w wr : World) : Prop where
  row : BRow wr G1 M1 (mix F (fun j => if o1 ≤ j then (F j && g (j - o1)) else F j) o1 k)
  more : NumAt wr G2 o2 201 M2 g
  ne : G1 ≠ G2
  le : w.heap.size ≤ G1
  below : Below w.heap.size w wr
theorem BothLoop.set {F g : Nat → Bool} {G1 o1 M1 G2 o2 M2 k : Nat} {w wr : World} (h : BothLoop F g G1 o1 M1 G2 o2 M2 k w wr) : BothLoop F g G1 o1 M1 G2 o2 M2 (k + 1) w (wr.setCell ⟨G1, o1 + k, none⟩ (.bool (F (o1 + k) && g k))) := by
  have e : (fun j => if o1 ≤ j then (F j && g (j - o1)) else F j) (o1 + k) = (F (o1 + k) && g k) := by show (if o1 ≤ o1 + k then _ else _) = _; rw [if_pos (by omega), Nat.add_sub_cancel_left]
  exact ⟨(h.row.put (o1 + k) _).congr fun j _ => mix_put _ e j, by obtain ⟨F2, q1, q2⟩ := h.more; exact ⟨F2, q1.other (by simpa using Ne.symm h.ne) _, q2⟩, h.ne, h.le, h.below.setCell h.le _⟩
theorem BothLoop.cell {F g : Nat → Bool} {G1 o1 M1 G2 o2 M2 k : Nat} {w wr : World} (h : BothLoop F g G1 o1 M1 G2 o2 M2 k w wr) (hk : o1 + k < M1) : wr.cell? ⟨G1, o1 + k, none⟩ = some (.bool (F (o1 + k))) := by
  rw [h.row.cell hk]; unfold mix; rw [if_neg (by omega)]
set_option maxRecDepth 100000 in
set_option maxHeartbeats 4000000 in
theorem first_pair38 (l r : Tm) (m : Int) (w : World) (hL : LibAt m w) (ihl : ∀ w, LibAt m w → Calls Try.prog (firstF l) #[tmRecv l] w (FirstEnd (tmF l) w)) (ihr : ∀ w, LibAt m w → Calls Try.prog (firstF r) #[tmRecv r] w (FirstEnd (tmF r) w)) :
    Calls Try.prog 193 #[tmRecv (.pair l 38 r)] w (FirstEnd (midF 38 (tmF l) (tmF r)) w) := by
  have keepB : ∀ W1 w1 : World, Below W1.heap.size W1 w1 → (W1.cell? ⟨w.heap.size, 0, none⟩ = some (.iface (tmTy l) (tmRecv l)) ∧ W1.cell? ⟨w.heap.size, 1, none⟩ = some (.int .u8 38) ∧ W1.cell? ⟨w.heap.size, 2, none⟩ = some (.iface (tmTy r) (tmRecv r)) ∧ Below w.heap.size w W1) → (w1.cell? ⟨w.heap.size, 0, none⟩ = some (.iface (tmTy l) (tmRecv l)) ∧ w1.cell? ⟨w.heap.size, 1, none⟩ = some (.int .u8 38) ∧ w1.cell? ⟨w.heap.size, 2, none⟩ = some (.iface (tmTy r) (tmRecv r)) ∧ Below w.heap.size w w1) :=
    fun W1 w1 hb h => ⟨(hb.cell (p := ⟨w.heap.size, 0, none⟩) (lt_of_some h.1)).trans h.1, (hb.cell (p := ⟨w.heap.size, 1, none⟩) (lt_of_some h.2.1)).trans h.2.1, (hb.cell (p := ⟨w.heap.size, 2, none⟩) (lt_of_some h.2.2.1)).trans h.2.2.1, h.2.2.2.trans (hb.mono h.2.2.2.size)⟩
  have K1 : Hid (∀ W1 : World, (W1.cell? ⟨w.heap.size, 0, none⟩ = some (.iface (tmTy l) (tmRecv l)) ∧ W1.cell? ⟨w.heap.size, 1, none⟩ = some (.int .u8 38) ∧ W1.cell? ⟨w.heap.size, 2, none⟩ = some (.iface (tmTy r) (tmRecv r)) ∧ Below w.heap.size w W1) → Calls Try.prog (firstF l) #[tmRecv l] W1 fun e w' => (∃ G o M, e = .returned (.slice (some ⟨G, o, none⟩) (201 : Nat) (201 : Nat)) ∧ W1.heap.size ≤ G ∧ NumAt w' G o 201 M (tmF l)) ∧ (w'.cell? ⟨w.heap.size, 0, none⟩ = some (.iface (tmTy l) (tmRecv l)) ∧ w'.cell? ⟨w.heap.size, 1, none⟩ = some (.int .u8 38) ∧ w'.cell? ⟨w.heap.size, 2, none⟩ = some (.iface (tmTy r) (tmRecv r)) ∧ Below w.heap.size w w') ∧ Below W1.heap.size W1 w') :=
    Lib.hid (fun W1 h => (ihl W1 (hL.below h.2.2.2)).mono fun e w' ⟨he, hb⟩ => ⟨he, keepB _ _ hb h, hb⟩)
  have K2 : Hid (∀ W1 : World, (W1.cell? ⟨w.heap.size, 0, none⟩ = some (.iface (tmTy l) (tmRecv l)) ∧ W1.cell? ⟨w.heap.size, 1, none⟩ = some (.int .u8 38) ∧ W1.cell? ⟨w.heap.size, 2, none⟩ = some (.iface (tmTy r) (tmRecv r)) ∧ Below w.heap.size w W1) → Calls Try.prog (firstF r) #[tmRecv r] W1 fun e w' => (∃ G o M, e = .returned (.slice (some ⟨G, o, none⟩) (201 : Nat) (201 : Nat)) ∧ W1.heap.size ≤ G ∧ NumAt w' G o 201 M (tmF r)) ∧ (w'.cell? ⟨w.heap.size, 0, none⟩ = some (.iface (tmTy l) (tmRecv l)) ∧ w'.cell? ⟨w.heap.size, 1, none⟩ = some (.int .u8 38) ∧ w'.cell? ⟨w.heap.size, 2, none⟩ = some (.iface (tmTy r) (tmRecv r)) ∧ Below w.heap.size w w') ∧ Below W1.heap.size W1 w') :=
    Lib.hid (fun W1 h => (ihr W1 (hL.below h.2.2.2)).mono fun e w' ⟨he, hb⟩ => ⟨he, keepB _ _ hb h, hb⟩)
  have HSD : (w.alloc (.cells #[.iface (tmTy l) (tmRecv l), .int .u8 38, .iface (tmTy r) (tmRecv r)] 151)).drew.cell? ⟨w.heap.size, 0, none⟩ = some (.iface (tmTy l) (tmRecv l)) ∧ (w.alloc (.cells #[.iface (tmTy l) (tmRecv l), .int .u8 38, .iface (tmTy r) (tmRecv r)] 151)).drew.cell? ⟨w.heap.size, 1, none⟩ = some (.int .u8 38) ∧ (w.alloc (.cells #[.iface (tmTy l) (tmRecv l), .int .u8 38, .iface (tmTy r) (tmRecv r)] 151)).drew.cell? ⟨w.heap.size, 2, none⟩ = some (.iface (tmTy r) (tmRecv r)) ∧ Below w.heap.size w (w.alloc (.cells #[.iface (tmTy l) (tmRecv l), .int .u8 38, .iface (tmTy r) (tmRecv r)] 151)).drew := ⟨by rw [World.cell?_drew, World.cell?_alloc_at _ _ _ _ rfl]; rfl, by rw [World.cell?_drew, World.cell?_alloc_at _ _ _ _ rfl]; rfl, by rw [World.cell?_drew, World.cell?_alloc_at _ _ _ _ rfl]; rfl, ((Below.refl _ _).alloc (Nat.le_refl _) _).drew⟩
  have hml := method_first l
  have hel := first_enters l
  have hmr := method_first r
  have her := first_enters r
  generalize tmF l = f at *
  generalize tmF r = g at *
  clear keepB ihl ihr hL
  show Calls Try.prog 193 #[.agg #[.iface (tmTy l) (tmRecv l), .int .u8 38, .iface (tmTy r) (tmRecv r)]] w _
  go_enter Try.func193, Try.ntmps193
  go_wp2_with fail
  go_region_held (fun w' => w'.cell? ⟨w.heap.size, 0, none⟩ = some (.iface (tmTy l) (tmRecv l)) ∧ w'.cell? ⟨w.heap.size, 1, none⟩ = some (.int .u8 38) ∧ w'.cell? ⟨w.heap.size, 2, none⟩ = some (.iface (tmTy r) (tmRecv r)) ∧ Below w.heap.size w w') (first | assumption | exact ⟨by assumption, by assumption, by assumption, by assumption⟩)
    (first
      | (go_at_fn (firstF l); (with_reducible refine (K1.out _ ?_).mono ?_); assumption; rintro e w5 ⟨⟨G1, o1, M1, rfl, hG1, hN1⟩, hk5, hb5⟩)
      | (go_at_fn (firstF r); (with_reducible refine (K2.out _ ?_).mono ?_); assumption; rintro e w6 ⟨⟨G2, o2, M2, rfl, hG2, hN2⟩, hk6, hb6⟩))
  have hne : G1 ≠ G2 := by have := hN1.lt; omega
  have HG1 : Hid (w.heap.size ≤ G1) := Lib.hid (by simp at hG1; omega)
  have HN1 := Lib.hid (hN1.step hb6)
  have HN2 := Lib.hid hN2
  have HK := Lib.hid hk6
  have f1 := hk6.2.1
  clear hN1 hN2 hk5 hk6 hb5 hb6 hG1 hG2 HSD K1 K2
  obtain ⟨F, q1, q2, q3⟩ := HN1.out
  have HL0 : Hid (BothLoop F g G1 o1 M1 G2 o2 M2 0 w w6) := Lib.hid ⟨q1.congr fun j _ => mix_zero (d := fun j => if o1 ≤ j then (F j && g (j - o1)) else F j) (fun j hj => if_neg (by omega)) j, HN2.out, hne, HG1.out, HK.out.2.2.2⟩
  have HQ := Lib.hid (And.intro q2 q3)
  clear q1 q2 q3
  clear f1
  go_wp2
  go_loopw [29] (fun i wr => ∃ k : Nat, k ≤ 201 ∧ i = .int .i64 k ∧ BothLoop F g G1 o1 M1 G2 o2 M2 k w wr) (fun i _ => 201 - (intOf i).toNat)
  case atStart => exact ⟨0, Nat.zero_le _, rfl, HL0.out⟩
  case round =>
    obtain ⟨k, hk, rfl, hl⟩ := hrel
    by_cases hlt : k < 201
    · have c2 := hl.more.cell hlt
      have c1 := hl.cell (by have := HQ.out.1; omega)
      have hf := hl.row.free (o1 + k)
      have HS := hl.set
      clear hl
      cases hF : F (o1 + k)
      · rw [hF] at c1 HS
        have HS2 := Lib.hid HS
        clear hF HS
        go_wp2
        go_roundw
        case rel => exact ⟨k + 1, by omega, by go_num, HS2.out⟩
        case measure => simp [intOf]; omega
      · rw [hF] at c1 HS
        cases hg : g k
        · rw [hg] at c2 HS
          have HS2 := Lib.hid HS
          clear hF hg HS
          go_wp2
          go_roundw
          case rel => exact ⟨k + 1, by omega, by go_num, HS2.out⟩
          case measure => simp [intOf]; omega
        · rw [hg] at c2 HS
          have HS2 := Lib.hid HS
          clear hF hg HS
          go_wp2
          go_roundw
          case rel => exact ⟨k + 1, by omega, by go_num, HS2.out⟩
          case measure => simp [intOf]; omega
    · obtain rfl : k = 201 := by omega
      have HL := Lib.hid hl
      clear hl
      go_wp2
      go_ret
      refine ⟨⟨G1, o1, M1, rfl, HG1.out, _, HL.out.row, HQ.out.1, fun n hn => ?_⟩, HL.out.below⟩
      unfold mix
      rw [if_pos (by omega)]
      show (if o1 ≤ o1 + n then _ else _) = _
      rw [if_pos (by omega), Nat.add_sub_cancel_left, HQ.out.2 n hn]
      rfl

/-- The walk of the method that finds the first numbers of a term, whatever the term. -/
theorem termFirst_any (m : Int) : ∀ (t : Tm) (w : World), tmOk t = true → LibAt m w → Calls Try.prog (firstF t) #[tmRecv t] w (FirstEnd (tmF t) w) := by
  intro t
  induction t with
  | sign c => intro w ho hL; exact first_sign c m w ho hL
  | star t ih => intro w ho hL; exact first_star t m w hL (fun w hL => ih w ho hL)
  | times d t ih =>
    intro w ho hL
    rw [tmOk, Bool.and_eq_true] at ho
    exact first_times d t m w ho.1 hL (fun w hL => ih w ho.2 hL)
  | pair l s r ihl ihr =>
    intro w ho hL
    rw [tmOk, Bool.and_eq_true, Bool.and_eq_true] at ho
    rcases mid_cases ho.2.1 with rfl | rfl | rfl
    · exact first_pair43 l r m w hL (fun w hL => ihl w ho.1 hL) (fun w hL => ihr w ho.2.2 hL)
    · exact first_pair46 l r m w hL (fun w hL => ihl w ho.1 hL) (fun w hL => ihr w ho.2.2 hL)
    · exact first_pair38 l r m w hL (fun w hL => ihl w ho.1 hL) (fun w hL => ihr w ho.2.2 hL)


end Go.Proofs.Ytiphooodijbhiaa

set_option linter.unusedVariables false
set_option linter.unusedSimpArgs false
namespace Go.Proofs.Ytiphooodijbhiaa
open Go.RowKit

/-- The sums by numbers less than x, and by x and numbers less than y. -/
def innerF (f g : Nat → Bool) (x y i : Nat) : Bool := accF f g x i || (decide (x ≤ i) && (decide (i < x + y) && g (i - x)))
theorem innerF_zero (f g : Nat → Bool) (x i : Nat) : innerF f g x 0 i = accF f g x i := by
  unfold innerF
  by_cases h : x ≤ i
  · rw [decide_eq_false (show ¬ i < x + 0 by omega)]; simp
  · rw [decide_eq_false h]; simp
theorem innerF_at (f g : Nat → Bool) (x y : Nat) : innerF f g x y (x + y) = accF f g x (x + y) := by
  unfold innerF; rw [decide_eq_false (show ¬ x + y < x + y by omega)]; simp
theorem innerF_put (f g : Nat → Bool) (x y j : Nat) : put (innerF f g x y) (x + y) (innerF f g x y (x + y) || g y) j = innerF f g x (y + 1) j := by
  unfold put
  by_cases e : j = x + y
  · subst e
    rw [if_pos rfl, innerF_at]
    unfold innerF
    rw [decide_eq_true (show x ≤ x + y by omega), decide_eq_true (show x + y < x + (y + 1) by omega), Nat.add_sub_cancel_left, Bool.true_and, Bool.true_and]
  · rw [if_neg e]
    unfold innerF
    by_cases h : j < x + y
    · rw [decide_eq_true h, decide_eq_true (show j < x + (y + 1) by omega)]
    · rw [decide_eq_false h, decide_eq_false (show ¬ j < x + (y + 1) by omega)]
theorem innerF_done {f g : Nat → Bool} {x y n i : Nat} (hf : f x = true) (hy : n ≤ x + y) (hi : i < n) : innerF f g x y i = accF f g (x + 1) i := by
  unfold innerF
  rw [accF_next, hf, decide_eq_true (show i < x + y by omega), Bool.true_and, Bool.true_and]
theorem accF_skip {f g : Nat → Bool} {x : Nat} (hf : f x = false) (i : Nat) : accF f g x i = accF f g (x + 1) i := by rw [accF_next, hf]; simp

/-- The world of l7Sum's loops. -/
structure SumSt (f g c : Nat → Bool) (G g1 g2 n : Nat) (w wr : World) : Prop where
  row : BRow wr G n c
  first : BRow wr g1 n f
  second : BRow wr g2 n g
  n1 : g1 ≠ G
  n2 : g2 ≠ G
  le : w.heap.size ≤ G
  below : Below w.heap.size w wr
theorem SumSt.congr {f g c d : Nat → Bool} {G g1 g2 n : Nat} {w wr : World} (h : SumSt f g c G g1 g2 n w wr) (hc : ∀ i, i < n → c i = d i) : SumSt f g d G g1 g2 n w wr := ⟨h.row.congr hc, h.first, h.second, h.n1, h.n2, h.le, h.below⟩
theorem SumSt.put {f g c : Nat → Bool} {G g1 g2 n : Nat} {w wr : World} (h : SumSt f g c G g1 g2 n w wr) (k : Nat) (b : Bool) : SumSt f g (put c k b) G g1 g2 n w (wr.setCell ⟨G, k, none⟩ (.bool b)) :=
  ⟨h.row.put k b, h.first.other (by simpa using h.n1) _, h.second.other (by simpa using h.n2) _, h.n1, h.n2, h.le, h.below.setCell h.le _⟩
/-- What is answered where numbers are marked. -/
def MarksEnd (f : Nat → Bool) (n : Nat) (w : World) (e : Ending) (w' : World) : Prop :=
  (∃ G, e = .returned (.slice (some ⟨G, 0, none⟩) n n) ∧ w.heap.size ≤ G ∧ BRow w' G n f) ∧ Below w.heap.size w w'

set_option maxRecDepth 100000 in
set_option maxHeartbeats 4000000 in
theorem l7Sum_any (g1 g2 N : Nat) (f g : Nat → Bool) (w : World) (h1 : BRow w g1 N f) (h2 : BRow w g2 N g) (hN : N ≤ 1000) :
    Calls Try.prog 115 #[.slice (some ⟨g1, 0, none⟩) N N, .slice (some ⟨g2, 0, none⟩) N N] w (MarksEnd (sumG false f g) N w) := by
  obtain ⟨i0, hi, hz0, hz1, hz2⟩ := info_parts Try.infoBool
  have hl1 := h1.lt
  have hl2 := h2.lt
  have HX0 : Hid (SumSt f g (accF f g 0) w.heap.size g1 g2 N w (w.alloc (.cells (madeCells #[.bool false] N) 4))) :=
    Lib.hid ⟨(bRow_new w N).congr fun j _ => rfl, h1.step ((Below.refl _ _).alloc (Nat.le_refl _) _), h2.step ((Below.refl _ _).alloc (Nat.le_refl _) _), by omega, by omega, Nat.le_refl _, (Below.refl _ _).alloc (Nat.le_refl _) _⟩
  clear h1 h2
  go_enter Try.func115, Try.ntmps115
  go_wp2_with (at_make; refine wpList_make_row _ rfl _ _ 73 rfl 4 i0 (.bool false) Try.underlying73 hi hz0 hz1 rfl .i64 .i64 N rfl rfl ?b1 ?b2 ?_)
  case b1 => rw [hz2]; omega
  case b2 => omega
  generalize w.alloc (.cells (madeCells #[.bool false] N) 4) = w1 at HX0
  go_wp2
  go_loopw [6] (fun i wr => ∃ x : Nat, x ≤ N ∧ i = .int .i64 x ∧ SumSt f g (accF f g x) w.heap.size g1 g2 N w wr) (fun i _ => N - (intOf i).toNat)
  case atStart => exact ⟨0, Nat.zero_le _, rfl, HX0.out⟩
  case round =>
    obtain ⟨x, hx, rfl, hl⟩ := hrel
    by_cases hlt : x < N
    · have c1 := hl.first.cell hlt
      obtain ⟨bf, hbf⟩ : ∃ b, f x = b := ⟨_, rfl⟩
      rw [hbf] at c1
      have HF := Lib.hid hbf
      have HL := Lib.hid (hl.congr fun i _ => (innerF_zero f g x i).symm)
      clear hl hbf
      cases bf
      · have HS : Hid (∀ wr, SumSt f g (innerF f g x 0) w.heap.size g1 g2 N w wr → SumSt f g (accF f g (x + 1)) w.heap.size g1 g2 N w wr) := Lib.hid (fun wr h => h.congr fun i _ => by rw [innerF_zero]; exact accF_skip HF.out i)
        go_wp2
        go_loopw [7] (fun i wr => i = .int .i64 0 ∧ SumSt f g (innerF f g x 0) w.heap.size g1 g2 N w wr) (fun i _ => 0)
        case atStart => exact ⟨rfl, HL.out⟩
        case round =>
          obtain ⟨rfl, hl⟩ := hrel
          have c1 := hl.first.cell hlt
          rw [HF.out] at c1
          have HL2 := Lib.hid (HS.out _ hl)
          clear hl
          go_wp2
          go_roundw
          case rel => exact ⟨x + 1, by omega, by go_num, HL2.out⟩
          case measure => simp [intOf]; omega
      · go_wp2
        go_loopw [7] (fun i wr => ∃ y : Nat, x + y ≤ N ∧ i = .int .i64 y ∧ SumSt f g (innerF f g x y) w.heap.size g1 g2 N w wr) (fun i _ => N - (intOf i).toNat)
        case atStart => exact ⟨0, by omega, rfl, HL.out⟩
        case round =>
          obtain ⟨y, hy, rfl, hl⟩ := hrel
          have c1 := hl.first.cell hlt
          rw [HF.out] at c1
          by_cases hy2 : x + y < N
          · have c2 := hl.second.cell (i := y) (by omega)
            have c3 := hl.row.cell hy2
            have hfz := hl.row.free (x + y)
            have hp := (hl.put (x + y) (innerF f g x y (x + y) || g y)).congr fun j _ => innerF_put f g x y j
            have hyi : (x : Int) + (y : Int) < (N : Int) := by omega
            clear hl
            cases h1 : innerF f g x y (x + y)
            · rw [h1] at c3 hp
              cases h2 : g y
              · rw [h2] at c2 hp
                have HP := Lib.hid hp
                clear hp h1 h2
                go_wp2
                go_roundw
                case rel => exact ⟨y + 1, by omega, by go_num, HP.out⟩
                case measure => simp [intOf]; omega
              · rw [h2] at c2 hp
                have HP := Lib.hid hp
                clear hp h1 h2
                go_wp2
                go_roundw
                case rel => exact ⟨y + 1, by omega, by go_num, HP.out⟩
                case measure => simp [intOf]; omega
            · rw [h1] at c3 hp
              have HP := Lib.hid hp
              clear hp h1
              go_wp2
              go_roundw
              case rel => exact ⟨y + 1, by omega, by go_num, HP.out⟩
              case measure => simp [intOf]; omega
          · have HL2 := Lib.hid (hl.congr fun i hi => innerF_done (g := g) HF.out (by omega) hi)
            have hyi : ¬ (x : Int) + (y : Int) < (N : Int) := by omega
            clear hl
            go_wp2
            go_roundw
            case rel => exact ⟨x + 1, by omega, by go_num, HL2.out⟩
            case measure => simp [intOf]; omega
    · obtain rfl : x = N := by omega
      have HL := Lib.hid hl
      clear hl
      go_wp2
      go_ret
      exact ⟨⟨_, rfl, HL.out.le, HL.out.row.congr fun i hi => accF_done _ _ _ _ hi⟩, HL.out.below⟩

/-- The world of l7Marks: the tree's box, and the row that is made. -/
structure MBox (sg sl : Value) (n : Nat) (c : Nat → Bool) (w wr : World) : Prop where
  b0 : wr.cell? ⟨w.heap.size, 0, none⟩ = some sg
  b1 : wr.cell? ⟨w.heap.size, 1, none⟩ = some sl
  row : BRow wr (w.heap.size + 1) n c
  below : Below w.heap.size w wr
theorem MBox.step {sg sl : Value} {n : Nat} {c : Nat → Bool} {w wr w' : World} (h : MBox sg sl n c w wr) (hb : Below wr.heap.size wr w') : MBox sg sl n c w w' :=
  ⟨(hb.cell (p := ⟨w.heap.size, 0, none⟩) (lt_of_some h.b0)).trans h.b0, (hb.cell (p := ⟨w.heap.size, 1, none⟩) (lt_of_some h.b1)).trans h.b1, h.row.step hb, h.below.trans (hb.mono h.below.size)⟩
theorem MBox.congr {sg sl : Value} {n : Nat} {c d : Nat → Bool} {w wr : World} (h : MBox sg sl n c w wr) (hc : ∀ i, i < n → c i = d i) : MBox sg sl n d w wr := ⟨h.b0, h.b1, h.row.congr hc, h.below⟩
theorem MBox.put {sg sl : Value} {n : Nat} {c : Nat → Bool} {w wr : World} (h : MBox sg sl n c w wr) (k : Nat) (b : Bool) : MBox sg sl n (put c k b) w (wr.setCell ⟨w.heap.size + 1, k, none⟩ (.bool b)) :=
  ⟨(World.cell?_setCell_other _ _ _ _ (by simp)).trans h.b0, (World.cell?_setCell_other _ _ _ _ (by simp)).trans h.b1, h.row.put k b, h.below.setCell (by show w.heap.size ≤ w.heap.size + 1; omega) _⟩
theorem mBox_start (sg sl : Value) (n : Nat) (w : World) : MBox sg sl n (fun _ => false) w ((w.alloc (.cells #[sg, sl] 100)).alloc (.cells (madeCells #[.bool false] n) 4)) := by
  have hr := bRow_new (w.alloc (.cells #[sg, sl] 100)) n
  rw [World.size_alloc] at hr
  refine ⟨?_, ?_, hr, ((Below.refl _ _).alloc (Nat.le_refl _) _).alloc (by simp) _⟩
  · rw [World.cell?_alloc_past _ _ _ (by simp), World.cell?_alloc_at _ _ _ _ rfl]; rfl
  · rw [World.cell?_alloc_past _ _ _ (by simp), World.cell?_alloc_at _ _ _ _ rfl]; rfl

theorem oneF_put (c : UInt8) (k j : Nat) (h : (c = 49 ∧ k = 0) ∨ (c = 97 ∧ k = 1)) : put (fun _ => false) k true j = oneF c j := by
  unfold put
  rcases h with ⟨rfl, rfl⟩ | ⟨rfl, rfl⟩
  · show (if j = 0 then true else false) = decide (j = 0); by_cases e : j = 0 <;> simp [e]
  · show (if j = 1 then true else false) = decide (j = 1); by_cases e : j = 1 <;> simp [e]

set_option maxRecDepth 100000 in
set_option maxHeartbeats 1000000 in
theorem marks_sign48 (a : Option Addr) (k N : Nat) (w : World) (hN : N ≤ 1000) : Calls Try.prog 87 #[.agg #[.int .u8 48, .slice a 0 k], .int .i64 N] w (MarksEnd (oneF 48) N w) := by
  obtain ⟨i0, hi, hz0, hz1, hz2⟩ := info_parts Try.infoBool
  have HX := Lib.hid (mBox_start (.int .u8 48) (.slice a 0 k) N w)
  go_enter Try.func87, Try.ntmps87
  go_wp2_with (at_make; refine wpList_make_row _ rfl _ _ 73 rfl 4 i0 (.bool false) Try.underlying73 hi hz0 hz1 rfl .i64 .i64 N rfl rfl ?b1 ?b2 ?_)
  case b1 => rw [hz2]; omega
  case b2 => omega
  generalize (w.alloc (.cells #[.int .u8 48, .slice a 0 k] 100)).alloc (.cells (madeCells #[.bool false] N) 4) = w1 at HX
  have b0 := HX.out.b0
  go_wp2_with fail
  go_ret
  exact ⟨⟨_, rfl, by omega, HX.out.row.congr fun i _ => rfl⟩, HX.out.below⟩
set_option maxRecDepth 100000 in
set_option maxHeartbeats 1000000 in
theorem marks_sign49 (a : Option Addr) (k N : Nat) (w : World) (hN : N ≤ 1000) : Calls Try.prog 87 #[.agg #[.int .u8 49, .slice a 0 k], .int .i64 N] w (MarksEnd (oneF 49) N w) := by
  obtain ⟨i0, hi, hz0, hz1, hz2⟩ := info_parts Try.infoBool
  have HX := Lib.hid (mBox_start (.int .u8 49) (.slice a 0 k) N w)
  go_enter Try.func87, Try.ntmps87
  go_wp2_with (at_make; refine wpList_make_row _ rfl _ _ 73 rfl 4 i0 (.bool false) Try.underlying73 hi hz0 hz1 rfl .i64 .i64 N rfl rfl ?b1 ?b2 ?_)
  case b1 => rw [hz2]; omega
  case b2 => omega
  generalize (w.alloc (.cells #[.int .u8 49, .slice a 0 k] 100)).alloc (.cells (madeCells #[.bool false] N) 4) = w1 at HX
  have b0 := HX.out.b0
  go_wp2_with fail
  refine (bit_any _ _).mono ?_
  rintro e w2 ⟨rfl, rfl⟩
  by_cases h : 0 < N
  · have hfz := HX.out.row.free 0
    have hcz := HX.out.row.cell h
    have HP := Lib.hid ((HX.out.put 0 true).congr fun j _ => oneF_put 49 0 j (by decide))
    have hi2 : (0 : Int) < (N : Int) := by omega
    go_wp2_with fail
    go_ret
    exact ⟨⟨_, rfl, by omega, HP.out.row⟩, HP.out.below⟩
  · have hi2 : ¬ (0 : Int) < (N : Int) := by omega
    go_wp2_with fail
    go_ret
    exact ⟨⟨_, rfl, by omega, HX.out.row.congr fun i hi => by have : i ≠ 0 := (by omega); show false = decide (i = 0); rw [decide_eq_false this]⟩, HX.out.below⟩
set_option maxRecDepth 100000 in
set_option maxHeartbeats 1000000 in
theorem marks_sign97 (a : Option Addr) (k N : Nat) (w : World) (hN : N ≤ 1000) : Calls Try.prog 87 #[.agg #[.int .u8 97, .slice a 0 k], .int .i64 N] w (MarksEnd (oneF 97) N w) := by
  obtain ⟨i0, hi, hz0, hz1, hz2⟩ := info_parts Try.infoBool
  have HX := Lib.hid (mBox_start (.int .u8 97) (.slice a 0 k) N w)
  go_enter Try.func87, Try.ntmps87
  go_wp2_with (at_make; refine wpList_make_row _ rfl _ _ 73 rfl 4 i0 (.bool false) Try.underlying73 hi hz0 hz1 rfl .i64 .i64 N rfl rfl ?b1 ?b2 ?_)
  case b1 => rw [hz2]; omega
  case b2 => omega
  generalize (w.alloc (.cells #[.int .u8 97, .slice a 0 k] 100)).alloc (.cells (madeCells #[.bool false] N) 4) = w1 at HX
  have b0 := HX.out.b0
  go_wp2_with fail
  refine (bit_any _ _).mono ?_
  rintro e w2 ⟨rfl, rfl⟩
  by_cases h : 1 < N
  · have hfz := HX.out.row.free 1
    have hcz := HX.out.row.cell h
    have HP := Lib.hid ((HX.out.put 1 true).congr fun j _ => oneF_put 97 1 j (by decide))
    have hi2 : (1 : Int) < (N : Int) := by omega
    go_wp2_with fail
    go_ret
    exact ⟨⟨_, rfl, by omega, HP.out.row⟩, HP.out.below⟩
  · have hi2 : ¬ (1 : Int) < (N : Int) := by omega
    go_wp2_with fail
    go_ret
    exact ⟨⟨_, rfl, by omega, HX.out.row.congr fun i hi => by have : i ≠ 1 := (by omega); show false = decide (i = 1); rw [decide_eq_false this]⟩, HX.out.below⟩

/-- The numbers of a star that are found with parts up to k. -/
noncomputable def sF (f : Nat → Bool) (x : Nat) : Nat → Bool
  | 0 => decide (x = 0)
  | k + 1 => sF f x k || (f (k + 1) && starB f (x - (k + 1)))
theorem sF_iff {f : Nat → Bool} {x k : Nat} : sF f x k = true ↔ x = 0 ∨ ∃ j, 1 ≤ j ∧ j ≤ k ∧ f j = true ∧ starB f (x - j) = true := by
  induction k with
  | zero =>
    show decide (x = 0) = true ↔ _
    rw [decide_eq_true_iff]
    constructor
    · exact .inl
    · rintro (h | ⟨j, h1, h2, _⟩)
      · exact h
      · omega
  | succ k ih =>
    show (sF f x k || (f (k + 1) && starB f (x - (k + 1)))) = true ↔ _
    rw [Bool.or_eq_true, Bool.and_eq_true, ih]
    constructor
    · rintro ((h | ⟨j, h1, h2, h3⟩) | ⟨h1, h2⟩)
      · exact .inl h
      · exact .inr ⟨j, h1, by omega, h3⟩
      · exact .inr ⟨k + 1, by omega, Nat.le_refl _, h1, h2⟩
    · rintro (h | ⟨j, h1, h2, h3, h4⟩)
      · exact .inl (.inl h)
      · by_cases e : j = k + 1
        · subst e; exact .inr ⟨h3, h4⟩
        · exact .inl (.inr ⟨j, h1, by omega, h3, h4⟩)
theorem sF_done (f : Nat → Bool) (x : Nat) : sF f x x = starB f x := by
  apply bool_iff
  rw [sF_iff]
  constructor
  · rintro (rfl | ⟨j, h1, h2, h3, h4⟩)
    · exact starB_zero f
    · have := star_add (star_one h3) (starB_iff.1 h4)
      rw [show j + (x - j) = x from by omega] at this
      exact starB_iff.2 this
  · intro h
    rcases Nat.eq_zero_or_pos x with e | e
    · exact .inl e
    · obtain ⟨y, h1, h2, h3, h4⟩ := star_split (starB_iff.1 h) e
      exact .inr ⟨y, h2, h3, h1, starB_iff.2 h4⟩
/-- The row where the numbers less than x are found, and b at x. -/
noncomputable def upTo (f : Nat → Bool) (x : Nat) (i : Nat) : Bool := if i < x then starB f i else false
theorem upTo_next (f : Nat → Bool) (x j : Nat) : put (upTo f x) x (starB f x) j = upTo f (x + 1) j := by
  unfold put upTo
  by_cases e : j = x
  · subst e; rw [if_pos rfl, if_pos (by omega)]
  · rw [if_neg e]
    by_cases h : j < x
    · rw [if_pos h, if_pos (by omega)]
    · rw [if_neg h, if_neg (by omega)]
theorem put_put (c : Nat → Bool) (x : Nat) (a b : Bool) (j : Nat) : put (put c x a) x b j = put c x b j := by
  unfold put
  by_cases e : j = x
  · rw [if_pos e, if_pos e]
  · rw [if_neg e, if_neg e, if_neg e]
theorem put_same (c : Nat → Bool) (x : Nat) (a : Bool) : put c x a x = a := by unfold put; rw [if_pos rfl]
theorem put_less (f : Nat → Bool) {x y : Nat} (a : Bool) (h : y < x) : put (upTo f x) x a y = starB f y := by
  unfold put upTo; rw [if_neg (by omega), if_pos h]

set_option maxRecDepth 100000 in
set_option maxHeartbeats 4000000 in
theorem marks_star (f : Nat → Bool) (g m : Nat) (c : UInt8) (a : Option Addr) (n k N : Nat) (w : World) (hp : PartT w g 0 c a n k) (hN : N ≤ 1000)
    (ih : ∀ W, Below w.heap.size w W → Calls Try.prog 87 #[.agg #[.int .u8 c.toNat, .slice a n k], .int .i64 N] W (MarksEnd f N W)) :
    Calls Try.prog 87 #[.agg #[.int .u8 42, .slice (some ⟨g, 0, none⟩) 1 m], .int .i64 N] w (MarksEnd (starB f) N w) := by
  obtain ⟨i0, hi, hz0, hz1, hz2⟩ := info_parts Try.infoBool
  have HX := Lib.hid (mBox_start (.int .u8 42) (.slice (some ⟨g, 0, none⟩) 1 m) N w)
  have HI := Lib.hid ih
  have hp1 := hp.step HX.out.below
  have c0 := hp1.p
  have c1 := hp1.q
  rw [Nat.zero_add] at c1
  clear ih hp hp1
  go_enter Try.func87, Try.ntmps87
  go_wp2_with (at_make; refine wpList_make_row _ rfl _ _ 73 rfl 4 i0 (.bool false) Try.underlying73 hi hz0 hz1 rfl .i64 .i64 N rfl rfl ?b1 ?b2 ?_)
  case b1 => rw [hz2]; omega
  case b2 => omega
  refine (HI.out _ HX.out.below).mono ?_
  rintro e w2 ⟨⟨G, rfl, hG, hr⟩, hb⟩
  have HX2 := Lib.hid ((HX.out.step hb).congr (d := upTo f 0) fun i _ => rfl)
  have HR := Lib.hid hr
  have HG : Hid (G ≠ w.heap.size + 1) := Lib.hid (by have := HX.out.row.lt; omega)
  have b0 := HX2.out.b0
  have b1 := HX2.out.b1
  clear hG hr hb c0 c1
  go_wp2
  go_loopw [8] (fun i wr => ∃ x : Nat, x ≤ N ∧ i = .int .i64 x ∧ MBox (.int .u8 42) (.slice (some ⟨g, 0, none⟩) 1 m) N (upTo f x) w wr ∧ BRow wr G N f) (fun i _ => N - (intOf i).toNat)
  case atStart => exact ⟨0, Nat.zero_le _, rfl, HX2.out, HR.out⟩
  case round =>
    obtain ⟨x, hx, rfl, hl, hrr⟩ := hrel
    by_cases hlt : x < N
    · have hfz := hl.row.free x
      have hcz := hl.row.cell hlt
      obtain ⟨b, hb⟩ : ∃ b, b = decide (x = 0) := ⟨_, rfl⟩
      have hbx : ((x : Int) == 0) = b := by rw [hb]; by_cases e : x = 0 <;> simp [e]
      have HS : Hid (sF f x 0 = b) := Lib.hid (by rw [hb]; rfl)
      have HL := Lib.hid (hl.put x b)
      have HRR := Lib.hid (hrr.other (a := ⟨w.heap.size + 1, x, none⟩) HG.out (.bool b))
      clear hl hrr hb
      go_wp2
      go_loopw [9] (fun i wr => ∃ k : Nat, k ≤ x ∧ i = .int .i64 ((k + 1 : Nat) : Int) ∧ MBox (.int .u8 42) (.slice (some ⟨g, 0, none⟩) 1 m) N (put (upTo f x) x (sF f x k)) w wr ∧ BRow wr G N f) (fun i _ => x + 1 - (intOf i).toNat)
      case atStart => exact ⟨0, Nat.zero_le _, rfl, by rw [HS.out]; exact HL.out, HRR.out⟩
      case round =>
        obtain ⟨k, hk, rfl, hm, hq⟩ := hrel
        by_cases hkx : k < x
        · have hkc : ((k + 1 : Nat) : Int) ≤ (x : Int) := by omega
          have hfy := hm.row.free x
          have d1 := hm.row.cell hlt
          rw [put_same] at d1
          have d2 := hq.cell (i := k + 1) (by omega)
          obtain ⟨y, hy⟩ : ∃ y, y = x - (k + 1) := ⟨_, rfl⟩
          have d3 := hm.row.cell (i := y) (by omega)
          rw [put_less f _ (by omega)] at d3
          have hyi : (x : Int) - ((k + 1 : Nat) : Int) = (y : Int) := by omega
          have hyN : y < N := by omega
          have HPut := Lib.hid (fun b => (hm.put x b).congr fun j _ => put_put _ _ _ _ j)
          have HQ := Lib.hid (fun b : Bool => hq.other (a := ⟨w.heap.size + 1, x, none⟩) HG.out (.bool b))
          have HSn : Hid (sF f x (k + 1) = (sF f x k || (f (k + 1) && starB f y))) := Lib.hid (by rw [hy]; rfl)
          obtain ⟨q, hqd⟩ : ∃ q : Nat, q = k + 1 := ⟨_, rfl⟩
          rw [← hqd] at hkc d2 HSn hyi ⊢
          have HQd := Lib.hid hqd
          clear hm hq hy hqd
          cases h1 : sF f x k
          · rw [h1] at d1 HSn
            cases h2 : f q
            · rw [h2] at d2 HSn
              have HZ := Lib.hid (And.intro (HPut.out false) (HQ.out false))
              clear h1 h2
              go_wp2
              go_roundw
              case rel => exact ⟨k + 1, by omega, by rw [← HQd.out]; go_num, by rw [← HQd.out, HSn.out]; exact HZ.out.1, HZ.out.2⟩
              case measure => rw [HQd.out]; simp [intOf]; omega
            · rw [h2] at d2 HSn
              cases h3 : starB f y
              · rw [h3] at d3 HSn
                have HZ := Lib.hid (And.intro (HPut.out false) (HQ.out false))
                clear h1 h2 h3
                go_wp2
                go_roundw
                case rel => exact ⟨k + 1, by omega, by rw [← HQd.out]; go_num, by rw [← HQd.out, HSn.out]; exact HZ.out.1, HZ.out.2⟩
                case measure => rw [HQd.out]; simp [intOf]; omega
              · rw [h3] at d3 HSn
                have HZ := Lib.hid (And.intro (HPut.out true) (HQ.out true))
                clear h1 h2 h3
                go_wp2
                go_roundw
                case rel => exact ⟨k + 1, by omega, by rw [← HQd.out]; go_num, by rw [← HQd.out, HSn.out]; exact HZ.out.1, HZ.out.2⟩
                case measure => rw [HQd.out]; simp [intOf]; omega
          · rw [h1] at d1 HSn
            have HZ := Lib.hid (And.intro (HPut.out true) (HQ.out true))
            clear h1
            go_wp2
            go_roundw
            case rel => exact ⟨k + 1, by omega, by rw [← HQd.out]; go_num, by rw [← HQd.out, HSn.out]; exact HZ.out.1, HZ.out.2⟩
            case measure => rw [HQd.out]; simp [intOf]; omega
        · obtain rfl : k = x := by omega
          have HM := Lib.hid (hm.congr (d := upTo f (k + 1)) fun j _ => by rw [sF_done]; exact upTo_next f k j)
          have HQ := Lib.hid hq
          have hkc : ¬ ((k + 1 : Nat) : Int) ≤ (k : Int) := by omega
          clear hm hq
          obtain ⟨q, hqd⟩ : ∃ q : Nat, q = k + 1 := ⟨_, rfl⟩
          rw [← hqd] at hkc ⊢
          clear hqd
          go_wp2
          go_roundw
          case rel => exact ⟨k + 1, by omega, by go_num, HM.out, HQ.out⟩
          case measure => simp [intOf]; omega
    · obtain rfl : x = N := by omega
      have HL := Lib.hid hl
      clear hl hrr
      go_wp2
      go_ret
      exact ⟨⟨_, rfl, by omega, HL.out.row.congr fun i hi => by unfold upTo; rw [if_pos hi]⟩, HL.out.below⟩

set_option maxRecDepth 100000 in
set_option maxHeartbeats 4000000 in
theorem marks_times50 (f : Nat → Bool) (g m : Nat) (c : UInt8) (a : Option Addr) (n k N : Nat) (w : World) (hp : PartT w g 0 c a n k) (hN : N ≤ 1000)
    (ih : ∀ W, Below w.heap.size w W → Calls Try.prog 87 #[.agg #[.int .u8 c.toNat, .slice a n k], .int .i64 N] W (MarksEnd f N W)) :
    Calls Try.prog 87 #[.agg #[.int .u8 50, .slice (some ⟨g, 0, none⟩) 1 m], .int .i64 N] w (MarksEnd (sumK f 1) N w) := by
  obtain ⟨i0, hi, hz0, hz1, hz2⟩ := info_parts Try.infoBool
  have HX := Lib.hid (mBox_start (.int .u8 50) (.slice (some ⟨g, 0, none⟩) 1 m) N w)
  have HI := Lib.hid ih
  have hp1 := hp.step HX.out.below
  have c0 := hp1.p
  have c1 := hp1.q
  rw [Nat.zero_add] at c1
  clear ih hp hp1
  go_enter Try.func87, Try.ntmps87
  go_wp2_with (at_make; refine wpList_make_row _ rfl _ _ 73 rfl 4 i0 (.bool false) Try.underlying73 hi hz0 hz1 rfl .i64 .i64 N rfl rfl ?b1 ?b2 ?_)
  case b1 => rw [hz2]; omega
  case b2 => omega
  refine (HI.out _ HX.out.below).mono ?_
  rintro e w2 ⟨⟨G, rfl, hG, hr⟩, hb⟩
  have HX2 := Lib.hid (HX.out.step hb)
  have HR := Lib.hid hr
  have HG : Hid (w.heap.size ≤ G) := Lib.hid (by have := HX.out.below.size; omega)
  have b0 := HX2.out.b0
  have b1 := HX2.out.b1
  clear hG hr hb c0 c1
  go_wp2
  go_loopw [5, 10] (fun v i wr => ∃ j : Nat, j ≤ 1 ∧ i = .int .u8 ((49 + j : Nat) : Int) ∧ MBox (.int .u8 50) (.slice (some ⟨g, 0, none⟩) 1 m) N (fun _ => false) w wr ∧ BRow wr G N f ∧ ∃ G2, v = .slice (some ⟨G2, 0, none⟩) N N ∧ w.heap.size ≤ G2 ∧ BRow wr G2 N (sumK f j)) (fun _ i _ => 60 - (intOf i).toNat)
  case atStart => exact ⟨0, by omega, rfl, HX2.out, HR.out, G, rfl, HG.out, HR.out⟩
  case round =>
    obtain ⟨j, hj, rfl, hl, hq, G2, rfl, hG2, hr2⟩ := hrel
    have b0 := hl.b0
    have HL := Lib.hid hl
    have HQ := Lib.hid hq
    have HR2 := Lib.hid hr2
    have HG2 := Lib.hid hG2
    clear hl hq hr2 hG2
    by_cases hlt : j < 1
    · have hjc : ((49 + j : Nat) : Int) < 50 := by omega
      obtain ⟨q, hqd⟩ : ∃ q : Nat, q = 49 + j := ⟨_, rfl⟩
      rw [← hqd] at hjc ⊢
      have hq60 : q ≤ 60 := by omega
      have HQd := Lib.hid hqd
      clear hqd
      go_wp2_with fail
      refine (l7Sum_any G2 G N (sumK f j) f wr HR2.out HQ.out hN).mono ?_
      rintro e w3 ⟨⟨G3, rfl, hG3, hr3⟩, hb3⟩
      have HL3 := Lib.hid (HL.out.step hb3)
      have HQ3 := Lib.hid (HQ.out.step hb3)
      have HR3 := Lib.hid hr3
      have HG3 : Hid (w.heap.size ≤ G3) := Lib.hid (by have := HL.out.below.size; omega)
      clear hG3 hr3 hb3 b0
      go_wp2
      go_roundw
      case rel => exact ⟨j + 1, by omega, by have := HQd.out; rw [show 49 + (j + 1) = q + 1 by omega]; go_num, HL3.out, HQ3.out, G3, rfl, HG3.out, HR3.out⟩
      case measure => simp [intOf]; omega
    · obtain rfl : j = 1 := by omega
      go_wp2
      go_ret
      exact ⟨⟨G2, rfl, HG2.out, HR2.out⟩, HL.out.below⟩
set_option maxRecDepth 100000 in
set_option maxHeartbeats 4000000 in
theorem marks_times51 (f : Nat → Bool) (g m : Nat) (c : UInt8) (a : Option Addr) (n k N : Nat) (w : World) (hp : PartT w g 0 c a n k) (hN : N ≤ 1000)
    (ih : ∀ W, Below w.heap.size w W → Calls Try.prog 87 #[.agg #[.int .u8 c.toNat, .slice a n k], .int .i64 N] W (MarksEnd f N W)) :
    Calls Try.prog 87 #[.agg #[.int .u8 51, .slice (some ⟨g, 0, none⟩) 1 m], .int .i64 N] w (MarksEnd (sumK f 2) N w) := by
  obtain ⟨i0, hi, hz0, hz1, hz2⟩ := info_parts Try.infoBool
  have HX := Lib.hid (mBox_start (.int .u8 51) (.slice (some ⟨g, 0, none⟩) 1 m) N w)
  have HI := Lib.hid ih
  have hp1 := hp.step HX.out.below
  have c0 := hp1.p
  have c1 := hp1.q
  rw [Nat.zero_add] at c1
  clear ih hp hp1
  go_enter Try.func87, Try.ntmps87
  go_wp2_with (at_make; refine wpList_make_row _ rfl _ _ 73 rfl 4 i0 (.bool false) Try.underlying73 hi hz0 hz1 rfl .i64 .i64 N rfl rfl ?b1 ?b2 ?_)
  case b1 => rw [hz2]; omega
  case b2 => omega
  refine (HI.out _ HX.out.below).mono ?_
  rintro e w2 ⟨⟨G, rfl, hG, hr⟩, hb⟩
  have HX2 := Lib.hid (HX.out.step hb)
  have HR := Lib.hid hr
  have HG : Hid (w.heap.size ≤ G) := Lib.hid (by have := HX.out.below.size; omega)
  have b0 := HX2.out.b0
  have b1 := HX2.out.b1
  clear hG hr hb c0 c1
  go_wp2
  go_loopw [5, 10] (fun v i wr => ∃ j : Nat, j ≤ 2 ∧ i = .int .u8 ((49 + j : Nat) : Int) ∧ MBox (.int .u8 51) (.slice (some ⟨g, 0, none⟩) 1 m) N (fun _ => false) w wr ∧ BRow wr G N f ∧ ∃ G2, v = .slice (some ⟨G2, 0, none⟩) N N ∧ w.heap.size ≤ G2 ∧ BRow wr G2 N (sumK f j)) (fun _ i _ => 60 - (intOf i).toNat)
  case atStart => exact ⟨0, by omega, rfl, HX2.out, HR.out, G, rfl, HG.out, HR.out⟩
  case round =>
    obtain ⟨j, hj, rfl, hl, hq, G2, rfl, hG2, hr2⟩ := hrel
    have b0 := hl.b0
    have HL := Lib.hid hl
    have HQ := Lib.hid hq
    have HR2 := Lib.hid hr2
    have HG2 := Lib.hid hG2
    clear hl hq hr2 hG2
    by_cases hlt : j < 2
    · have hjc : ((49 + j : Nat) : Int) < 51 := by omega
      obtain ⟨q, hqd⟩ : ∃ q : Nat, q = 49 + j := ⟨_, rfl⟩
      rw [← hqd] at hjc ⊢
      have hq60 : q ≤ 60 := by omega
      have HQd := Lib.hid hqd
      clear hqd
      go_wp2_with fail
      refine (l7Sum_any G2 G N (sumK f j) f wr HR2.out HQ.out hN).mono ?_
      rintro e w3 ⟨⟨G3, rfl, hG3, hr3⟩, hb3⟩
      have HL3 := Lib.hid (HL.out.step hb3)
      have HQ3 := Lib.hid (HQ.out.step hb3)
      have HR3 := Lib.hid hr3
      have HG3 : Hid (w.heap.size ≤ G3) := Lib.hid (by have := HL.out.below.size; omega)
      clear hG3 hr3 hb3 b0
      go_wp2
      go_roundw
      case rel => exact ⟨j + 1, by omega, by have := HQd.out; rw [show 49 + (j + 1) = q + 1 by omega]; go_num, HL3.out, HQ3.out, G3, rfl, HG3.out, HR3.out⟩
      case measure => simp [intOf]; omega
    · obtain rfl : j = 2 := by omega
      go_wp2
      go_ret
      exact ⟨⟨G2, rfl, HG2.out, HR2.out⟩, HL.out.below⟩
set_option maxRecDepth 100000 in
set_option maxHeartbeats 4000000 in
theorem marks_times52 (f : Nat → Bool) (g m : Nat) (c : UInt8) (a : Option Addr) (n k N : Nat) (w : World) (hp : PartT w g 0 c a n k) (hN : N ≤ 1000)
    (ih : ∀ W, Below w.heap.size w W → Calls Try.prog 87 #[.agg #[.int .u8 c.toNat, .slice a n k], .int .i64 N] W (MarksEnd f N W)) :
    Calls Try.prog 87 #[.agg #[.int .u8 52, .slice (some ⟨g, 0, none⟩) 1 m], .int .i64 N] w (MarksEnd (sumK f 3) N w) := by
  obtain ⟨i0, hi, hz0, hz1, hz2⟩ := info_parts Try.infoBool
  have HX := Lib.hid (mBox_start (.int .u8 52) (.slice (some ⟨g, 0, none⟩) 1 m) N w)
  have HI := Lib.hid ih
  have hp1 := hp.step HX.out.below
  have c0 := hp1.p
  have c1 := hp1.q
  rw [Nat.zero_add] at c1
  clear ih hp hp1
  go_enter Try.func87, Try.ntmps87
  go_wp2_with (at_make; refine wpList_make_row _ rfl _ _ 73 rfl 4 i0 (.bool false) Try.underlying73 hi hz0 hz1 rfl .i64 .i64 N rfl rfl ?b1 ?b2 ?_)
  case b1 => rw [hz2]; omega
  case b2 => omega
  refine (HI.out _ HX.out.below).mono ?_
  rintro e w2 ⟨⟨G, rfl, hG, hr⟩, hb⟩
  have HX2 := Lib.hid (HX.out.step hb)
  have HR := Lib.hid hr
  have HG : Hid (w.heap.size ≤ G) := Lib.hid (by have := HX.out.below.size; omega)
  have b0 := HX2.out.b0
  have b1 := HX2.out.b1
  clear hG hr hb c0 c1
  go_wp2
  go_loopw [5, 10] (fun v i wr => ∃ j : Nat, j ≤ 3 ∧ i = .int .u8 ((49 + j : Nat) : Int) ∧ MBox (.int .u8 52) (.slice (some ⟨g, 0, none⟩) 1 m) N (fun _ => false) w wr ∧ BRow wr G N f ∧ ∃ G2, v = .slice (some ⟨G2, 0, none⟩) N N ∧ w.heap.size ≤ G2 ∧ BRow wr G2 N (sumK f j)) (fun _ i _ => 60 - (intOf i).toNat)
  case atStart => exact ⟨0, by omega, rfl, HX2.out, HR.out, G, rfl, HG.out, HR.out⟩
  case round =>
    obtain ⟨j, hj, rfl, hl, hq, G2, rfl, hG2, hr2⟩ := hrel
    have b0 := hl.b0
    have HL := Lib.hid hl
    have HQ := Lib.hid hq
    have HR2 := Lib.hid hr2
    have HG2 := Lib.hid hG2
    clear hl hq hr2 hG2
    by_cases hlt : j < 3
    · have hjc : ((49 + j : Nat) : Int) < 52 := by omega
      obtain ⟨q, hqd⟩ : ∃ q : Nat, q = 49 + j := ⟨_, rfl⟩
      rw [← hqd] at hjc ⊢
      have hq60 : q ≤ 60 := by omega
      have HQd := Lib.hid hqd
      clear hqd
      go_wp2_with fail
      refine (l7Sum_any G2 G N (sumK f j) f wr HR2.out HQ.out hN).mono ?_
      rintro e w3 ⟨⟨G3, rfl, hG3, hr3⟩, hb3⟩
      have HL3 := Lib.hid (HL.out.step hb3)
      have HQ3 := Lib.hid (HQ.out.step hb3)
      have HR3 := Lib.hid hr3
      have HG3 : Hid (w.heap.size ≤ G3) := Lib.hid (by have := HL.out.below.size; omega)
      clear hG3 hr3 hb3 b0
      go_wp2
      go_roundw
      case rel => exact ⟨j + 1, by omega, by have := HQd.out; rw [show 49 + (j + 1) = q + 1 by omega]; go_num, HL3.out, HQ3.out, G3, rfl, HG3.out, HR3.out⟩
      case measure => simp [intOf]; omega
    · obtain rfl : j = 3 := by omega
      go_wp2
      go_ret
      exact ⟨⟨G2, rfl, HG2.out, HR2.out⟩, HL.out.below⟩
set_option maxRecDepth 100000 in
set_option maxHeartbeats 4000000 in
theorem marks_times53 (f : Nat → Bool) (g m : Nat) (c : UInt8) (a : Option Addr) (n k N : Nat) (w : World) (hp : PartT w g 0 c a n k) (hN : N ≤ 1000)
    (ih : ∀ W, Below w.heap.size w W → Calls Try.prog 87 #[.agg #[.int .u8 c.toNat, .slice a n k], .int .i64 N] W (MarksEnd f N W)) :
    Calls Try.prog 87 #[.agg #[.int .u8 53, .slice (some ⟨g, 0, none⟩) 1 m], .int .i64 N] w (MarksEnd (sumK f 4) N w) := by
  obtain ⟨i0, hi, hz0, hz1, hz2⟩ := info_parts Try.infoBool
  have HX := Lib.hid (mBox_start (.int .u8 53) (.slice (some ⟨g, 0, none⟩) 1 m) N w)
  have HI := Lib.hid ih
  have hp1 := hp.step HX.out.below
  have c0 := hp1.p
  have c1 := hp1.q
  rw [Nat.zero_add] at c1
  clear ih hp hp1
  go_enter Try.func87, Try.ntmps87
  go_wp2_with (at_make; refine wpList_make_row _ rfl _ _ 73 rfl 4 i0 (.bool false) Try.underlying73 hi hz0 hz1 rfl .i64 .i64 N rfl rfl ?b1 ?b2 ?_)
  case b1 => rw [hz2]; omega
  case b2 => omega
  refine (HI.out _ HX.out.below).mono ?_
  rintro e w2 ⟨⟨G, rfl, hG, hr⟩, hb⟩
  have HX2 := Lib.hid (HX.out.step hb)
  have HR := Lib.hid hr
  have HG : Hid (w.heap.size ≤ G) := Lib.hid (by have := HX.out.below.size; omega)
  have b0 := HX2.out.b0
  have b1 := HX2.out.b1
  clear hG hr hb c0 c1
  go_wp2
  go_loopw [5, 10] (fun v i wr => ∃ j : Nat, j ≤ 4 ∧ i = .int .u8 ((49 + j : Nat) : Int) ∧ MBox (.int .u8 53) (.slice (some ⟨g, 0, none⟩) 1 m) N (fun _ => false) w wr ∧ BRow wr G N f ∧ ∃ G2, v = .slice (some ⟨G2, 0, none⟩) N N ∧ w.heap.size ≤ G2 ∧ BRow wr G2 N (sumK f j)) (fun _ i _ => 60 - (intOf i).toNat)
  case atStart => exact ⟨0, by omega, rfl, HX2.out, HR.out, G, rfl, HG.out, HR.out⟩
  case round =>
    obtain ⟨j, hj, rfl, hl, hq, G2, rfl, hG2, hr2⟩ := hrel
    have b0 := hl.b0
    have HL := Lib.hid hl
    have HQ := Lib.hid hq
    have HR2 := Lib.hid hr2
    have HG2 := Lib.hid hG2
    clear hl hq hr2 hG2
    by_cases hlt : j < 4
    · have hjc : ((49 + j : Nat) : Int) < 53 := by omega
      obtain ⟨q, hqd⟩ : ∃ q : Nat, q = 49 + j := ⟨_, rfl⟩
      rw [← hqd] at hjc ⊢
      have hq60 : q ≤ 60 := by omega
      have HQd := Lib.hid hqd
      clear hqd
      go_wp2_with fail
      refine (l7Sum_any G2 G N (sumK f j) f wr HR2.out HQ.out hN).mono ?_
      rintro e w3 ⟨⟨G3, rfl, hG3, hr3⟩, hb3⟩
      have HL3 := Lib.hid (HL.out.step hb3)
      have HQ3 := Lib.hid (HQ.out.step hb3)
      have HR3 := Lib.hid hr3
      have HG3 : Hid (w.heap.size ≤ G3) := Lib.hid (by have := HL.out.below.size; omega)
      clear hG3 hr3 hb3 b0
      go_wp2
      go_roundw
      case rel => exact ⟨j + 1, by omega, by have := HQd.out; rw [show 49 + (j + 1) = q + 1 by omega]; go_num, HL3.out, HQ3.out, G3, rfl, HG3.out, HR3.out⟩
      case measure => simp [intOf]; omega
    · obtain rfl : j = 4 := by omega
      go_wp2
      go_ret
      exact ⟨⟨G2, rfl, HG2.out, HR2.out⟩, HL.out.below⟩

/-- The row where the numbers less than x are as told. -/
def upC (h : Nat → Bool) (x i : Nat) : Bool := if i < x then h i else false
theorem upC_next (h : Nat → Bool) (x j : Nat) : put (upC h x) x (h x) j = upC h (x + 1) j := by
  unfold put upC
  by_cases e : j = x
  · subst e; rw [if_pos rfl, if_pos (by omega)]
  · rw [if_neg e]
    by_cases h : j < x
    · rw [if_pos h, if_pos (by omega)]
    · rw [if_neg h, if_neg (by omega)]
set_option maxRecDepth 100000 in
set_option maxHeartbeats 4000000 in
theorem marks_pair46 (f h : Nat → Bool) (g m : Nat) (c : UInt8) (a : Option Addr) (n k : Nat) (c2 : UInt8) (a2 : Option Addr) (n2 k2 : Nat) (N : Nat) (w : World) (hp : PartT w g 0 c a n k) (hq : PartT w g 2 c2 a2 n2 k2) (hN : N ≤ 1000)
    (ih : ∀ W, Below w.heap.size w W → Calls Try.prog 87 #[.agg #[.int .u8 c.toNat, .slice a n k], .int .i64 N] W (MarksEnd f N W))
    (ih2 : ∀ W, Below w.heap.size w W → Calls Try.prog 87 #[.agg #[.int .u8 c2.toNat, .slice a2 n2 k2], .int .i64 N] W (MarksEnd h N W)) :
    Calls Try.prog 87 #[.agg #[.int .u8 46, .slice (some ⟨g, 0, none⟩) 2 m], .int .i64 N] w (MarksEnd (midF 46 f h) N w) := by
  obtain ⟨i0, hi, hz0, hz1, hz2⟩ := info_parts Try.infoBool
  have HX := Lib.hid (mBox_start (.int .u8 46) (.slice (some ⟨g, 0, none⟩) 2 m) N w)
  have HI := Lib.hid ih
  have HI2 := Lib.hid ih2
  have HQ := Lib.hid hq
  have hp1 := hp.step HX.out.below
  have c0 := hp1.p
  have c1 := hp1.q
  rw [Nat.zero_add] at c1
  clear ih ih2 hp hp1 hq
  go_enter Try.func87, Try.ntmps87
  go_wp2_with (at_make; refine wpList_make_row _ rfl _ _ 73 rfl 4 i0 (.bool false) Try.underlying73 hi hz0 hz1 rfl .i64 .i64 N rfl rfl ?b1 ?b2 ?_)
  case b1 => rw [hz2]; omega
  case b2 => omega
  refine (HI.out _ HX.out.below).mono ?_
  rintro e w2 ⟨⟨G, rfl, hG, hr⟩, hb⟩
  have HX2 := Lib.hid (HX.out.step hb)
  have HR := Lib.hid hr
  have HG : Hid (w.heap.size ≤ G ∧ G ≠ w.heap.size + 1) := Lib.hid (by have := HX.out.row.lt; have := HX.out.below.size; omega)
  have b0 := HX2.out.b0
  have b1 := HX2.out.b1
  have hq1 := HQ.out.step HX2.out.below
  have e0 := hq1.p
  have e1 : w2.cell? ⟨g, 3, none⟩ = some (.slice a2 n2 k2) := hq1.q
  clear hG hr hb c0 c1 hq1
  go_wp2_with fail
  refine (HI2.out _ HX2.out.below).mono ?_
  rintro e w3 ⟨⟨G2, rfl, hG2, hr2⟩, hb2⟩
  have HX3 := Lib.hid (HX2.out.step hb2)
  have HR1 := Lib.hid (HR.out.step hb2)
  have HR2 := Lib.hid hr2
  have HG2 : Hid (w.heap.size ≤ G2 ∧ G2 ≠ w.heap.size + 1) := Lib.hid (by have := HX2.out.row.lt; have := HX2.out.below.size; omega)
  have b0 := HX3.out.b0
  have b1 := HX3.out.b1
  clear hG2 hr2 hb2 e0 e1
  go_wp2_with fail
  refine (l7Sum_any G G2 N f h w3 HR1.out HR2.out hN).mono ?_
  rintro e w4 ⟨⟨G3, rfl, hG3, hr3⟩, hb3⟩
  have HB := Lib.hid (HX3.out.below.trans (hb3.mono HX3.out.below.size))
  have HR3 := Lib.hid hr3
  have HG3 := Lib.hid (Nat.le_trans HX3.out.below.size hG3)
  clear hG3 hr3 hb3 b0 b1
  go_wp2_with fail
  go_ret
  exact ⟨⟨G3, rfl, HG3.out, HR3.out⟩, HB.out⟩
set_option maxRecDepth 100000 in
set_option maxHeartbeats 4000000 in
theorem marks_pair43 (f h : Nat → Bool) (g m : Nat) (c : UInt8) (a : Option Addr) (n k : Nat) (c2 : UInt8) (a2 : Option Addr) (n2 k2 : Nat) (N : Nat) (w : World) (hp : PartT w g 0 c a n k) (hq : PartT w g 2 c2 a2 n2 k2) (hN : N ≤ 1000)
    (ih : ∀ W, Below w.heap.size w W → Calls Try.prog 87 #[.agg #[.int .u8 c.toNat, .slice a n k], .int .i64 N] W (MarksEnd f N W))
    (ih2 : ∀ W, Below w.heap.size w W → Calls Try.prog 87 #[.agg #[.int .u8 c2.toNat, .slice a2 n2 k2], .int .i64 N] W (MarksEnd h N W)) :
    Calls Try.prog 87 #[.agg #[.int .u8 43, .slice (some ⟨g, 0, none⟩) 2 m], .int .i64 N] w (MarksEnd (midF 43 f h) N w) := by
  obtain ⟨i0, hi, hz0, hz1, hz2⟩ := info_parts Try.infoBool
  have HX := Lib.hid (mBox_start (.int .u8 43) (.slice (some ⟨g, 0, none⟩) 2 m) N w)
  have HI := Lib.hid ih
  have HI2 := Lib.hid ih2
  have HQ := Lib.hid hq
  have hp1 := hp.step HX.out.below
  have c0 := hp1.p
  have c1 := hp1.q
  rw [Nat.zero_add] at c1
  clear ih ih2 hp hp1 hq
  go_enter Try.func87, Try.ntmps87
  go_wp2_with (at_make; refine wpList_make_row _ rfl _ _ 73 rfl 4 i0 (.bool false) Try.underlying73 hi hz0 hz1 rfl .i64 .i64 N rfl rfl ?b1 ?b2 ?_)
  case b1 => rw [hz2]; omega
  case b2 => omega
  refine (HI.out _ HX.out.below).mono ?_
  rintro e w2 ⟨⟨G, rfl, hG, hr⟩, hb⟩
  have HX2 := Lib.hid (HX.out.step hb)
  have HR := Lib.hid hr
  have HG : Hid (w.heap.size ≤ G ∧ G ≠ w.heap.size + 1) := Lib.hid (by have := HX.out.row.lt; have := HX.out.below.size; omega)
  have b0 := HX2.out.b0
  have b1 := HX2.out.b1
  have hq1 := HQ.out.step HX2.out.below
  have e0 := hq1.p
  have e1 : w2.cell? ⟨g, 3, none⟩ = some (.slice a2 n2 k2) := hq1.q
  clear hG hr hb c0 c1 hq1
  go_wp2_with fail
  refine (HI2.out _ HX2.out.below).mono ?_
  rintro e w3 ⟨⟨G2, rfl, hG2, hr2⟩, hb2⟩
  have HX3 := Lib.hid (HX2.out.step hb2)
  have HR1 := Lib.hid (HR.out.step hb2)
  have HR2 := Lib.hid hr2
  have HG2 : Hid (w.heap.size ≤ G2 ∧ G2 ≠ w.heap.size + 1) := Lib.hid (by have := HX2.out.row.lt; have := HX2.out.below.size; omega)
  have b0 := HX3.out.b0
  have b1 := HX3.out.b1
  clear hG2 hr2 hb2 e0 e1
  have HX4 := Lib.hid (HX3.out.congr (d := upC (fun i => f i || h i) 0) fun i _ => rfl)
  clear b0 b1
  have b0 := HX4.out.b0
  go_wp2
  go_loopw [12] (fun i wr => ∃ x : Nat, x ≤ N ∧ i = .int .i64 x ∧ MBox (.int .u8 43) (.slice (some ⟨g, 0, none⟩) 2 m) N (upC (fun i => f i || h i) x) w wr ∧ BRow wr G N f ∧ BRow wr G2 N h) (fun i _ => N - (intOf i).toNat)
  case atStart => exact ⟨0, Nat.zero_le _, rfl, HX4.out, HR1.out, HR2.out⟩
  case round =>
    obtain ⟨x, hx, rfl, hl, hrr, hr3⟩ := hrel
    by_cases hlt : x < N
    · have hfz := hl.row.free x
      have hcz := hl.row.cell hlt
      have d1 := hrr.cell hlt
      have d2 := hr3.cell hlt
      have d3 := hl.b0
      have hpt := (hl.put x (f x || h x)).congr fun j _ => upC_next (fun i => f i || h i) x j
      cases h1 : f x
      · rw [h1] at d1 hpt
        cases h2 : h x
        · rw [h2] at d2 hpt
          have HP := Lib.hid (And.intro hpt (And.intro (hrr.other (a := ⟨w.heap.size + 1, x, none⟩) HG.out.2 (.bool false)) (hr3.other (a := ⟨w.heap.size + 1, x, none⟩) HG2.out.2 (.bool false))))
          clear hl hrr hr3 hpt h1 h2
          go_wp2
          go_roundw
          case rel => exact ⟨x + 1, by omega, by go_num, HP.out.1, HP.out.2.1, HP.out.2.2⟩
          case measure => simp [intOf]; omega
        · rw [h2] at d2 hpt
          have HP := Lib.hid (And.intro hpt (And.intro (hrr.other (a := ⟨w.heap.size + 1, x, none⟩) HG.out.2 (.bool true)) (hr3.other (a := ⟨w.heap.size + 1, x, none⟩) HG2.out.2 (.bool true))))
          clear hl hrr hr3 hpt h1 h2
          go_wp2
          go_roundw
          case rel => exact ⟨x + 1, by omega, by go_num, HP.out.1, HP.out.2.1, HP.out.2.2⟩
          case measure => simp [intOf]; omega
      · rw [h1] at d1 hpt
        cases h2 : h x
        · rw [h2] at d2 hpt
          have HP := Lib.hid (And.intro hpt (And.intro (hrr.other (a := ⟨w.heap.size + 1, x, none⟩) HG.out.2 (.bool true)) (hr3.other (a := ⟨w.heap.size + 1, x, none⟩) HG2.out.2 (.bool true))))
          clear hl hrr hr3 hpt h1 h2
          go_wp2
          go_roundw
          case rel => exact ⟨x + 1, by omega, by go_num, HP.out.1, HP.out.2.1, HP.out.2.2⟩
          case measure => simp [intOf]; omega
        · rw [h2] at d2 hpt
          have HP := Lib.hid (And.intro hpt (And.intro (hrr.other (a := ⟨w.heap.size + 1, x, none⟩) HG.out.2 (.bool true)) (hr3.other (a := ⟨w.heap.size + 1, x, none⟩) HG2.out.2 (.bool true))))
          clear hl hrr hr3 hpt h1 h2
          go_wp2
          go_roundw
          case rel => exact ⟨x + 1, by omega, by go_num, HP.out.1, HP.out.2.1, HP.out.2.2⟩
          case measure => simp [intOf]; omega
    · obtain rfl : x = N := by omega
      have HL := Lib.hid hl
      clear hl hrr hr3
      go_wp2
      go_ret
      exact ⟨⟨_, rfl, by omega, HL.out.row.congr fun i hi => by unfold upC; rw [if_pos hi]; rfl⟩, HL.out.below⟩
set_option maxRecDepth 100000 in
set_option maxHeartbeats 4000000 in
theorem marks_pair38 (f h : Nat → Bool) (g m : Nat) (c : UInt8) (a : Option Addr) (n k : Nat) (c2 : UInt8) (a2 : Option Addr) (n2 k2 : Nat) (N : Nat) (w : World) (hp : PartT w g 0 c a n k) (hq : PartT w g 2 c2 a2 n2 k2) (hN : N ≤ 1000)
    (ih : ∀ W, Below w.heap.size w W → Calls Try.prog 87 #[.agg #[.int .u8 c.toNat, .slice a n k], .int .i64 N] W (MarksEnd f N W))
    (ih2 : ∀ W, Below w.heap.size w W → Calls Try.prog 87 #[.agg #[.int .u8 c2.toNat, .slice a2 n2 k2], .int .i64 N] W (MarksEnd h N W)) :
    Calls Try.prog 87 #[.agg #[.int .u8 38, .slice (some ⟨g, 0, none⟩) 2 m], .int .i64 N] w (MarksEnd (midF 38 f h) N w) := by
  obtain ⟨i0, hi, hz0, hz1, hz2⟩ := info_parts Try.infoBool
  have HX := Lib.hid (mBox_start (.int .u8 38) (.slice (some ⟨g, 0, none⟩) 2 m) N w)
  have HI := Lib.hid ih
  have HI2 := Lib.hid ih2
  have HQ := Lib.hid hq
  have hp1 := hp.step HX.out.below
  have c0 := hp1.p
  have c1 := hp1.q
  rw [Nat.zero_add] at c1
  clear ih ih2 hp hp1 hq
  go_enter Try.func87, Try.ntmps87
  go_wp2_with (at_make; refine wpList_make_row _ rfl _ _ 73 rfl 4 i0 (.bool false) Try.underlying73 hi hz0 hz1 rfl .i64 .i64 N rfl rfl ?b1 ?b2 ?_)
  case b1 => rw [hz2]; omega
  case b2 => omega
  refine (HI.out _ HX.out.below).mono ?_
  rintro e w2 ⟨⟨G, rfl, hG, hr⟩, hb⟩
  have HX2 := Lib.hid (HX.out.step hb)
  have HR := Lib.hid hr
  have HG : Hid (w.heap.size ≤ G ∧ G ≠ w.heap.size + 1) := Lib.hid (by have := HX.out.row.lt; have := HX.out.below.size; omega)
  have b0 := HX2.out.b0
  have b1 := HX2.out.b1
  have hq1 := HQ.out.step HX2.out.below
  have e0 := hq1.p
  have e1 : w2.cell? ⟨g, 3, none⟩ = some (.slice a2 n2 k2) := hq1.q
  clear hG hr hb c0 c1 hq1
  go_wp2_with fail
  refine (HI2.out _ HX2.out.below).mono ?_
  rintro e w3 ⟨⟨G2, rfl, hG2, hr2⟩, hb2⟩
  have HX3 := Lib.hid (HX2.out.step hb2)
  have HR1 := Lib.hid (HR.out.step hb2)
  have HR2 := Lib.hid hr2
  have HG2 : Hid (w.heap.size ≤ G2 ∧ G2 ≠ w.heap.size + 1) := Lib.hid (by have := HX2.out.row.lt; have := HX2.out.below.size; omega)
  have b0 := HX3.out.b0
  have b1 := HX3.out.b1
  clear hG2 hr2 hb2 e0 e1
  have HX4 := Lib.hid (HX3.out.congr (d := upC (fun i => f i && h i) 0) fun i _ => rfl)
  clear b0 b1
  have b0 := HX4.out.b0
  go_wp2
  go_loopw [12] (fun i wr => ∃ x : Nat, x ≤ N ∧ i = .int .i64 x ∧ MBox (.int .u8 38) (.slice (some ⟨g, 0, none⟩) 2 m) N (upC (fun i => f i && h i) x) w wr ∧ BRow wr G N f ∧ BRow wr G2 N h) (fun i _ => N - (intOf i).toNat)
  case atStart => exact ⟨0, Nat.zero_le _, rfl, HX4.out, HR1.out, HR2.out⟩
  case round =>
    obtain ⟨x, hx, rfl, hl, hrr, hr3⟩ := hrel
    by_cases hlt : x < N
    · have hfz := hl.row.free x
      have hcz := hl.row.cell hlt
      have d1 := hrr.cell hlt
      have d2 := hr3.cell hlt
      have d3 := hl.b0
      have hpt := (hl.put x (f x && h x)).congr fun j _ => upC_next (fun i => f i && h i) x j
      cases h1 : f x
      · rw [h1] at d1 hpt
        cases h2 : h x
        · rw [h2] at d2 hpt
          have HP := Lib.hid (And.intro hpt (And.intro (hrr.other (a := ⟨w.heap.size + 1, x, none⟩) HG.out.2 (.bool false)) (hr3.other (a := ⟨w.heap.size + 1, x, none⟩) HG2.out.2 (.bool false))))
          clear hl hrr hr3 hpt h1 h2
          go_wp2
          go_roundw
          case rel => exact ⟨x + 1, by omega, by go_num, HP.out.1, HP.out.2.1, HP.out.2.2⟩
          case measure => simp [intOf]; omega
        · rw [h2] at d2 hpt
          have HP := Lib.hid (And.intro hpt (And.intro (hrr.other (a := ⟨w.heap.size + 1, x, none⟩) HG.out.2 (.bool false)) (hr3.other (a := ⟨w.heap.size + 1, x, none⟩) HG2.out.2 (.bool false))))
          clear hl hrr hr3 hpt h1 h2
          go_wp2
          go_roundw
          case rel => exact ⟨x + 1, by omega, by go_num, HP.out.1, HP.out.2.1, HP.out.2.2⟩
          case measure => simp [intOf]; omega
      · rw [h1] at d1 hpt
        cases h2 : h x
        · rw [h2] at d2 hpt
          have HP := Lib.hid (And.intro hpt (And.intro (hrr.other (a := ⟨w.heap.size + 1, x, none⟩) HG.out.2 (.bool false)) (hr3.other (a := ⟨w.heap.size + 1, x, none⟩) HG2.out.2 (.bool false))))
          clear hl hrr hr3 hpt h1 h2
          go_wp2
          go_roundw
          case rel => exact ⟨x + 1, by omega, by go_num, HP.out.1, HP.out.2.1, HP.out.2.2⟩
          case measure => simp [intOf]; omega
        · rw [h2] at d2 hpt
          have HP := Lib.hid (And.intro hpt (And.intro (hrr.other (a := ⟨w.heap.size + 1, x, none⟩) HG.out.2 (.bool true)) (hr3.other (a := ⟨w.heap.size + 1, x, none⟩) HG2.out.2 (.bool true))))
          clear hl hrr hr3 hpt h1 h2
          go_wp2
          go_roundw
          case rel => exact ⟨x + 1, by omega, by go_num, HP.out.1, HP.out.2.1, HP.out.2.2⟩
          case measure => simp [intOf]; omega
    · obtain rfl : x = N := by omega
      have HL := Lib.hid hl
      clear hl hrr hr3
      go_wp2
      go_ret
      exact ⟨⟨_, rfl, by omega, HL.out.row.congr fun i hi => by unfold upC; rw [if_pos hi]; rfl⟩, HL.out.below⟩

/-- The walk of spec.l7Marks, whatever the term. -/
theorem marks_any : ∀ (t : Tm) (B : Nat) (v : Value) (N : Nat) (w : World), tmOk t = true → IsT B w t v → N ≤ 1000 → Calls Try.prog 87 #[v, .int .i64 N] w (MarksEnd (tmF t) N w) := by
  intro t
  induction t with
  | sign c =>
    rintro B v N w ho ⟨a, k, rfl⟩ hN
    rcases one_cases ho with rfl | rfl | rfl
    · exact marks_sign48 a k N w hN
    · exact marks_sign49 a k N w hN
    · exact marks_sign97 a k N w hN
  | star t ih =>
    rintro B v N w ho ⟨g, m, x, rfl, _, hx, hT⟩ hN
    obtain ⟨c, a, n, k, rfl, hp⟩ := part_of hx hT
    exact marks_star (tmF t) g m c a n k N w hp hN (fun W hb => ih B _ N W ho (hT.step hb) hN)
  | times d t ih =>
    rintro B v N w ho ⟨g, m, x, rfl, _, hx, hT⟩ hN
    rw [tmOk, Bool.and_eq_true] at ho
    obtain ⟨c, a, n, k, rfl, hp⟩ := part_of hx hT
    have ih' := fun W (hb : Below w.heap.size w W) => ih B _ N W ho.2 (hT.step hb) hN
    rcases dig_cases ho.1 with rfl | rfl | rfl | rfl
    · exact marks_times50 (tmF t) g m c a n k N w hp hN ih'
    · exact marks_times51 (tmF t) g m c a n k N w hp hN ih'
    · exact marks_times52 (tmF t) g m c a n k N w hp hN ih'
    · exact marks_times53 (tmF t) g m c a n k N w hp hN ih'
  | pair l s r ihl ihr =>
    rintro B v N w ho ⟨g, m, x, y, rfl, _, hx, hT, hy, hU⟩ hN
    rw [tmOk, Bool.and_eq_true, Bool.and_eq_true] at ho
    obtain ⟨c, a, n, k, rfl, hp⟩ := part_of hx hT
    obtain ⟨c2, a2, n2, k2, rfl, hq⟩ := part_of hy hU
    have ih1 := fun W (hb : Below w.heap.size w W) => ihl B _ N W ho.1 (hT.step hb) hN
    have ih2 := fun W (hb : Below w.heap.size w W) => ihr B _ N W ho.2.2 (hU.step hb) hN
    rcases mid_cases ho.2.1 with rfl | rfl | rfl
    · exact marks_pair43 (tmF l) (tmF r) g m c a n k c2 a2 n2 k2 N w hp hq hN ih1 ih2
    · exact marks_pair46 (tmF l) (tmF r) g m c a n k c2 a2 n2 k2 N w hp hq hN ih1 ih2
    · exact marks_pair38 (tmF l) (tmF r) g m c a n k c2 a2 n2 k2 N w hp hq hN ih1 ih2

end Go.Proofs.Ytiphooodijbhiaa

set_option linter.unusedVariables false
set_option linter.unusedSimpArgs false
namespace Go.Proofs.Ytiphooodijbhiaa
open Go.RowKit

/-- What TermHas answers. -/
noncomputable def hasTV (s : ByteArray) (n : Int) : Bool := match termOf s.data.toList with | some t => inR n 0 200 && tmF t n.toNat | none => false
theorem hasTV_none {s : ByteArray} {n : Int} (h : termOf s.data.toList = none) : hasTV s n = false := by unfold hasTV; rw [h]
theorem hasTV_out {s : ByteArray} {n : Int} {t : Tm} (h : termOf s.data.toList = some t) (hn : inR n 0 200 = false) : hasTV s n = false := by unfold hasTV; rw [h]; show (inR n 0 200 && _) = false; rw [hn]; rfl
theorem hasTV_in {s : ByteArray} {n : Nat} {t : Tm} (h : termOf s.data.toList = some t) (hn : n ≤ 200) : hasTV s n = tmF t n := by
  unfold hasTV; rw [h]
  show (inR (n : Int) 0 200 && tmF t ((n : Int).toNat)) = _
  rcases inR_cases n 0 200 with ⟨e, _⟩ | ⟨_, e⟩
  · rw [e, Int.toNat_natCast]; rfl
  · omega

set_option maxRecDepth 100000 in
set_option maxHeartbeats 2000000 in
theorem implTermHas (s : ByteArray) (n m : Int) (w : World) (hL : LibAt m w) : Calls Try.prog 39 #[.string s, .int .i64 n] w fun e w' => e = .returned (.bool (hasTV s n)) ∧ Below w.heap.size w w' := by
  have HL := Lib.hid hL
  have HI := Lib.hid (fun w => readTerm_any s w)
  clear hL
  cases h : termOf s.data.toList with
  | none =>
    rw [hasTV_none h]
    rw [h] at HI
    clear h
    go_enter Try.func39, Try.ntmps39
    go_wp2_with fail
    refine (HI.out _).mono ?_
    rintro e w1 ⟨he, k, rfl⟩
    rw [show e = _ from he]
    clear he
    go_wp2_with fail
    go_ret
    exact ⟨rfl, below_drewN (Below.refl _ _) k⟩
  | some t =>
    rw [h] at HI
    have HH := Lib.hid h
    obtain ⟨_, ho, _⟩ := termOf_some h
    have HT := Lib.hid (fun w hL => termFirst_any m t w ho hL)
    have hm := method_first t
    have he := first_enters t
    clear h ho
    rcases inR_cases n 0 200 with ⟨hin, hlo, hhi⟩ | ⟨hout, _⟩
    · obtain ⟨k, rfl⟩ := Int.eq_ofNat_of_zero_le hlo
      rw [hasTV_in HH.out (by omega)]
      have hk : k < 201 := by omega
      have HIN := Lib.hid (fun w => between_in k 0 200 w hin)
      clear hin
      go_enter Try.func39, Try.ntmps39
      go_wp2_with fail
      refine (HI.out _).mono ?_
      rintro e w1 ⟨hr, j, rfl⟩
      rw [show e = _ from hr]
      clear hr
      have HB := Lib.hid (below_drewN (Below.refl w.heap.size w) j)
      simp only [tmV]
      go_wp2_with (first
        | (go_at_call 65; (with_reducible refine (HIN.out _).mono ?_); rintro e w3 ⟨rfl, rfl⟩)
        | (go_at_fn (firstF t); refine (HT.out _ (HL.out.below HB.out)).mono ?_; rintro e w2 ⟨⟨G, o, M, rfl, hG, hN⟩, hb⟩; have c1 := hN.cell hk; have HB2 := Lib.hid (HB.out.trans (hb.mono HB.out.size)); clear hb hN hG))
      go_ret
      exact ⟨by cases tmF t k <;> rfl, HB2.out⟩
    · rw [hasTV_out HH.out hout]
      have HOUT := Lib.hid (fun w => between_out n 0 200 w hout)
      clear hout
      go_enter Try.func39, Try.ntmps39
      go_wp2_with fail
      refine (HI.out _).mono ?_
      rintro e w1 ⟨hr, j, rfl⟩
      rw [show e = _ from hr]
      clear hr
      have HB := Lib.hid (below_drewN (Below.refl w.heap.size w) j)
      simp only [tmV]
      go_wp2_with (first
        | (go_at_call 65; (with_reducible refine (HOUT.out _).mono ?_); rintro e w3 ⟨rfl, rfl⟩))
      go_ret
      exact ⟨rfl, HB.out⟩

set_option maxRecDepth 100000 in
set_option maxHeartbeats 2000000 in
theorem specTermHas (s : ByteArray) (n : Int) (w : World) : Calls Try.prog 40 #[.string s, .int .i64 n] w fun e w' => e = .returned (.bool (hasTV s n)) ∧ Below w.heap.size w w' := by
  have HI := Lib.hid (fun w => l7Of_any s w)
  cases h : termOf s.data.toList with
  | none =>
    rw [hasTV_none h]
    rw [h] at HI
    clear h
    go_enter Try.func40, Try.ntmps40
    go_wp2_with fail
    refine (HI.out _).mono ?_
    rintro e w1 ⟨he, hb⟩
    obtain ⟨c, a, q, k, rfl, _⟩ := he.form
    have HB := Lib.hid (hb.alloc hb.size (.cells #[.int .u8 c.toNat, .slice a q k] 100))
    clear he hb
    go_wp2_with fail
    go_ret
    exact ⟨rfl, HB.out⟩
  | some t =>
    rw [h] at HI
    have HH := Lib.hid h
    obtain ⟨_, ho, _⟩ := termOf_some h
    have HT := Lib.hid (fun B v N w hI hN => marks_any t B v N w ho hI hN)
    clear h ho
    rcases inR_cases n 0 200 with ⟨_, hlo, hhi⟩ | ⟨hout, hoo⟩
    · obtain ⟨k, rfl⟩ := Int.eq_ofNat_of_zero_le hlo
      rw [hasTV_in HH.out (by omega)]
      have hk : k < k + 1 := by omega
      have hkw : (k : Int) ≤ 200 := hhi
      go_enter Try.func40, Try.ntmps40
      go_wp2_with fail
      refine (HI.out _).mono ?_
      rintro e w1 ⟨he, hb⟩
      obtain ⟨c, a, q, j, rfl, hI⟩ := he.form
      have HB := Lib.hid (hb.alloc hb.size (.cells #[.int .u8 c.toNat, .slice a q j] 100))
      have HX := Lib.hid (HT.out _ _ (k + 1) (w1.alloc (.cells #[.int .u8 c.toNat, .slice a q j] 100)) ((hI t rfl).step ((Below.refl _ _).alloc (Nat.le_refl _) _)) (by omega))
      clear he hb hI
      go_wp2_with fail
      refine (l6In_yes k 0 200 _ (by omega) (by omega)).mono ?_
      rintro e w2 ⟨rfl, rfl⟩
      go_wp2_with fail
      refine HX.out.mono ?_
      rintro e w2 ⟨⟨G, rfl, hG, hr⟩, hb2⟩
      have c1 := hr.cell hk
      have HB2 := Lib.hid (HB.out.trans (hb2.mono HB.out.size))
      clear hG hr hb2
      go_wp2_with fail
      go_ret
      exact ⟨by cases tmF t k <;> rfl, HB2.out⟩
    · rw [hasTV_out HH.out hout]
      clear hout
      go_enter Try.func40, Try.ntmps40
      go_wp2_with fail
      refine (HI.out _).mono ?_
      rintro e w1 ⟨he, hb⟩
      obtain ⟨c, a, q, j, rfl, _⟩ := he.form
      have HB := Lib.hid (hb.alloc hb.size (.cells #[.int .u8 c.toNat, .slice a q j] 100))
      clear he hb
      go_wp2_with fail
      refine (l6In_no n 0 200 _ hoo (by decide)).mono ?_
      rintro e w2 ⟨rfl, rfl⟩
      go_wp2_with fail
      go_ret
      exact ⟨rfl, HB.out⟩

end Go.Proofs.Ytiphooodijbhiaa

set_option linter.unusedVariables false
set_option linter.unusedSimpArgs false
namespace Go.Proofs.Ytiphooodijbhiaa
open Go.RowKit

/-- The numbers less than k, as a list. -/
noncomputable def listF (f : Nat → Bool) (k : Nat) : List Int := ((List.range k).filter f).map fun (n : Nat) => (n : Int)
theorem listF_hit {f : Nat → Bool} {k : Nat} (h : f k = true) : listF f (k + 1) = listF f k ++ [(k : Int)] := by unfold listF; rw [List.range_succ, List.filter_append, List.map_append]; simp [h]
theorem listF_miss {f : Nat → Bool} {k : Nat} (h : f k = false) : listF f (k + 1) = listF f k := by unfold listF; rw [List.range_succ, List.filter_append, List.map_append]; simp [h]
theorem listF_le (f : Nat → Bool) (k : Nat) : (listF f k).length ≤ k := by
  unfold listF; rw [List.length_map]; exact Nat.le_trans (List.length_filter_le _ _) (by simp)
/-- What TermList answers. -/
noncomputable def tlistV (s : ByteArray) (n : Int) : List Int := match termOf s.data.toList with | some t => if inR n 0 200 = true then listF (tmF t) n.toNat else [] | none => []
def tlistB (s : ByteArray) (n : Int) : Bool := (termOf s.data.toList).isSome && inR n 0 200
theorem tlist_none {s : ByteArray} {n : Int} (h : termOf s.data.toList = none) : tlistV s n = [] ∧ tlistB s n = false := by
  unfold tlistV tlistB; rw [h]; exact ⟨rfl, rfl⟩
theorem tlist_out {s : ByteArray} {n : Int} {t : Tm} (h : termOf s.data.toList = some t) (hn : inR n 0 200 = false) : tlistV s n = [] ∧ tlistB s n = false := by
  unfold tlistV tlistB; rw [h, hn]; exact ⟨rfl, rfl⟩
theorem tlist_in {s : ByteArray} {k : Nat} {t : Tm} (h : termOf s.data.toList = some t) (hk : k ≤ 200) : tlistV s k = listF (tmF t) k ∧ tlistB s k = true := by
  have e : inR (k : Int) 0 200 = true := by
    rcases inR_cases k 0 200 with ⟨e, _⟩ | ⟨_, e⟩
    · exact e
    · omega
  unfold tlistV tlistB; rw [h, e]; exact ⟨by simp, rfl⟩
theorem tlistV_le (s : ByteArray) (n : Int) : (tlistV s n).length ≤ 200 := by
  cases h : termOf s.data.toList with
  | none => rw [(tlist_none h).1]; exact Nat.zero_le _
  | some t =>
    rcases inR_cases n 0 200 with ⟨_, h1, h2⟩ | ⟨e, _⟩
    · obtain ⟨k, rfl⟩ := Int.eq_ofNat_of_zero_le h1
      rw [(tlist_in h (by omega)).1]
      exact Nat.le_trans (listF_le _ _) (by omega)
    · rw [(tlist_out h e).1]; exact Nat.zero_le _
/-- A list of the call's own, and whether it counts. -/
def TListOut (l : List Int) (b : Bool) (w : World) (e : Ending) (w' : World) : Prop :=
  ∃ a c, e = .returned (.tuple #[.slice a l.length c, .bool b]) ∧ Below w.heap.size w w' ∧ w'.ownsRow w.heap.size 3 1 (.slice a l.length c) l.length (ints l)
theorem own_fresh {w w1 : World} (hb : Below w.heap.size w w1) : (w1.alloc (.cells #[] 3)).ownsRow w.heap.size 3 1 (.slice (some ⟨w1.heap.size, 0, none⟩) 0 0) 0 (ints []) :=
  World.ownsRow_made (base := w.heap.size) (e := 3) (size := 1) w1 #[] 0 hb.size (by decide) rfl
theorem own_notB {w : World} {base n D N : Nat} {c : Nat → Bool} {v : Value} {xs : List Value} (h : w.ownsRow base 3 1 v n xs) (hD : BRow w D N c) : v.ownBlock ≠ some D := by
  intro hj
  obtain ⟨cur0, h1, _, _⟩ := hD
  rcases h.2 with ⟨hv, _⟩ | ⟨g, cap, cur, hv, _, hh, _⟩
  · rw [hv] at hj; cases hj
  · rw [hv] at hj
    have : g = D := by injection hj
    subst this
    rw [hh] at h1
    injection h1 with h1
    injection h1 with _ h1 _
    exact absurd h1 (by decide)
/-- The world of TermList's loop. -/
structure ListLoop (f : Nat → Bool) (G o N M k : Nat) (w wr : World) (v : Value) : Prop where
  num : NumAt wr G o N M f
  own : wr.ownsRow w.heap.size 3 1 v (listF f k).length (ints (listF f k))
  below : Below w.heap.size w wr
theorem ListLoop.skip {f : Nat → Bool} {G o N M k : Nat} {w wr : World} {v : Value} (h : ListLoop f G o N M k w wr v) (hf : f k = false) : ListLoop f G o N M (k + 1) w wr v :=
  ⟨h.num, by rw [listF_miss hf]; exact h.own, h.below⟩
theorem ListLoop.grow {f : Nat → Bool} {G o N M k : Nat} {w wr w1 : World} {u v' : Value} {ob : Obj} (h : ListLoop f G o N M k w wr u)
    (hown : w1.ownsRow w.heap.size 3 1 v' ((listF f k).length + 1) (ints (listF f k) ++ [.int .i64 k])) (hgrow : (wr.alloc ob).grownBy w1 u.ownBlock) (hf : f k = true) : ListLoop f G o N M (k + 1) w w1 v' := by
  have hs := h.below.size
  refine ⟨?_, ?_, (h.below.alloc hs ob).grown hgrow (by simp; omega) (fun j hj => (h.own.lt j hj).1)⟩
  · obtain ⟨F, q1, q2⟩ := h.num
    have q3 := q1.step ((Below.refl wr.heap.size wr).alloc (Nat.le_refl _) ob)
    have hl := q3.lt
    have hne := own_notB h.own q1
    obtain ⟨cur, r1, r2, r3⟩ := q3
    exact ⟨F, ⟨cur, (hgrow.block G hl (fun e => hne e.symm)).trans r1, r2, r3⟩, q2⟩
  · rw [listF_hit hf]
    have e : ints (listF f k ++ [(k : Int)]) = ints (listF f k) ++ [.int .i64 k] := by simp [ints]
    rw [e, List.length_append]
    exact hown

set_option maxRecDepth 100000 in
set_option maxHeartbeats 2000000 in
theorem implTermList_in (s : ByteArray) (K : Nat) (t : Tm) (m : Int) (w : World) (hL : LibAt m w) (h : termOf s.data.toList = some t) (hK : K ≤ 200) : Calls Try.prog 44 #[.string s, .int .i64 K] w (TListOut (listF (tmF t) K) true w) := by
  obtain ⟨i0, hi, hz0, hz1, hz2⟩ := info_parts Try.infoInt
  have HL := Lib.hid hL
  have HI := Lib.hid (fun w => readTerm_any s w)
  rw [h] at HI
  obtain ⟨_, ho, _⟩ := termOf_some h
  have HT := Lib.hid (fun w hL => termFirst_any m t w ho hL)
  have hm := method_first t
  have he := first_enters t
  have hin : inR (K : Int) 0 200 = true := by
    rcases inR_cases K 0 200 with ⟨e, _⟩ | ⟨_, e⟩
    · exact e
    · omega
  have HIN := Lib.hid (fun w => between_in K 0 200 w hin)
  clear hin h ho hL
  go_enter Try.func44, Try.ntmps44
  go_wp2_with fail
  refine (HI.out _).mono ?_
  rintro e w1 ⟨hr, j, rfl⟩
  rw [show e = _ from hr]
  clear hr
  have HB := Lib.hid (below_drewN (Below.refl w.heap.size w) j)
  have HO := Lib.hid (own_fresh HB.out)
  have HB1 := Lib.hid (HB.out.alloc HB.out.size (.cells #[] 3))
  simp only [tmV]
  go_wp2_with (go_at_call 65; (with_reducible refine (HIN.out _).mono ?_); rintro e w3 ⟨rfl, rfl⟩)
  go_wp2_with (go_at_fn (firstF t); refine (HT.out _ (HL.out.below HB1.out)).mono ?_; rintro e w2 ⟨⟨G, o, M, rfl, hG, hN⟩, hb⟩; have HL0 : Hid (ListLoop (tmF t) G o 201 M 0 w w2 (.slice (some ⟨w.heap.size, 0, none⟩) 0 0)) := Lib.hid ⟨hN, own_below HO.out hb (Nat.le_refl _), HB1.out.trans (hb.mono HB1.out.size)⟩; clear hG hN hb)
  have hKi : (K : Int) ≤ 201 := by omega
  go_wp2
  go_loopw [8, 30] (fun lv i wr => ∃ k : Nat, k ≤ K ∧ i = .int .i64 k ∧ ListLoop (tmF t) G o 201 M k w wr lv) (fun _ i _ => K - (intOf i).toNat)
  case atStart => exact ⟨0, Nat.zero_le _, rfl, HL0.out⟩
  case round =>
    obtain ⟨k, hkk, rfl, hl⟩ := hrel
    have HL := Lib.hid hl
    have hlen := listF_le (tmF t) k
    have hsz := hl.below.size
    by_cases hlt : k < K
    · have c1 := hl.num.cell (i := k) (by omega)
      clear hl
      cases hf : tmF t k
      · rw [hf] at c1
        have HL5 := Lib.hid (HL.out.skip hf)
        clear hf
        go_wp2
        go_roundw
        case rel => exact ⟨k + 1, by omega, by go_num, HL5.out⟩
        case measure => simp [intOf]; omega
      · rw [hf] at c1
        have HF := Lib.hid hf
        clear hf
        go_wp2_with
          (at_builtin; refine wpList_append_own _ rfl _ _ 23 rfl w.heap.size 3 i0 (.int .i64 0) 1 8 Try.underlying23 hi hz0 hz1 hz2 rfl (by decide) _ _ _ rfl (HL.out.own.alloc _) ⟨wr.heap.size, 0, none⟩ 1 1 [.int .i64 k] rfl rfl ?c1 ?c2 ?c3 ?c4 ?c5 ?_)
        case c1 =>
          intro j u hj
          match j, hj with
          | 0, hj => simp at hj; subst hj; simp [Addr.add]
        case c2 => intro u hu; simp at hu; subst hu; rfl
        case c3 => unfold maxLen; omega
        case c4 => omega
        case c5 => simp; omega
        intro v' w5 hown5 hgrow _
        have HL5 := Lib.hid (HL.out.grow hown5 hgrow HF.out)
        clear hown5 hgrow c1
        go_wp2
        go_roundw
        case rel => exact ⟨k + 1, by omega, by go_num, HL5.out⟩
        case measure => simp [intOf]; omega
    · obtain rfl : k = K := by omega
      obtain ⟨a, c, rfl⟩ := own_form hl.own
      clear hl
      go_wp2
      go_ret2
      exact ⟨a, c, rfl, HL.out.below, HL.out.own⟩

theorem implTermList_off1 (s : ByteArray) (n m : Int) (w : World) (h : termOf s.data.toList = none) : Calls Try.prog 44 #[.string s, .int .i64 n] w (TListOut [] false w) := by
  have HI := Lib.hid (fun w => readTerm_any s w)
  rw [h] at HI
  clear h
  go_enter Try.func44, Try.ntmps44
  go_wp2_with fail
  refine (HI.out _).mono ?_
  rintro e w1 ⟨he, k, rfl⟩
  rw [show e = _ from he]
  clear he
  have HB := Lib.hid (below_drewN (Below.refl w.heap.size w) k)
  have HO := Lib.hid (own_fresh HB.out)
  have HB1 := Lib.hid (HB.out.alloc HB.out.size (.cells #[] 3))
  go_wp2_with fail
  go_ret2
  exact ⟨_, _, rfl, HB1.out, HO.out⟩
theorem implTermList_off2 (s : ByteArray) (n m : Int) (t : Tm) (w : World) (h : termOf s.data.toList = some t) (hn : inR n 0 200 = false) : Calls Try.prog 44 #[.string s, .int .i64 n] w (TListOut [] false w) := by
  have HI := Lib.hid (fun w => readTerm_any s w)
  rw [h] at HI
  have HOUT := Lib.hid (fun w => between_out n 0 200 w hn)
  clear h hn
  go_enter Try.func44, Try.ntmps44
  go_wp2_with fail
  refine (HI.out _).mono ?_
  rintro e w1 ⟨he, k, rfl⟩
  rw [show e = _ from he]
  clear he
  have HB := Lib.hid (below_drewN (Below.refl w.heap.size w) k)
  have HO := Lib.hid (own_fresh HB.out)
  have HB1 := Lib.hid (HB.out.alloc HB.out.size (.cells #[] 3))
  go_wp2_with (go_at_call 65; (with_reducible refine (HOUT.out _).mono ?_); rintro e w3 ⟨rfl, rfl⟩)
  go_ret2
  exact ⟨_, _, rfl, HB1.out, HO.out⟩
theorem implTermList (s : ByteArray) (n m : Int) (w : World) (hL : LibAt m w) : Calls Try.prog 44 #[.string s, .int .i64 n] w (TListOut (tlistV s n) (tlistB s n) w) := by
  cases h : termOf s.data.toList with
  | none => rw [(tlist_none h).1, (tlist_none h).2]; exact implTermList_off1 s n m w h
  | some t =>
    rcases inR_cases n 0 200 with ⟨_, h1, h2⟩ | ⟨e, _⟩
    · obtain ⟨k, rfl⟩ := Int.eq_ofNat_of_zero_le h1
      rw [(tlist_in h (k := k) (by omega)).1, (tlist_in h (k := k) (by omega)).2]
      exact implTermList_in s k t m w hL h (by omega)
    · rw [(tlist_out h e).1, (tlist_out h e).2]; exact implTermList_off2 s n m t w h e

set_option maxRecDepth 100000 in
set_option maxHeartbeats 2000000 in
theorem specTermList_in (s : ByteArray) (K : Nat) (t : Tm) (w : World) (h : termOf s.data.toList = some t) (hK : K ≤ 200) : Calls Try.prog 45 #[.string s, .int .i64 K] w (TListOut (listF (tmF t) K) true w) := by
  obtain ⟨i0, hi, hz0, hz1, hz2⟩ := info_parts Try.infoInt
  have HI := Lib.hid (fun w => l7Of_any s w)
  rw [h] at HI
  obtain ⟨_, ho, _⟩ := termOf_some h
  have HT := Lib.hid (fun B v N w hI hN => marks_any t B v N w ho hI hN)
  clear h ho
  have HO := Lib.hid (own_fresh (Below.refl w.heap.size w))
  go_enter Try.func45, Try.ntmps45
  go_wp2_with fail
  refine (HI.out _).mono ?_
  rintro e w1 ⟨he, hb⟩
  obtain ⟨c, a, q, j, rfl, hI⟩ := he.form
  have HB := Lib.hid ((((Below.refl w.heap.size w).alloc (Nat.le_refl _) (.cells #[] 3)).trans (hb.mono (by simp))).alloc (by have := hb.size; simp at this; omega) (.cells #[.int .u8 c.toNat, .slice a q j] 100))
  have HO1 := Lib.hid (own_below (own_below HO.out hb (Nat.le_refl _)) ((Below.refl _ _).alloc (Nat.le_refl _) (.cells #[.int .u8 c.toNat, .slice a q j] 100)) (Nat.le_refl _))
  have HX := Lib.hid (HT.out _ _ K (w1.alloc (.cells #[.int .u8 c.toNat, .slice a q j] 100)) ((hI t rfl).step ((Below.refl _ _).alloc (Nat.le_refl _) _)) (by omega))
  clear he hb hI
  go_wp2_with fail
  refine (l6In_yes K 0 200 _ (by omega) (by omega)).mono ?_
  rintro e w2 ⟨rfl, rfl⟩
  go_wp2_with fail
  refine HX.out.mono ?_
  rintro e w2 ⟨⟨G, rfl, hG, hr⟩, hb2⟩
  obtain ⟨o, hoo⟩ : ∃ o, o = 0 := ⟨_, rfl⟩
  obtain ⟨M, hM⟩ : ∃ M, M = K := ⟨_, rfl⟩
  have HL0 : Hid (ListLoop (tmF t) G 0 K K 0 w w2 (.slice (some ⟨w.heap.size, 0, none⟩) 0 0)) := Lib.hid ⟨hr.num, own_below HO1.out hb2 (Nat.le_refl _), HB.out.trans (hb2.mono HB.out.size)⟩
  clear hG hr hb2 hoo hM o M
  go_wp2
  go_loopw [6, 10] (fun lv i wr => ∃ k : Nat, k ≤ K ∧ i = .int .i64 k ∧ ListLoop (tmF t) G 0 K K k w wr lv) (fun _ i _ => K - (intOf i).toNat)
  case atStart => exact ⟨0, Nat.zero_le _, rfl, HL0.out⟩
  case round =>
    obtain ⟨k, hkk, rfl, hl⟩ := hrel
    have HL := Lib.hid hl
    have hlen := listF_le (tmF t) k
    have hsz := hl.below.size
    by_cases hlt : k < K
    · have c1 := hl.num.cell (i := k) (by omega)
      rw [Nat.zero_add] at c1
      clear hl
      cases hf : tmF t k
      · rw [hf] at c1
        have HL5 := Lib.hid (HL.out.skip hf)
        clear hf
        go_wp2
        go_roundw
        case rel => exact ⟨k + 1, by omega, by go_num, HL5.out⟩
        case measure => simp [intOf]; omega
      · rw [hf] at c1
        have HF := Lib.hid hf
        clear hf
        go_wp2_with
          (at_builtin; refine wpList_append_own _ rfl _ _ 23 rfl w.heap.size 3 i0 (.int .i64 0) 1 8 Try.underlying23 hi hz0 hz1 hz2 rfl (by decide) _ _ _ rfl (HL.out.own.alloc _) ⟨wr.heap.size, 0, none⟩ 1 1 [.int .i64 k] rfl rfl ?c1 ?c2 ?c3 ?c4 ?c5 ?_)
        case c1 =>
          intro j u hj
          match j, hj with
          | 0, hj => simp at hj; subst hj; simp [Addr.add]
        case c2 => intro u hu; simp at hu; subst hu; rfl
        case c3 => unfold maxLen; omega
        case c4 => omega
        case c5 => simp; omega
        intro v' w5 hown5 hgrow _
        have HL5 := Lib.hid (HL.out.grow hown5 hgrow HF.out)
        clear hown5 hgrow c1
        go_wp2
        go_roundw
        case rel => exact ⟨k + 1, by omega, by go_num, HL5.out⟩
        case measure => simp [intOf]; omega
    · obtain rfl : k = K := by omega
      obtain ⟨a, c, rfl⟩ := own_form hl.own
      clear hl
      go_wp2
      go_ret2
      exact ⟨a, c, rfl, HL.out.below, HL.out.own⟩

set_option maxHeartbeats 1000000 in
theorem specTermList_off1 (s : ByteArray) (n : Int) (w : World) (h : termOf s.data.toList = none) : Calls Try.prog 45 #[.string s, .int .i64 n] w (TListOut [] false w) := by
  have HI := Lib.hid (fun w => l7Of_any s w)
  rw [h] at HI
  clear h
  have HO := Lib.hid (own_fresh (Below.refl w.heap.size w))
  go_enter Try.func45, Try.ntmps45
  go_wp2_with fail
  refine (HI.out _).mono ?_
  rintro e w1 ⟨he, hb⟩
  obtain ⟨c, a, q, j, rfl, _⟩ := he.form
  have HB := Lib.hid ((((Below.refl w.heap.size w).alloc (Nat.le_refl _) (.cells #[] 3)).trans (hb.mono (by simp))).alloc (by have := hb.size; simp at this; omega) (.cells #[.int .u8 c.toNat, .slice a q j] 100))
  have HO1 := Lib.hid (own_below (own_below HO.out hb (Nat.le_refl _)) ((Below.refl _ _).alloc (Nat.le_refl _) (.cells #[.int .u8 c.toNat, .slice a q j] 100)) (Nat.le_refl _))
  clear he hb
  go_wp2_with fail
  go_ret2
  exact ⟨_, _, rfl, HB.out, HO1.out⟩
set_option maxHeartbeats 1000000 in
theorem specTermList_off2 (s : ByteArray) (n : Int) (t : Tm) (w : World) (h : termOf s.data.toList = some t) (hn : n < 0 ∨ 200 < n) : Calls Try.prog 45 #[.string s, .int .i64 n] w (TListOut [] false w) := by
  have HI := Lib.hid (fun w => l7Of_any s w)
  rw [h] at HI
  clear h
  have HO := Lib.hid (own_fresh (Below.refl w.heap.size w))
  go_enter Try.func45, Try.ntmps45
  go_wp2_with fail
  refine (HI.out _).mono ?_
  rintro e w1 ⟨he, hb⟩
  obtain ⟨c, a, q, j, rfl, _⟩ := he.form
  have HB := Lib.hid ((((Below.refl w.heap.size w).alloc (Nat.le_refl _) (.cells #[] 3)).trans (hb.mono (by simp))).alloc (by have := hb.size; simp at this; omega) (.cells #[.int .u8 c.toNat, .slice a q j] 100))
  have HO1 := Lib.hid (own_below (own_below HO.out hb (Nat.le_refl _)) ((Below.refl _ _).alloc (Nat.le_refl _) (.cells #[.int .u8 c.toNat, .slice a q j] 100)) (Nat.le_refl _))
  clear he hb
  go_wp2_with fail
  refine (l6In_no n 0 200 _ hn (by decide)).mono ?_
  rintro e w2 ⟨rfl, rfl⟩
  go_wp2_with fail
  go_ret2
  exact ⟨_, _, rfl, HB.out, HO1.out⟩
theorem specTermList (s : ByteArray) (n : Int) (w : World) : Calls Try.prog 45 #[.string s, .int .i64 n] w (TListOut (tlistV s n) (tlistB s n) w) := by
  cases h : termOf s.data.toList with
  | none => rw [(tlist_none h).1, (tlist_none h).2]; exact specTermList_off1 s n w h
  | some t =>
    rcases inR_cases n 0 200 with ⟨_, h1, h2⟩ | ⟨e, e2⟩
    · obtain ⟨k, rfl⟩ := Int.eq_ofNat_of_zero_le h1
      rw [(tlist_in h (k := k) (by omega)).1, (tlist_in h (k := k) (by omega)).2]
      exact specTermList_in s k t w h (by omega)
    · rw [(tlist_out h e).1, (tlist_out h e).2]; exact specTermList_off2 s n t w h e2

end Go.Proofs.Ytiphooodijbhiaa

namespace Go.Proofs.Ytiphooodijbhiaa
open Go.RowKit

theorem pair_either : PairGives 197 (fun x y => x || y) := by
  refine ⟨enters_of Try.func197 (by kernel_rfl) rfl, fun W x y => ?_⟩
  show Calls Try.prog 197 #[.bool x, .bool y] W _
  cases x <;> cases y <;>
    (go_enter Try.func197, Try.ntmps197
     go_wp2
     go_ret
     exact ⟨rfl, Below.refl _ _⟩)

theorem implEither (s t : ByteArray) (m : Int) (w : World) (hs : s.size ≤ 1048576) (ht : t.size ≤ 1048576) (hL : LibAt m w) :
    Calls Try.prog 196 #[.string s, .string t] w fun e w' => MakeEnd (okS s && okS t) (fun n => fS s n || fS t n) e ∧ Below w.heap.size w w' := by
  go_enter Try.func196, Try.ntmps196
  go_wp2_with fail
  refine (joined_any s t 197 _ m _ hs ht hL pair_either).mono ?_
  rintro e w1 ⟨⟨T, b, rfl, hm⟩, hb⟩
  have HM := Lib.hid hm
  clear hm
  go_wp2
  go_ret2
  exact ⟨⟨T, b, rfl, HM.out⟩, hb⟩

end Go.Proofs.Ytiphooodijbhiaa

namespace Go.Proofs.Ytiphooodijbhiaa
open Go.RowKit

theorem pair_both : PairGives 82 (fun x y => x && y) := by
  refine ⟨enters_of Try.func82 (by kernel_rfl) rfl, fun W x y => ?_⟩
  show Calls Try.prog 82 #[.bool x, .bool y] W _
  cases x <;> cases y <;>
    (go_enter Try.func82, Try.ntmps82
     go_wp2
     go_ret
     exact ⟨rfl, Below.refl _ _⟩)

theorem implBoth (s t : ByteArray) (m : Int) (w : World) (hs : s.size ≤ 1048576) (ht : t.size ≤ 1048576) (hL : LibAt m w) :
    Calls Try.prog 33 #[.string s, .string t] w fun e w' => MakeEnd (okS s && okS t) (fun n => fS s n && fS t n) e ∧ Below w.heap.size w w' := by
  go_enter Try.func33, Try.ntmps33
  go_wp2_with fail
  refine (joined_any s t 82 _ m _ hs ht hL pair_both).mono ?_
  rintro e w1 ⟨⟨T, b, rfl, hm⟩, hb⟩
  have HM := Lib.hid hm
  clear hm
  go_wp2
  go_ret2
  exact ⟨⟨T, b, rfl, HM.out⟩, hb⟩

end Go.Proofs.Ytiphooodijbhiaa

namespace Go.Proofs.Ytiphooodijbhiaa
open Go.RowKit

theorem specEither (s t : ByteArray) (w : World) (hs : s.size ≤ 1048576) (ht : t.size ≤ 1048576) :
    Calls Try.prog 118 #[.string s, .string t] w fun e w' => MakeEnd (okS s && okS t) (fun n => fS s n || fS t n) e ∧ Below w.heap.size w w' := by
  go_enter Try.func118, Try.ntmps118
  go_wp2_with fail
  refine (specTwo s t 14 _ hs ht (by decide)).mono ?_
  rintro e w1 ⟨⟨T, b, rfl, hm⟩, hb⟩
  rw [twoF_either] at hm
  have HM := Lib.hid hm
  clear hm
  go_wp2
  go_ret2
  exact ⟨⟨T, b, rfl, HM.out⟩, hb⟩

theorem specBoth (s t : ByteArray) (w : World) (hs : s.size ≤ 1048576) (ht : t.size ≤ 1048576) :
    Calls Try.prog 120 #[.string s, .string t] w fun e w' => MakeEnd (okS s && okS t) (fun n => fS s n && fS t n) e ∧ Below w.heap.size w w' := by
  go_enter Try.func120, Try.ntmps120
  go_wp2_with fail
  refine (specTwo s t 8 _ hs ht (by decide)).mono ?_
  rintro e w1 ⟨⟨T, b, rfl, hm⟩, hb⟩
  rw [twoF_both] at hm
  have HM := Lib.hid hm
  clear hm
  go_wp2
  go_ret2
  exact ⟨⟨T, b, rfl, HM.out⟩, hb⟩

end Go.Proofs.Ytiphooodijbhiaa

set_option linter.unusedSimpArgs false
set_option linter.unusedVariables false
namespace Go.Proofs.Ytiphooodijbhiaa
open Go.RowKit

/-- The method that makes the set text of a term. -/
def setF : Tm → Nat
  | .sign _ => 200
  | .star _ => 175
  | .times _ _ => 187
  | .pair _ _ _ => 194
theorem method_set (t : Tm) (w : World) : (method 305 (tmTy t) (tmRecv t) "loop.example/oneletter/impl.set").run Try.prog w = .ok (setF t, tmRecv t) w := by
  cases t <;> kernel_rfl
theorem set_enters (t : Tm) : ∀ (args : Array Value) (w : World), (callFunc (setF t) args).run Try.prog w = .ok (.enter (setF t) args) w := by
  cases t
  · exact enters_of Try.func200 (by kernel_rfl) rfl
  · exact enters_of Try.func175 (by kernel_rfl) rfl
  · exact enters_of Try.func187 (by kernel_rfl) rfl
  · exact enters_of Try.func194 (by kernel_rfl) rfl
set_option maxRecDepth 100000 in
set_option maxHeartbeats 1000000 in
theorem set_star (t : Tm) (m : Int) (w : World) (ho : tmOk t = true) (hL : LibAt m w) (ih : ∀ w, LibAt m w → Calls Try.prog (setF t) #[tmRecv t] w fun e w' => TermEnd t e ∧ Below w.heap.size w w') :
    Calls Try.prog 175 #[tmRecv (.star t)] w fun e w' => TermEnd (.star t) e ∧ Below w.heap.size w w' := by
  have HI := Lib.hid ih
  have HL := Lib.hid hL
  clear ih hL
  have hm := method_set t
  have he := set_enters t
  show Calls Try.prog 175 #[.agg #[.iface (tmTy t) (tmRecv t)]] w _
  go_enter Try.func175, Try.ntmps175
  go_wp2_with (go_at_fn (setF t); refine (HI.out _ (HL.out.alloc _)).mono ?_; rintro e w1 ⟨⟨U, c, rfl, hU⟩, hb⟩; have HU := Lib.hid hU; have HB := Lib.hid (((Below.refl w.heap.size w).alloc (Nat.le_refl _) _).trans (hb.mono (by simp))); clear hU hb)
  refine (implStar U m w1 (termText_size ho HU.out) (HL.out.below HB.out)).mono ?_
  rintro e w2 ⟨⟨T, b, rfl, hT⟩, hb2⟩
  have HT := Lib.hid hT
  have HB2 := Lib.hid (HB.out.trans (hb2.mono HB.out.size))
  clear hT hb2
  go_wp2_with fail
  go_ret2
  exact ⟨⟨T, b, rfl, U, c, HU.out, HT.out⟩, HB2.out⟩

set_option maxRecDepth 100000 in
set_option maxHeartbeats 1000000 in
theorem set_times (d : UInt8) (t : Tm) (m : Int) (w : World) (hd : isDig d = true) (ho : tmOk t = true) (hL : LibAt m w) (ih : ∀ w, LibAt m w → Calls Try.prog (setF t) #[tmRecv t] w fun e w' => TermEnd t e ∧ Below w.heap.size w w') :
    Calls Try.prog 187 #[tmRecv (.times d t)] w fun e w' => TermEnd (.times d t) e ∧ Below w.heap.size w w' := by
  have HI := Lib.hid ih
  have HL := Lib.hid hL
  have HD := Lib.hid hd
  clear ih hL hd
  have hm := method_set t
  have he := set_enters t
  show Calls Try.prog 187 #[.agg #[.int .u8 d.toNat, .iface (tmTy t) (tmRecv t)]] w _
  go_enter Try.func187, Try.ntmps187
  go_wp2_with (go_at_fn (setF t); refine (HI.out _ (HL.out.alloc _)).mono ?_; rintro e w1 ⟨⟨U, c, rfl, hU⟩, hb⟩; have HU := Lib.hid hU; have HB := Lib.hid (((Below.refl w.heap.size w).alloc (Nat.le_refl _) _).trans (hb.mono (by simp))); obtain ⟨d0, d1⟩ := box_later hb; clear hU hb)
  refine (times_val d _ _ w1 HD.out).mono ?_
  rintro e w2 ⟨rfl, hb2⟩
  have HB2 := Lib.hid (HB.out.trans (hb2.mono HB.out.size))
  clear hb2 d0 d1
  go_wp2_with fail
  refine (implTimes U ((d.toNat : Int) - 48) m w2 (termText_size ho HU.out) (HL.out.below HB2.out)).mono ?_
  rintro e w3 ⟨⟨T, b, rfl, hT⟩, hb3⟩
  have HT := Lib.hid hT
  have HB3 := Lib.hid (HB2.out.trans (hb3.mono HB2.out.size))
  clear hT hb3
  go_wp2_with fail
  go_ret2
  exact ⟨⟨T, b, rfl, U, c, HU.out, HT.out⟩, HB3.out⟩

theorem box3_later {w w1 : World} {x y z : Value} {T : TypeId} (hb : Below (w.alloc (.cells #[x, y, z] T)).heap.size (w.alloc (.cells #[x, y, z] T)) w1) :
    w1.cell? ⟨w.heap.size, 0, none⟩ = some x ∧ w1.cell? ⟨w.heap.size, 1, none⟩ = some y ∧ w1.cell? ⟨w.heap.size, 2, none⟩ = some z :=
  ⟨(hb.cell (p := ⟨w.heap.size, 0, none⟩) (by simp)).trans (by rw [World.cell?_alloc_at _ _ _ _ rfl]; rfl), (hb.cell (p := ⟨w.heap.size, 1, none⟩) (by simp)).trans (by rw [World.cell?_alloc_at _ _ _ _ rfl]; rfl), (hb.cell (p := ⟨w.heap.size, 2, none⟩) (by simp)).trans (by rw [World.cell?_alloc_at _ _ _ _ rfl]; rfl)⟩
set_option maxRecDepth 100000 in
set_option maxHeartbeats 1000000 in
theorem set_pair46 (l r : Tm) (m : Int) (w : World) (hol : tmOk l = true) (hor : tmOk r = true) (hL : LibAt m w) (ihl : ∀ w, LibAt m w → Calls Try.prog (setF l) #[tmRecv l] w fun e w' => TermEnd l e ∧ Below w.heap.size w w')
    (ihr : ∀ w, LibAt m w → Calls Try.prog (setF r) #[tmRecv r] w fun e w' => TermEnd r e ∧ Below w.heap.size w w') :
    Calls Try.prog 194 #[tmRecv (.pair l 46 r)] w fun e w' => TermEnd (.pair l 46 r) e ∧ Below w.heap.size w w' := by
  have HI := Lib.hid ihl
  have HR := Lib.hid ihr
  have HL := Lib.hid hL
  clear ihl ihr hL
  have hml := method_set l
  have hel := set_enters l
  have hmr := method_set r
  have her := set_enters r
  show Calls Try.prog 194 #[.agg #[.iface (tmTy l) (tmRecv l), .int .u8 46, .iface (tmTy r) (tmRecv r)]] w _
  go_enter Try.func194, Try.ntmps194
  go_wp2_with (first
    | (go_at_fn (setF l); (with_reducible refine (HI.out _ (HL.out.alloc _)).mono ?_); rintro e w1 ⟨⟨U, c, rfl, hU⟩, hb⟩; have HU := Lib.hid hU; have HB := Lib.hid (((Below.refl w.heap.size w).alloc (Nat.le_refl _) _).trans (hb.mono (by simp))); obtain ⟨d0, d1, d2⟩ := box3_later hb; clear hU hb)
    | (go_at_fn (setF r); (with_reducible refine (HR.out _ (HL.out.below HB.out)).mono ?_); rintro e w2 ⟨⟨V, c2, rfl, hV⟩, hb2⟩; have HV := Lib.hid hV; have f1 := (hb2.cell (p := ⟨w.heap.size, 1, none⟩) (lt_of_some d1)).trans d1; have HB2 := Lib.hid (HB.out.trans (hb2.mono HB.out.size)); clear hV hb2 d0 d1 d2))
  refine (implSum U V m w2 (termText_size hol HU.out) (termText_size hor HV.out) (HL.out.below HB2.out)).mono ?_
  rintro e w3 ⟨⟨T, b, rfl, hT⟩, hb3⟩
  have HT := Lib.hid hT
  have HB3 := Lib.hid (HB2.out.trans (hb3.mono HB2.out.size))
  clear hT hb3 f1
  go_wp2_with fail
  go_ret2
  exact ⟨⟨T, b, rfl, termText_pair HU.out HV.out HT.out⟩, HB3.out⟩
set_option maxRecDepth 100000 in
set_option maxHeartbeats 1000000 in
theorem set_pair43 (l r : Tm) (m : Int) (w : World) (hol : tmOk l = true) (hor : tmOk r = true) (hL : LibAt m w) (ihl : ∀ w, LibAt m w → Calls Try.prog (setF l) #[tmRecv l] w fun e w' => TermEnd l e ∧ Below w.heap.size w w')
    (ihr : ∀ w, LibAt m w → Calls Try.prog (setF r) #[tmRecv r] w fun e w' => TermEnd r e ∧ Below w.heap.size w w') :
    Calls Try.prog 194 #[tmRecv (.pair l 43 r)] w fun e w' => TermEnd (.pair l 43 r) e ∧ Below w.heap.size w w' := by
  have HI := Lib.hid ihl
  have HR := Lib.hid ihr
  have HL := Lib.hid hL
  clear ihl ihr hL
  have hml := method_set l
  have hel := set_enters l
  have hmr := method_set r
  have her := set_enters r
  show Calls Try.prog 194 #[.agg #[.iface (tmTy l) (tmRecv l), .int .u8 43, .iface (tmTy r) (tmRecv r)]] w _
  go_enter Try.func194, Try.ntmps194
  go_wp2_with (first
    | (go_at_fn (setF l); (with_reducible refine (HI.out _ (HL.out.alloc _)).mono ?_); rintro e w1 ⟨⟨U, c, rfl, hU⟩, hb⟩; have HU := Lib.hid hU; have HB := Lib.hid (((Below.refl w.heap.size w).alloc (Nat.le_refl _) _).trans (hb.mono (by simp))); obtain ⟨d0, d1, d2⟩ := box3_later hb; clear hU hb)
    | (go_at_fn (setF r); (with_reducible refine (HR.out _ (HL.out.below HB.out)).mono ?_); rintro e w2 ⟨⟨V, c2, rfl, hV⟩, hb2⟩; have HV := Lib.hid hV; have f1 := (hb2.cell (p := ⟨w.heap.size, 1, none⟩) (lt_of_some d1)).trans d1; have HB2 := Lib.hid (HB.out.trans (hb2.mono HB.out.size)); clear hV hb2 d0 d1 d2))
  refine (implEither U V m w2 (termText_size hol HU.out) (termText_size hor HV.out) (HL.out.below HB2.out)).mono ?_
  rintro e w3 ⟨⟨T, b, rfl, hT⟩, hb3⟩
  have HT := Lib.hid hT
  have HB3 := Lib.hid (HB2.out.trans (hb3.mono HB2.out.size))
  clear hT hb3 f1
  go_wp2_with fail
  go_ret2
  exact ⟨⟨T, b, rfl, termText_pair HU.out HV.out HT.out⟩, HB3.out⟩
set_option maxRecDepth 100000 in
set_option maxHeartbeats 1000000 in
theorem set_pair38 (l r : Tm) (m : Int) (w : World) (hol : tmOk l = true) (hor : tmOk r = true) (hL : LibAt m w) (ihl : ∀ w, LibAt m w → Calls Try.prog (setF l) #[tmRecv l] w fun e w' => TermEnd l e ∧ Below w.heap.size w w')
    (ihr : ∀ w, LibAt m w → Calls Try.prog (setF r) #[tmRecv r] w fun e w' => TermEnd r e ∧ Below w.heap.size w w') :
    Calls Try.prog 194 #[tmRecv (.pair l 38 r)] w fun e w' => TermEnd (.pair l 38 r) e ∧ Below w.heap.size w w' := by
  have HI := Lib.hid ihl
  have HR := Lib.hid ihr
  have HL := Lib.hid hL
  clear ihl ihr hL
  have hml := method_set l
  have hel := set_enters l
  have hmr := method_set r
  have her := set_enters r
  show Calls Try.prog 194 #[.agg #[.iface (tmTy l) (tmRecv l), .int .u8 38, .iface (tmTy r) (tmRecv r)]] w _
  go_enter Try.func194, Try.ntmps194
  go_wp2_with (first
    | (go_at_fn (setF l); (with_reducible refine (HI.out _ (HL.out.alloc _)).mono ?_); rintro e w1 ⟨⟨U, c, rfl, hU⟩, hb⟩; have HU := Lib.hid hU; have HB := Lib.hid (((Below.refl w.heap.size w).alloc (Nat.le_refl _) _).trans (hb.mono (by simp))); obtain ⟨d0, d1, d2⟩ := box3_later hb; clear hU hb)
    | (go_at_fn (setF r); (with_reducible refine (HR.out _ (HL.out.below HB.out)).mono ?_); rintro e w2 ⟨⟨V, c2, rfl, hV⟩, hb2⟩; have HV := Lib.hid hV; have f1 := (hb2.cell (p := ⟨w.heap.size, 1, none⟩) (lt_of_some d1)).trans d1; have HB2 := Lib.hid (HB.out.trans (hb2.mono HB.out.size)); clear hV hb2 d0 d1 d2))
  refine (implBoth U V m w2 (termText_size hol HU.out) (termText_size hor HV.out) (HL.out.below HB2.out)).mono ?_
  rintro e w3 ⟨⟨T, b, rfl, hT⟩, hb3⟩
  have HT := Lib.hid hT
  have HB3 := Lib.hid (HB2.out.trans (hb3.mono HB2.out.size))
  clear hT hb3 f1
  go_wp2_with fail
  go_ret2
  exact ⟨⟨T, b, rfl, termText_pair HU.out HV.out HT.out⟩, HB3.out⟩

/-- The walk of the method that makes the set text of a term, whatever the term. -/
theorem set_any (m : Int) : ∀ (t : Tm) (w : World), tmOk t = true → LibAt m w → Calls Try.prog (setF t) #[tmRecv t] w fun e w' => TermEnd t e ∧ Below w.heap.size w w' := by
  intro t
  induction t with
  | sign c =>
    intro w ho _
    rcases one_cases ho with rfl | rfl | rfl
    · exact set_sign48 w
    · exact set_sign49 w
    · exact set_sign97 w
  | star t ih => intro w ho hL; exact set_star t m w ho hL (fun w hL => ih w ho hL)
  | times d t ih =>
    intro w ho hL
    rw [tmOk, Bool.and_eq_true] at ho
    exact set_times d t m w ho.1 ho.2 hL (fun w hL => ih w ho.2 hL)
  | pair l s r ihl ihr =>
    intro w ho hL
    rw [tmOk, Bool.and_eq_true, Bool.and_eq_true] at ho
    rcases mid_cases ho.2.1 with rfl | rfl | rfl
    · exact set_pair43 l r m w ho.1 ho.2.2 hL (fun w hL => ihl w ho.1 hL) (fun w hL => ihr w ho.2.2 hL)
    · exact set_pair46 l r m w ho.1 ho.2.2 hL (fun w hL => ihl w ho.1 hL) (fun w hL => ihr w ho.2.2 hL)
    · exact set_pair38 l r m w ho.1 ho.2.2 hL (fun w hL => ihl w ho.1 hL) (fun w hL => ihr w ho.2.2 hL)

set_option maxRecDepth 100000 in
set_option maxHeartbeats 1000000 in
theorem implTermSet (s : ByteArray) (m : Int) (w : World) (hL : LibAt m w) : Calls Try.prog 41 #[.string s] w fun e w' => (∃ T b, e = .returned (.tuple #[.string T, .bool b]) ∧ TextOf s T b) ∧ Below w.heap.size w w' := by
  have HL := Lib.hid hL
  clear hL
  cases h : termOf s.data.toList with
  | none =>
    have HE := Lib.hid (textOf_none h)
    have HI := Lib.hid (fun w => readTerm_any s w)
    rw [h] at HI
    clear h
    go_enter Try.func41, Try.ntmps41
    go_wp2_with fail
    refine (HI.out _).mono ?_
    rintro e w1 ⟨he, k, rfl⟩
    rw [show e = _ from he]
    clear he
    go_wp2_with fail
    go_ret2
    exact ⟨⟨_, _, rfl, HE.out⟩, below_drewN (Below.refl _ _) k⟩
  | some t =>
    have HE := Lib.hid (fun T b => textOf_some (T := T) (b := b) h)
    have HI := Lib.hid (fun w => readTerm_any s w)
    rw [h] at HI
    obtain ⟨_, ho, hl⟩ := termOf_some h
    have HT := Lib.hid (fun w hL => set_any m t w ho hL)
    have hm := method_set t
    have he := set_enters t
    clear h ho hl
    go_enter Try.func41, Try.ntmps41
    go_wp2_with fail
    refine (HI.out _).mono ?_
    rintro e w1 ⟨hr, k, rfl⟩
    rw [show e = _ from hr]
    clear hr
    have HB := Lib.hid (below_drewN (Below.refl w.heap.size w) k)
    simp only [tmV]
    go_wp2_with (go_at_fn (setF t); refine (HT.out _ (HL.out.below HB.out)).mono ?_; rintro e w2 ⟨⟨T, b, rfl, hT⟩, hb2⟩; have HX := Lib.hid hT; have HB2 := Lib.hid (HB.out.trans (hb2.mono HB.out.size)); clear hT hb2)
    go_ret2
    exact ⟨⟨T, b, rfl, (HE.out T b).2 HX.out⟩, HB2.out⟩

set_option maxRecDepth 100000 in
set_option maxHeartbeats 1000000 in
theorem implTermSame (s t : ByteArray) (m : Int) (w : World) (hL : LibAt m w) : Calls Try.prog 54 #[.string s, .string t] w fun e w' => (∃ T b U c, e = .returned (.bool (b && (c && decide (T = U)))) ∧ TextOf s T b ∧ TextOf t U c) ∧ Below w.heap.size w w' := by
  have HL := Lib.hid hL
  clear hL
  go_enter Try.func54, Try.ntmps54
  go_wp2_with fail
  refine (implTermSet s m w HL.out).mono ?_
  rintro e w1 ⟨⟨T, b, rfl, hT⟩, hb⟩
  have HT := Lib.hid hT
  have HB := Lib.hid hb
  clear hT hb
  go_wp2_with fail
  refine (implTermSet t m w1 (HL.out.below HB.out)).mono ?_
  rintro e w2 ⟨⟨U, c, rfl, hU⟩, hb2⟩
  have HU := Lib.hid hU
  have HB2 := Lib.hid (HB.out.trans (hb2.mono HB.out.size))
  clear hU hb2
  cases b
  · go_wp2_with fail
    go_ret
    exact ⟨⟨T, false, U, c, rfl, HT.out, HU.out⟩, HB2.out⟩
  · cases c
    · go_wp2_with fail
      go_ret
      exact ⟨⟨T, true, U, false, rfl, HT.out, HU.out⟩, HB2.out⟩
    · by_cases hTU : T = U
      · have hd : decide (T = U) = true := decide_eq_true hTU
        have HD := Lib.hid hd
        have hl : T.toList = U.toList := by rw [hTU]
        have hl2 : (T.toList == U.toList) = true := by rw [hl]; simp
        clear hTU hd
        go_wp2_with fail
        go_ret
        exact ⟨⟨T, true, U, true, by rw [HD.out]; rfl, HT.out, HU.out⟩, HB2.out⟩
      · have hd : decide (T = U) = false := decide_eq_false hTU
        have HD := Lib.hid hd
        have hl : ¬ T.toList = U.toList := fun e => hTU (by
          rw [Lib.toList_data, Lib.toList_data] at e
          exact ByteArray.ext (Array.ext' e))
        have hl2 : (T.toList == U.toList) = false := by simpa using hl
        clear hTU hd
        go_wp2_with fail
        go_ret
        exact ⟨⟨T, true, U, true, by rw [HD.out]; rfl, HT.out, HU.out⟩, HB2.out⟩

set_option maxRecDepth 100000 in
set_option maxHeartbeats 1000000 in
theorem setS_sign48 (a : Option Addr) (k : Nat) (w : World) : Calls Try.prog 89 #[.agg #[.int .u8 48, .slice a 0 k]] w fun e w' => TermEnd (.sign 48) e ∧ Below w.heap.size w w' := by
  go_enter Try.func89, Try.ntmps89
  go_wp2_with fail
  go_ret2
  exact ⟨⟨_, _, rfl, rfl, rfl⟩, (Below.refl _ _).alloc (Nat.le_refl _) _⟩
set_option maxRecDepth 100000 in
set_option maxHeartbeats 1000000 in
theorem setS_sign49 (a : Option Addr) (k : Nat) (w : World) : Calls Try.prog 89 #[.agg #[.int .u8 49, .slice a 0 k]] w fun e w' => TermEnd (.sign 49) e ∧ Below w.heap.size w w' := by
  go_enter Try.func89, Try.ntmps89
  go_wp2_with fail
  go_ret2
  exact ⟨⟨_, _, rfl, rfl, rfl⟩, (Below.refl _ _).alloc (Nat.le_refl _) _⟩
set_option maxRecDepth 100000 in
set_option maxHeartbeats 1000000 in
theorem setS_sign97 (a : Option Addr) (k : Nat) (w : World) : Calls Try.prog 89 #[.agg #[.int .u8 97, .slice a 0 k]] w fun e w' => TermEnd (.sign 97) e ∧ Below w.heap.size w w' := by
  go_enter Try.func89, Try.ntmps89
  go_wp2_with fail
  go_ret2
  exact ⟨⟨_, _, rfl, rfl, rfl⟩, (Below.refl _ _).alloc (Nat.le_refl _) _⟩
set_option maxRecDepth 100000 in
set_option maxHeartbeats 2000000 in
theorem setS_star (t : Tm) (g m : Nat) (c : UInt8) (a : Option Addr) (n k : Nat) (w : World) (hp : PartT w g 0 c a n k) (ho : tmOk t = true)
    (ih : ∀ W, Below w.heap.size w W → Calls Try.prog 89 #[.agg #[.int .u8 c.toNat, .slice a n k]] W fun e w' => TermEnd t e ∧ Below W.heap.size W w') :
    Calls Try.prog 89 #[.agg #[.int .u8 42, .slice (some ⟨g, 0, none⟩) 1 m]] w fun e w' => TermEnd (.star t) e ∧ Below w.heap.size w w' := by
  have HI := Lib.hid (ih (w.alloc (.cells #[.int .u8 42, .slice (some ⟨g, 0, none⟩) 1 m] 100)) ((Below.refl _ _).alloc (Nat.le_refl _) _))
  have hp2 := hp.alloc (.cells #[.int .u8 42, .slice (some ⟨g, 0, none⟩) 1 m] 100)
  have c0 := hp2.p
  have c1 := hp2.q
  clear ih hp hp2
  go_enter Try.func89, Try.ntmps89
  go_wp2_with fail
  refine HI.out.mono ?_
  rintro e w1 ⟨⟨U, b, rfl, hU⟩, hb⟩
  obtain ⟨d0, d1⟩ := box_later hb
  have HB := Lib.hid (((Below.refl w.heap.size w).alloc (Nat.le_refl _) _).trans (hb.mono (by simp)))
  have HU := Lib.hid hU
  clear c0 c1 hb hU
  cases b
  · have HN := Lib.hid (termText_false HU.out)
    go_wp2_with fail
    go_ret2
    exact ⟨⟨_, _, rfl, U, false, HU.out, by rw [HN.out]; exact star_none'⟩, HB.out⟩
  · go_wp2_with fail
    refine (specStar U w1 (termText_size ho HU.out)).mono ?_
    rintro e w2 ⟨⟨V, b, rfl, hV⟩, hb2⟩
    have HV := Lib.hid hV
    have HB2 := Lib.hid (HB.out.trans (hb2.mono HB.out.size))
    clear hV hb2 d0 d1
    go_wp2_with fail
    go_ret2
    exact ⟨⟨V, b, rfl, U, true, HU.out, HV.out⟩, HB2.out⟩
set_option maxRecDepth 100000 in
set_option maxHeartbeats 2000000 in
theorem setS_times50 (t : Tm) (g m : Nat) (c : UInt8) (a : Option Addr) (n k : Nat) (w : World) (hp : PartT w g 0 c a n k) (ho : tmOk t = true)
    (ih : ∀ W, Below w.heap.size w W → Calls Try.prog 89 #[.agg #[.int .u8 c.toNat, .slice a n k]] W fun e w' => TermEnd t e ∧ Below W.heap.size W w') :
    Calls Try.prog 89 #[.agg #[.int .u8 50, .slice (some ⟨g, 0, none⟩) 1 m]] w fun e w' => TermEnd (.times 50 t) e ∧ Below w.heap.size w w' := by
  have HI := Lib.hid (ih (w.alloc (.cells #[.int .u8 50, .slice (some ⟨g, 0, none⟩) 1 m] 100)) ((Below.refl _ _).alloc (Nat.le_refl _) _))
  have hp2 := hp.alloc (.cells #[.int .u8 50, .slice (some ⟨g, 0, none⟩) 1 m] 100)
  have c0 := hp2.p
  have c1 := hp2.q
  clear ih hp hp2
  go_enter Try.func89, Try.ntmps89
  go_wp2_with fail
  refine HI.out.mono ?_
  rintro e w1 ⟨⟨U, b, rfl, hU⟩, hb⟩
  obtain ⟨d0, d1⟩ := box_later hb
  have HB := Lib.hid (((Below.refl w.heap.size w).alloc (Nat.le_refl _) _).trans (hb.mono (by simp)))
  have HU := Lib.hid hU
  clear c0 c1 hb hU
  cases b
  · have HN := Lib.hid (termText_false HU.out)
    go_wp2_with fail
    go_ret2
    exact ⟨⟨_, _, rfl, U, false, HU.out, by rw [HN.out]; exact times_none⟩, HB.out⟩
  · go_wp2_with fail
    refine (specTimes U 2 w1 (termText_size ho HU.out)).mono ?_
    rintro e w2 ⟨⟨V, b, rfl, hV⟩, hb2⟩
    have HV := Lib.hid hV
    have HB2 := Lib.hid (HB.out.trans (hb2.mono HB.out.size))
    clear hV hb2 d0 d1
    go_wp2_with fail
    go_ret2
    exact ⟨⟨V, b, rfl, U, true, HU.out, HV.out⟩, HB2.out⟩
set_option maxRecDepth 100000 in
set_option maxHeartbeats 2000000 in
theorem setS_times51 (t : Tm) (g m : Nat) (c : UInt8) (a : Option Addr) (n k : Nat) (w : World) (hp : PartT w g 0 c a n k) (ho : tmOk t = true)
    (ih : ∀ W, Below w.heap.size w W → Calls Try.prog 89 #[.agg #[.int .u8 c.toNat, .slice a n k]] W fun e w' => TermEnd t e ∧ Below W.heap.size W w') :
    Calls Try.prog 89 #[.agg #[.int .u8 51, .slice (some ⟨g, 0, none⟩) 1 m]] w fun e w' => TermEnd (.times 51 t) e ∧ Below w.heap.size w w' := by
  have HI := Lib.hid (ih (w.alloc (.cells #[.int .u8 51, .slice (some ⟨g, 0, none⟩) 1 m] 100)) ((Below.refl _ _).alloc (Nat.le_refl _) _))
  have hp2 := hp.alloc (.cells #[.int .u8 51, .slice (some ⟨g, 0, none⟩) 1 m] 100)
  have c0 := hp2.p
  have c1 := hp2.q
  clear ih hp hp2
  go_enter Try.func89, Try.ntmps89
  go_wp2_with fail
  refine HI.out.mono ?_
  rintro e w1 ⟨⟨U, b, rfl, hU⟩, hb⟩
  obtain ⟨d0, d1⟩ := box_later hb
  have HB := Lib.hid (((Below.refl w.heap.size w).alloc (Nat.le_refl _) _).trans (hb.mono (by simp)))
  have HU := Lib.hid hU
  clear c0 c1 hb hU
  cases b
  · have HN := Lib.hid (termText_false HU.out)
    go_wp2_with fail
    go_ret2
    exact ⟨⟨_, _, rfl, U, false, HU.out, by rw [HN.out]; exact times_none⟩, HB.out⟩
  · go_wp2_with fail
    refine (specTimes U 3 w1 (termText_size ho HU.out)).mono ?_
    rintro e w2 ⟨⟨V, b, rfl, hV⟩, hb2⟩
    have HV := Lib.hid hV
    have HB2 := Lib.hid (HB.out.trans (hb2.mono HB.out.size))
    clear hV hb2 d0 d1
    go_wp2_with fail
    go_ret2
    exact ⟨⟨V, b, rfl, U, true, HU.out, HV.out⟩, HB2.out⟩
set_option maxRecDepth 100000 in
set_option maxHeartbeats 2000000 in
theorem setS_times52 (t : Tm) (g m : Nat) (c : UInt8) (a : Option Addr) (n k : Nat) (w : World) (hp : PartT w g 0 c a n k) (ho : tmOk t = true)
    (ih : ∀ W, Below w.heap.size w W → Calls Try.prog 89 #[.agg #[.int .u8 c.toNat, .slice a n k]] W fun e w' => TermEnd t e ∧ Below W.heap.size W w') :
    Calls Try.prog 89 #[.agg #[.int .u8 52, .slice (some ⟨g, 0, none⟩) 1 m]] w fun e w' => TermEnd (.times 52 t) e ∧ Below w.heap.size w w' := by
  have HI := Lib.hid (ih (w.alloc (.cells #[.int .u8 52, .slice (some ⟨g, 0, none⟩) 1 m] 100)) ((Below.refl _ _).alloc (Nat.le_refl _) _))
  have hp2 := hp.alloc (.cells #[.int .u8 52, .slice (some ⟨g, 0, none⟩) 1 m] 100)
  have c0 := hp2.p
  have c1 := hp2.q
  clear ih hp hp2
  go_enter Try.func89, Try.ntmps89
  go_wp2_with fail
  refine HI.out.mono ?_
  rintro e w1 ⟨⟨U, b, rfl, hU⟩, hb⟩
  obtain ⟨d0, d1⟩ := box_later hb
  have HB := Lib.hid (((Below.refl w.heap.size w).alloc (Nat.le_refl _) _).trans (hb.mono (by simp)))
  have HU := Lib.hid hU
  clear c0 c1 hb hU
  cases b
  · have HN := Lib.hid (termText_false HU.out)
    go_wp2_with fail
    go_ret2
    exact ⟨⟨_, _, rfl, U, false, HU.out, by rw [HN.out]; exact times_none⟩, HB.out⟩
  · go_wp2_with fail
    refine (specTimes U 4 w1 (termText_size ho HU.out)).mono ?_
    rintro e w2 ⟨⟨V, b, rfl, hV⟩, hb2⟩
    have HV := Lib.hid hV
    have HB2 := Lib.hid (HB.out.trans (hb2.mono HB.out.size))
    clear hV hb2 d0 d1
    go_wp2_with fail
    go_ret2
    exact ⟨⟨V, b, rfl, U, true, HU.out, HV.out⟩, HB2.out⟩
set_option maxRecDepth 100000 in
set_option maxHeartbeats 2000000 in
theorem setS_times53 (t : Tm) (g m : Nat) (c : UInt8) (a : Option Addr) (n k : Nat) (w : World) (hp : PartT w g 0 c a n k) (ho : tmOk t = true)
    (ih : ∀ W, Below w.heap.size w W → Calls Try.prog 89 #[.agg #[.int .u8 c.toNat, .slice a n k]] W fun e w' => TermEnd t e ∧ Below W.heap.size W w') :
    Calls Try.prog 89 #[.agg #[.int .u8 53, .slice (some ⟨g, 0, none⟩) 1 m]] w fun e w' => TermEnd (.times 53 t) e ∧ Below w.heap.size w w' := by
  have HI := Lib.hid (ih (w.alloc (.cells #[.int .u8 53, .slice (some ⟨g, 0, none⟩) 1 m] 100)) ((Below.refl _ _).alloc (Nat.le_refl _) _))
  have hp2 := hp.alloc (.cells #[.int .u8 53, .slice (some ⟨g, 0, none⟩) 1 m] 100)
  have c0 := hp2.p
  have c1 := hp2.q
  clear ih hp hp2
  go_enter Try.func89, Try.ntmps89
  go_wp2_with fail
  refine HI.out.mono ?_
  rintro e w1 ⟨⟨U, b, rfl, hU⟩, hb⟩
  obtain ⟨d0, d1⟩ := box_later hb
  have HB := Lib.hid (((Below.refl w.heap.size w).alloc (Nat.le_refl _) _).trans (hb.mono (by simp)))
  have HU := Lib.hid hU
  clear c0 c1 hb hU
  cases b
  · have HN := Lib.hid (termText_false HU.out)
    go_wp2_with fail
    go_ret2
    exact ⟨⟨_, _, rfl, U, false, HU.out, by rw [HN.out]; exact times_none⟩, HB.out⟩
  · go_wp2_with fail
    refine (specTimes U 5 w1 (termText_size ho HU.out)).mono ?_
    rintro e w2 ⟨⟨V, b, rfl, hV⟩, hb2⟩
    have HV := Lib.hid hV
    have HB2 := Lib.hid (HB.out.trans (hb2.mono HB.out.size))
    clear hV hb2 d0 d1
    go_wp2_with fail
    go_ret2
    exact ⟨⟨V, b, rfl, U, true, HU.out, HV.out⟩, HB2.out⟩
set_option maxRecDepth 100000 in
set_option maxHeartbeats 2000000 in
theorem setS_pair43 (l r : Tm) (g m : Nat) (c : UInt8) (a : Option Addr) (n k : Nat) (c2 : UInt8) (a2 : Option Addr) (n2 k2 : Nat) (w : World) (hp : PartT w g 0 c a n k) (hq : PartT w g 2 c2 a2 n2 k2) (hol : tmOk l = true) (hor : tmOk r = true)
    (ih : ∀ W, Below w.heap.size w W → Calls Try.prog 89 #[.agg #[.int .u8 c.toNat, .slice a n k]] W fun e w' => TermEnd l e ∧ Below W.heap.size W w')
    (ih2 : ∀ W, Below w.heap.size w W → Calls Try.prog 89 #[.agg #[.int .u8 c2.toNat, .slice a2 n2 k2]] W fun e w' => TermEnd r e ∧ Below W.heap.size W w') :
    Calls Try.prog 89 #[.agg #[.int .u8 43, .slice (some ⟨g, 0, none⟩) 2 m]] w fun e w' => TermEnd (.pair l 43 r) e ∧ Below w.heap.size w w' := by
  have HI := Lib.hid (ih (w.alloc (.cells #[.int .u8 43, .slice (some ⟨g, 0, none⟩) 2 m] 100)) ((Below.refl _ _).alloc (Nat.le_refl _) _))
  have H2 := Lib.hid ih2
  have HQ := Lib.hid hq
  have hp2 := hp.alloc (.cells #[.int .u8 43, .slice (some ⟨g, 0, none⟩) 2 m] 100)
  have c0 := hp2.p
  have c1 := hp2.q
  clear ih ih2 hp hq hp2
  go_enter Try.func89, Try.ntmps89
  go_wp2_with fail
  refine HI.out.mono ?_
  rintro e w1 ⟨⟨U, b, rfl, hU⟩, hb⟩
  obtain ⟨d0, d1⟩ := box_later hb
  have HB := Lib.hid (((Below.refl w.heap.size w).alloc (Nat.le_refl _) _).trans (hb.mono (by simp)))
  have hq1 := HQ.out.step HB.out
  have e0 := hq1.p
  have e1 := hq1.q
  have HD := Lib.hid (And.intro d0 d1)
  have HU := Lib.hid hU
  clear c0 c1 hb hq1 hU
  cases b
  · have HN := Lib.hid (termText_false HU.out)
    go_wp2_with fail
    go_ret2
    exact ⟨⟨_, _, rfl, U, false, HU.out, .inl ⟨rfl, rfl, rfl⟩⟩, HB.out⟩
  · go_wp2_with fail
    refine (H2.out _ HB.out).mono ?_
    rintro e w2 ⟨⟨V, b2, rfl, hV⟩, hb2⟩
    have f0 := (hb2.cell (p := ⟨w.heap.size, 0, none⟩) (lt_of_some HD.out.1)).trans HD.out.1
    have f1 := (hb2.cell (p := ⟨w.heap.size, 1, none⟩) (lt_of_some HD.out.1)).trans HD.out.2
    have HB2 := Lib.hid (HB.out.trans (hb2.mono HB.out.size))
    have HV := Lib.hid hV
    clear d0 d1 e0 e1 hb2 HD hV
    cases b2
    · have HN := Lib.hid (termText_false HV.out)
      go_wp2_with fail
      go_ret2
      exact ⟨⟨_, _, rfl, termText_pair HU.out HV.out (by rw [HN.out]; exact midIs_right)⟩, HB2.out⟩
    · go_wp2_with fail
      refine (specEither U V w2 (termText_size hol HU.out) (termText_size hor HV.out)).mono ?_
      rintro e w3 ⟨⟨X, b, rfl, hX⟩, hb3⟩
      have HX := Lib.hid hX
      have HB3 := Lib.hid (HB2.out.trans (hb3.mono HB2.out.size))
      clear hX hb3 f0 f1
      go_wp2_with fail
      go_ret2
      exact ⟨⟨X, b, rfl, termText_pair HU.out HV.out HX.out⟩, HB3.out⟩
set_option maxRecDepth 100000 in
set_option maxHeartbeats 2000000 in
theorem setS_pair46 (l r : Tm) (g m : Nat) (c : UInt8) (a : Option Addr) (n k : Nat) (c2 : UInt8) (a2 : Option Addr) (n2 k2 : Nat) (w : World) (hp : PartT w g 0 c a n k) (hq : PartT w g 2 c2 a2 n2 k2) (hol : tmOk l = true) (hor : tmOk r = true)
    (ih : ∀ W, Below w.heap.size w W → Calls Try.prog 89 #[.agg #[.int .u8 c.toNat, .slice a n k]] W fun e w' => TermEnd l e ∧ Below W.heap.size W w')
    (ih2 : ∀ W, Below w.heap.size w W → Calls Try.prog 89 #[.agg #[.int .u8 c2.toNat, .slice a2 n2 k2]] W fun e w' => TermEnd r e ∧ Below W.heap.size W w') :
    Calls Try.prog 89 #[.agg #[.int .u8 46, .slice (some ⟨g, 0, none⟩) 2 m]] w fun e w' => TermEnd (.pair l 46 r) e ∧ Below w.heap.size w w' := by
  have HI := Lib.hid (ih (w.alloc (.cells #[.int .u8 46, .slice (some ⟨g, 0, none⟩) 2 m] 100)) ((Below.refl _ _).alloc (Nat.le_refl _) _))
  have H2 := Lib.hid ih2
  have HQ := Lib.hid hq
  have hp2 := hp.alloc (.cells #[.int .u8 46, .slice (some ⟨g, 0, none⟩) 2 m] 100)
  have c0 := hp2.p
  have c1 := hp2.q
  clear ih ih2 hp hq hp2
  go_enter Try.func89, Try.ntmps89
  go_wp2_with fail
  refine HI.out.mono ?_
  rintro e w1 ⟨⟨U, b, rfl, hU⟩, hb⟩
  obtain ⟨d0, d1⟩ := box_later hb
  have HB := Lib.hid (((Below.refl w.heap.size w).alloc (Nat.le_refl _) _).trans (hb.mono (by simp)))
  have hq1 := HQ.out.step HB.out
  have e0 := hq1.p
  have e1 := hq1.q
  have HD := Lib.hid (And.intro d0 d1)
  have HU := Lib.hid hU
  clear c0 c1 hb hq1 hU
  cases b
  · have HN := Lib.hid (termText_false HU.out)
    go_wp2_with fail
    go_ret2
    exact ⟨⟨_, _, rfl, U, false, HU.out, .inl ⟨rfl, rfl, rfl⟩⟩, HB.out⟩
  · go_wp2_with fail
    refine (H2.out _ HB.out).mono ?_
    rintro e w2 ⟨⟨V, b2, rfl, hV⟩, hb2⟩
    have f0 := (hb2.cell (p := ⟨w.heap.size, 0, none⟩) (lt_of_some HD.out.1)).trans HD.out.1
    have f1 := (hb2.cell (p := ⟨w.heap.size, 1, none⟩) (lt_of_some HD.out.1)).trans HD.out.2
    have HB2 := Lib.hid (HB.out.trans (hb2.mono HB.out.size))
    have HV := Lib.hid hV
    clear d0 d1 e0 e1 hb2 HD hV
    cases b2
    · have HN := Lib.hid (termText_false HV.out)
      go_wp2_with fail
      go_ret2
      exact ⟨⟨_, _, rfl, termText_pair HU.out HV.out (by rw [HN.out]; exact midIs_right)⟩, HB2.out⟩
    · go_wp2_with fail
      refine (specSum U V w2 (termText_size hol HU.out) (termText_size hor HV.out)).mono ?_
      rintro e w3 ⟨⟨X, b, rfl, hX⟩, hb3⟩
      have HX := Lib.hid hX
      have HB3 := Lib.hid (HB2.out.trans (hb3.mono HB2.out.size))
      clear hX hb3 f0 f1
      go_wp2_with fail
      go_ret2
      exact ⟨⟨X, b, rfl, termText_pair HU.out HV.out HX.out⟩, HB3.out⟩
set_option maxRecDepth 100000 in
set_option maxHeartbeats 2000000 in
theorem setS_pair38 (l r : Tm) (g m : Nat) (c : UInt8) (a : Option Addr) (n k : Nat) (c2 : UInt8) (a2 : Option Addr) (n2 k2 : Nat) (w : World) (hp : PartT w g 0 c a n k) (hq : PartT w g 2 c2 a2 n2 k2) (hol : tmOk l = true) (hor : tmOk r = true)
    (ih : ∀ W, Below w.heap.size w W → Calls Try.prog 89 #[.agg #[.int .u8 c.toNat, .slice a n k]] W fun e w' => TermEnd l e ∧ Below W.heap.size W w')
    (ih2 : ∀ W, Below w.heap.size w W → Calls Try.prog 89 #[.agg #[.int .u8 c2.toNat, .slice a2 n2 k2]] W fun e w' => TermEnd r e ∧ Below W.heap.size W w') :
    Calls Try.prog 89 #[.agg #[.int .u8 38, .slice (some ⟨g, 0, none⟩) 2 m]] w fun e w' => TermEnd (.pair l 38 r) e ∧ Below w.heap.size w w' := by
  have HI := Lib.hid (ih (w.alloc (.cells #[.int .u8 38, .slice (some ⟨g, 0, none⟩) 2 m] 100)) ((Below.refl _ _).alloc (Nat.le_refl _) _))
  have H2 := Lib.hid ih2
  have HQ := Lib.hid hq
  have hp2 := hp.alloc (.cells #[.int .u8 38, .slice (some ⟨g, 0, none⟩) 2 m] 100)
  have c0 := hp2.p
  have c1 := hp2.q
  clear ih ih2 hp hq hp2
  go_enter Try.func89, Try.ntmps89
  go_wp2_with fail
  refine HI.out.mono ?_
  rintro e w1 ⟨⟨U, b, rfl, hU⟩, hb⟩
  obtain ⟨d0, d1⟩ := box_later hb
  have HB := Lib.hid (((Below.refl w.heap.size w).alloc (Nat.le_refl _) _).trans (hb.mono (by simp)))
  have hq1 := HQ.out.step HB.out
  have e0 := hq1.p
  have e1 := hq1.q
  have HD := Lib.hid (And.intro d0 d1)
  have HU := Lib.hid hU
  clear c0 c1 hb hq1 hU
  cases b
  · have HN := Lib.hid (termText_false HU.out)
    go_wp2_with fail
    go_ret2
    exact ⟨⟨_, _, rfl, U, false, HU.out, .inl ⟨rfl, rfl, rfl⟩⟩, HB.out⟩
  · go_wp2_with fail
    refine (H2.out _ HB.out).mono ?_
    rintro e w2 ⟨⟨V, b2, rfl, hV⟩, hb2⟩
    have f0 := (hb2.cell (p := ⟨w.heap.size, 0, none⟩) (lt_of_some HD.out.1)).trans HD.out.1
    have f1 := (hb2.cell (p := ⟨w.heap.size, 1, none⟩) (lt_of_some HD.out.1)).trans HD.out.2
    have HB2 := Lib.hid (HB.out.trans (hb2.mono HB.out.size))
    have HV := Lib.hid hV
    clear d0 d1 e0 e1 hb2 HD hV
    cases b2
    · have HN := Lib.hid (termText_false HV.out)
      go_wp2_with fail
      go_ret2
      exact ⟨⟨_, _, rfl, termText_pair HU.out HV.out (by rw [HN.out]; exact midIs_right)⟩, HB2.out⟩
    · go_wp2_with fail
      refine (specBoth U V w2 (termText_size hol HU.out) (termText_size hor HV.out)).mono ?_
      rintro e w3 ⟨⟨X, b, rfl, hX⟩, hb3⟩
      have HX := Lib.hid hX
      have HB3 := Lib.hid (HB2.out.trans (hb3.mono HB2.out.size))
      clear hX hb3 f0 f1
      go_wp2_with fail
      go_ret2
      exact ⟨⟨X, b, rfl, termText_pair HU.out HV.out HX.out⟩, HB3.out⟩

/-- The walk of spec.l7Set, whatever the term. -/
theorem setS_any : ∀ (t : Tm) (B : Nat) (v : Value) (w : World), tmOk t = true → IsT B w t v → Calls Try.prog 89 #[v] w fun e w' => TermEnd t e ∧ Below w.heap.size w w' := by
  intro t
  induction t with
  | sign c =>
    rintro B v w ho ⟨a, k, rfl⟩
    rcases one_cases ho with rfl | rfl | rfl
    · exact setS_sign48 a k w
    · exact setS_sign49 a k w
    · exact setS_sign97 a k w
  | star t ih =>
    rintro B v w ho ⟨g, m, x, rfl, _, hx, hT⟩
    obtain ⟨c, a, n, k, rfl, hp⟩ := part_of hx hT
    exact setS_star t g m c a n k w hp ho (fun W hb => ih B _ W ho (hT.step hb))
  | times d t ih =>
    rintro B v w ho ⟨g, m, x, rfl, _, hx, hT⟩
    rw [tmOk, Bool.and_eq_true] at ho
    obtain ⟨c, a, n, k, rfl, hp⟩ := part_of hx hT
    have ih' := fun W (hb : Below w.heap.size w W) => ih B _ W ho.2 (hT.step hb)
    rcases dig_cases ho.1 with rfl | rfl | rfl | rfl
    · exact setS_times50 t g m c a n k w hp ho.2 ih'
    · exact setS_times51 t g m c a n k w hp ho.2 ih'
    · exact setS_times52 t g m c a n k w hp ho.2 ih'
    · exact setS_times53 t g m c a n k w hp ho.2 ih'
  | pair l s r ihl ihr =>
    rintro B v w ho ⟨g, m, x, y, rfl, _, hx, hT, hy, hU⟩
    rw [tmOk, Bool.and_eq_true, Bool.and_eq_true] at ho
    obtain ⟨c, a, n, k, rfl, hp⟩ := part_of hx hT
    obtain ⟨c2, a2, n2, k2, rfl, hq⟩ := part_of hy hU
    have ih1 := fun W (hb : Below w.heap.size w W) => ihl B _ W ho.1 (hT.step hb)
    have ih2 := fun W (hb : Below w.heap.size w W) => ihr B _ W ho.2.2 (hU.step hb)
    rcases mid_cases ho.2.1 with rfl | rfl | rfl
    · exact setS_pair43 l r g m c a n k c2 a2 n2 k2 w hp hq ho.1 ho.2.2 ih1 ih2
    · exact setS_pair46 l r g m c a n k c2 a2 n2 k2 w hp hq ho.1 ho.2.2 ih1 ih2
    · exact setS_pair38 l r g m c a n k c2 a2 n2 k2 w hp hq ho.1 ho.2.2 ih1 ih2

set_option maxRecDepth 100000 in
set_option maxHeartbeats 1000000 in
theorem specTermSet (s : ByteArray) (w : World) : Calls Try.prog 48 #[.string s] w fun e w' => (∃ T b, e = .returned (.tuple #[.string T, .bool b]) ∧ TextOf s T b) ∧ Below w.heap.size w w' := by
  have HI := Lib.hid (fun w => l7Of_any s w)
  cases h : termOf s.data.toList with
  | none =>
    have HE := Lib.hid (textOf_none h)
    rw [h] at HI
    clear h
    go_enter Try.func48, Try.ntmps48
    go_wp2_with fail
    refine (HI.out _).mono ?_
    rintro e w1 ⟨he, hb⟩
    obtain ⟨c, a, n, k, rfl, _⟩ := he.form
    have HB := Lib.hid (hb.alloc hb.size (.cells #[.int .u8 c.toNat, .slice a n k] 100))
    clear he hb
    go_wp2_with fail
    go_ret2
    exact ⟨⟨_, _, rfl, HE.out⟩, HB.out⟩
  | some t =>
    have HE := Lib.hid (fun T b => textOf_some (T := T) (b := b) h)
    rw [h] at HI
    obtain ⟨_, ho, _⟩ := termOf_some h
    have HT := Lib.hid (fun B v w hI => setS_any t B v w ho hI)
    clear h ho
    go_enter Try.func48, Try.ntmps48
    go_wp2_with fail
    refine (HI.out _).mono ?_
    rintro e w1 ⟨he, hb⟩
    obtain ⟨c, a, n, k, rfl, hI⟩ := he.form
    have HB := Lib.hid (hb.alloc hb.size (.cells #[.int .u8 c.toNat, .slice a n k] 100))
    have HX := Lib.hid (HT.out _ _ (w1.alloc (.cells #[.int .u8 c.toNat, .slice a n k] 100)) ((hI t rfl).step ((Below.refl _ _).alloc (Nat.le_refl _) _)))
    clear he hb hI
    go_wp2_with fail
    refine HX.out.mono ?_
    rintro e w2 ⟨⟨V, b, rfl, hV⟩, hb2⟩
    have HV := Lib.hid hV
    have HB2 := Lib.hid (HB.out.trans (hb2.mono HB.out.size))
    clear hV hb2
    go_wp2_with fail
    go_ret2
    exact ⟨⟨V, b, rfl, (HE.out V b).2 HV.out⟩, HB2.out⟩

set_option maxRecDepth 100000 in
set_option maxHeartbeats 1000000 in
theorem specTermSame (s t : ByteArray) (w : World) : Calls Try.prog 55 #[.string s, .string t] w fun e w' => (∃ T b U c, e = .returned (.bool (b && (c && decide (T = U)))) ∧ TextOf s T b ∧ TextOf t U c) ∧ Below w.heap.size w w' := by
  go_enter Try.func55, Try.ntmps55
  go_wp2_with fail
  refine (specTermSet s w).mono ?_
  rintro e w1 ⟨⟨T, b, rfl, hT⟩, hb⟩
  have HT := Lib.hid hT
  have HB := Lib.hid hb
  clear hT hb
  go_wp2_with fail
  refine (specTermSet t w1).mono ?_
  rintro e w2 ⟨⟨U, c, rfl, hU⟩, hb2⟩
  have HU := Lib.hid hU
  have HB2 := Lib.hid (HB.out.trans (hb2.mono HB.out.size))
  clear hU hb2
  cases b
  · go_wp2_with fail
    go_ret
    exact ⟨⟨T, false, U, c, rfl, HT.out, HU.out⟩, HB2.out⟩
  · cases c
    · go_wp2_with fail
      go_ret
      exact ⟨⟨T, true, U, false, rfl, HT.out, HU.out⟩, HB2.out⟩
    · by_cases hTU : T = U
      · have hd : decide (T = U) = true := decide_eq_true hTU
        have HD := Lib.hid hd
        have hl : T.toList = U.toList := by rw [hTU]
        have hl2 : (T.toList == U.toList) = true := by rw [hl]; simp
        clear hTU hd
        go_wp2_with fail
        go_ret
        exact ⟨⟨T, true, U, true, by rw [HD.out]; rfl, HT.out, HU.out⟩, HB2.out⟩
      · have hd : decide (T = U) = false := decide_eq_false hTU
        have HD := Lib.hid hd
        have hl : ¬ T.toList = U.toList := fun e => hTU (by
          rw [Lib.toList_data, Lib.toList_data] at e
          exact ByteArray.ext (Array.ext' e))
        have hl2 : (T.toList == U.toList) = false := by simpa using hl
        clear hTU hd
        go_wp2_with fail
        go_ret
        exact ⟨⟨T, true, U, true, by rw [HD.out]; rfl, HT.out, HU.out⟩, HB2.out⟩

end Go.Proofs.Ytiphooodijbhiaa

namespace Go.Proofs.Ytiphooodijbhiaa
open Go.RowKit

theorem numberIn_yes (n : Int) (w : World) (h : 0 ≤ n) (h2 : n ≤ 1000) :
    Calls Try.prog 90 #[.int .i64 n] w fun e w' => e = .returned (.bool true) ∧ w = w' := by
  go_enter Try.func90, Try.ntmps90
  go_wp2
  go_ret
  exact ⟨rfl, rfl⟩

theorem numberIn_no (n : Int) (w : World) (h : n < 0 ∨ 1000 < n) :
    Calls Try.prog 90 #[.int .i64 n] w fun e w' => e = .returned (.bool false) ∧ w = w' := by
  rcases h with h | h
  · go_enter Try.func90, Try.ntmps90
    go_wp2
    go_ret
    exact ⟨rfl, rfl⟩
  · have h0 : 0 ≤ n := by omega
    have hd : decide (n ≤ 1000) = false := decide_eq_false (by omega)
    go_enter Try.func90, Try.ntmps90
    go_wp2
    go_ret
    exact ⟨rfl, rfl⟩

end Go.Proofs.Ytiphooodijbhiaa

namespace Go.Proofs.Ytiphooodijbhiaa
open Go.RowKit

/-- The numbers of a set that are less than n. -/
def listN (t r : List Bool) (n : Nat) : List Int := ((List.range n).filter (hasB t r)).map fun (k : Nat) => (k : Int)
theorem listN_succ (t r : List Bool) (k : Nat) : listN t r (k + 1) = if hasB t r k = true then listN t r k ++ [(k : Int)] else listN t r k := by
  unfold listN
  rw [List.range_succ, List.filter_append]
  by_cases h : hasB t r k = true
  · rw [if_pos h]; simp [h]
  · rw [if_neg h]; simp [h]
theorem listN_hit {t r : List Bool} {k : Nat} (h : hasB t r k = true) : listN t r (k + 1) = listN t r k ++ [(k : Int)] := by rw [listN_succ, if_pos h]
theorem listN_miss {t r : List Bool} {k : Nat} (h : hasB t r k = false) : listN t r (k + 1) = listN t r k := by rw [listN_succ, if_neg (by rw [h]; decide)]
theorem listN_le (t r : List Bool) (n : Nat) : (listN t r n).length ≤ n := by
  unfold listN; rw [List.length_map]; exact Nat.le_trans (List.length_filter_le _ _) (by simp)
theorem ints_snoc (l : List Int) (x : Int) : ints (l ++ [x]) = ints l ++ [.int .i64 x] := by simp [ints]

theorem list_start (w : World) (o : Obj) : ((w.alloc o).alloc (.cells #[] 3)).ownsRow (w.heap.size + 1) 3 1 (.slice (some ⟨w.heap.size + 1, 0, none⟩) 0 0) 0 [] := by
  have h := World.ownsRow_made (base := w.heap.size + 1) (e := 3) (size := 1) (w.alloc o) #[] 0 (by simp) (by decide) rfl
  simp at h
  exact h

/-- Own row of the call's, behind an append. -/
theorem list_rel {t r : List Bool} {k B T0 : Nat} {W wr w1 : World} {u v' : Value} {o : Obj} (hv : hasB t r k = true)
    (hown : wr.ownsRow T0 3 1 u (listN t r k).length (ints (listN t r k))) (hnx : Below B W wr) (hBT : B ≤ T0) (hBs : B ≤ wr.heap.size)
    (hown' : w1.ownsRow T0 3 1 v' ((listN t r k).length + 1) (ints (listN t r k) ++ [.int .i64 k])) (hgrow : (wr.alloc o).grownBy w1 u.ownBlock) :
    w1.ownsRow T0 3 1 v' (listN t r (k + 1)).length (ints (listN t r (k + 1))) ∧ Below B W w1 := by
  refine ⟨by rw [listN_hit hv, ints_snoc, List.length_append]; exact hown', ?_⟩
  exact (hnx.alloc hBs o).grown hgrow (by simp; omega) (fun j hj => Nat.le_trans hBT (hown.lt j hj).1)

/-- Are s a set text and n a number from 0 to 1000? -/
def inN (s : ByteArray) (n : Int) : Bool := okS s && (decide (0 ≤ n) && decide (n ≤ 1000))
/-- What SetList answers. -/
def listV (s : ByteArray) (n : Int) : List Int := if inN s n = true then listN (setT s) (setR s) n.toNat else []
theorem inN_cases (s : ByteArray) (n : Int) : (inN s n = false ∧ listV s n = [] ∧ (okS s = false ∨ n < 0 ∨ 1000 < n)) ∨
    ∃ k : Nat, inN s n = true ∧ n = k ∧ k ≤ 1000 ∧ okS s = true ∧ listV s n = listN (setT s) (setR s) k := by
  cases h : inN s n
  · refine .inl ⟨rfl, by unfold listV; rw [h]; rfl, ?_⟩
    unfold inN at h
    cases hok : okS s
    · exact .inl rfl
    · right
      rw [hok, Bool.true_and, Bool.and_eq_false_iff, decide_eq_false_iff_not, decide_eq_false_iff_not] at h
      omega
  · have h2 := h
    unfold inN at h2
    simp only [Bool.and_eq_true, decide_eq_true_eq] at h2
    obtain ⟨k, rfl⟩ := Int.eq_ofNat_of_zero_le h2.2.1
    exact .inr ⟨k, rfl, rfl, by omega, h2.1, by unfold listV; rw [h, if_pos rfl]; rfl⟩
theorem listV_le (s : ByteArray) (n : Int) : (listV s n).length ≤ 1000 := by
  rcases inN_cases s n with ⟨_, h, _⟩ | ⟨k, _, _, hk, _, h⟩
  · rw [h]; exact Nat.zero_le _
  · rw [h]; exact Nat.le_trans (listN_le _ _ _) hk

/-- A list of the call's own, and whether it counts. -/
def ListOut (l : List Int) (b : Bool) (w : World) (e : Ending) (w' : World) : Prop :=
  ∃ a c, e = .returned (.tuple #[.slice a l.length c, .bool b]) ∧ Below w.heap.size w w' ∧ w'.ownsRow w.heap.size 3 1 (.slice a l.length c) l.length (ints l)
theorem own_empty {w w1 : World} (hb : Below w.heap.size w w1) (o : Obj) : ((w1.alloc o).alloc (.cells #[] 3)).ownsRow w.heap.size 3 1 (.slice (some ⟨w1.heap.size + 1, 0, none⟩) 0 0) 0 [] :=
  own_base (list_start w1 o) (by have := hb.size; omega)
theorem below_empty {w w1 : World} (hb : Below w.heap.size w w1) (o o2 : Obj) : Below w.heap.size w ((w1.alloc o).alloc o2) := (hb.alloc hb.size _).alloc (by have := hb.size; simp; omega) _

set_option maxRecDepth 100000 in
set_option maxHeartbeats 1000000 in
theorem implList (s : ByteArray) (n m : Int) (w : World) (hs : s.size ≤ 1048576) (hL : LibAt m w) :
    Calls Try.prog 49 #[.string s, .int .i64 n] w (ListOut (listV s n) (inN s n) w) := by
  rcases inN_cases s n with ⟨hb, hl, h⟩ | ⟨z, hb, rfl, hz, hok, hl⟩
  · rw [hb, hl]
    cases hok : okS s
    · go_enter Try.func49, Try.ntmps49
      go_wp2_with fail
      refine (split_off s m _ hs hL hok).mono ?_
      rintro e w1 ⟨rfl, hb⟩
      go_wp2
      go_ret2
      exact ⟨_, _, rfl, below_empty hb _ _, own_empty hb _⟩
    · have h' : n < 0 ∨ 1000 < n := by rcases h with h | h; rw [hok] at h; cases h; exact h
      go_enter Try.func49, Try.ntmps49
      go_wp2_with fail
      refine (split_on s m _ hs hL hok).mono ?_
      rintro e w1 ⟨T, R, rfl, hb, _⟩
      go_wp2_with fail
      refine (numberIn_no n _ h').mono ?_
      rintro e w2 ⟨rfl, rfl⟩
      go_wp2
      go_ret2
      exact ⟨_, _, rfl, below_empty hb _ _, own_empty hb _⟩
  · rw [hb, hl]
    clear hb hl
    obtain ⟨i0, hi, hz0, hz1, hz2⟩ := info_parts Try.infoInt
    go_enter Try.func49, Try.ntmps49
    go_wp2_with fail
    refine (split_on s m _ hs hL hok).mono ?_
    rintro e w0 ⟨T, R, rfl, hb, hsp⟩
    have HS := Lib.hid hsp
    clear hsp
    go_wp2_with fail
    refine (numberIn_yes z _ (by omega) (by omega)).mono ?_
    rintro e w2 ⟨rfl, rfl⟩
    go_wp2
    go_loopw [8, 25] (fun v i wr => ∃ k : Nat, k ≤ z ∧ i = .int .i64 k ∧ Below (w0.alloc (.cells #[.string T, .string R] 84)).heap.size (w0.alloc (.cells #[.string T, .string R] 84)) wr ∧
        wr.ownsRow (w0.heap.size + 1) 3 1 v (listN (setT s) (setR s) k).length (ints (listN (setT s) (setR s) k)))
      (fun _ i _ => z - (intOf i).toNat)
    case atStart => exact ⟨0, Nat.zero_le _, rfl, (Below.refl _ _).alloc (Nat.le_refl _) _, list_start _ _⟩
    case round =>
      obtain ⟨k, hk, rfl, hB, hown⟩ := hrel
      obtain ⟨q0, q1⟩ := box_later hB
      have hsz := hB.size
      simp at hsz
      have hle := listN_le (setT s) (setR s) k
      by_cases hlt : k < z
      · cases hv : hasB (setT s) (setR s) k
        · have hv' : hasI (setT s) (setR s) (k : Int) = false := by rw [hasI_nat]; exact hv
          have HV := Lib.hid hv
          have HB := Lib.hid hB
          have HO := Lib.hid hown
          clear hv hB hown
          go_wp2_with fail
          refine (has_on s T R k _ HS.out (by omega)).mono ?_
          rintro e w3 ⟨rfl, hb3⟩
          have HB3 := Lib.hid hb3
          clear hb3
          go_wp2
          go_roundw
          case rel => exact ⟨k + 1, by omega, by go_num, HB.out.trans (HB3.out.mono HB.out.size), by rw [listN_miss HV.out]; exact own_below HO.out HB3.out (Nat.le_refl _)⟩
          case measure => simp [intOf]; omega
        · have hv' : hasI (setT s) (setR s) (k : Int) = true := by rw [hasI_nat]; exact hv
          have HV := Lib.hid hv
          have HB := Lib.hid hB
          have HO := Lib.hid hown
          clear hv hB hown
          go_wp2_with fail
          refine (has_on s T R k _ HS.out (by omega)).mono ?_
          rintro e w3 ⟨rfl, hb3⟩
          have hsz3 := hb3.size
          have HB3 := Lib.hid (HB.out.trans (hb3.mono HB.out.size))
          have hown3 := own_below HO.out hb3 (Nat.le_refl _)
          clear hb3 HO
          go_wp2_with
            (at_builtin; refine wpList_append_own _ rfl _ _ 23 rfl (w0.heap.size + 1) 3 i0 (.int .i64 0) 1 8 Try.underlying23 hi hz0 hz1 hz2 rfl (by decide) _ _ _ rfl (hown3.alloc _) ⟨w3.heap.size, 0, none⟩ 1 1 [.int .i64 k] rfl rfl ?c1 ?c2 ?c3 ?c4 ?c5 ?_)
          case c1 =>
            intro j u hj
            match j, hj with
            | 0, hj => simp at hj; subst hj; simp [Addr.add]
          case c2 => intro u hu; simp at hu; subst hu; rfl
          case c3 => unfold maxLen; omega
          case c4 => omega
          case c5 => simp; omega
          intro v' w4 hown4 hgrow _
          have R := list_rel HV.out hown3 HB3.out (by simp) (by simp; omega) hown4 hgrow
          clear hown4 hgrow hown3
          go_wp2
          go_roundw
          case rel => exact ⟨k + 1, by omega, by go_num, R.2, R.1⟩
          case measure => simp [intOf]; omega
      · obtain rfl : k = z := by omega
        obtain ⟨a, c, rfl⟩ := own_form hown
        go_wp2
        go_ret2
        exact ⟨a, c, rfl, box_below hb hB, own_base hown (by have := hb.size; omega)⟩

end Go.Proofs.Ytiphooodijbhiaa

namespace Go.Proofs.Ytiphooodijbhiaa
open Go.RowKit
set_option linter.unusedVariables false

set_option maxHeartbeats 400000 in
theorem sameInts_same (a1 a2 : Option Addr) (n c1 c2 : Nat) (zs : List Int) (w : World) (h1 : ReadsI w a1 n zs) (h2 : ReadsI w a2 n zs) (hn : n ≤ 1048576) :
    Calls Try.prog 46 #[.slice a1 n c1, .slice a2 n c2] w fun e w' => e = .returned (.bool true) ∧ ∃ nd, w' = w.drewN nd := by
  have H1 := Lib.hid h1
  have H2 := Lib.hid h2
  clear h1 h2
  go_enter Try.func46, Try.ntmps46
  go_wp2
  go_loopw [5] (fun i wr => ∃ k : Nat, k ≤ n ∧ i = .int .i64 k ∧ ∃ nd, wr = w.drewN nd) (fun i _ => n - (intOf i).toNat)
  case atStart => exact ⟨0, Nat.zero_le _, rfl, 0, rfl⟩
  case round =>
    obtain ⟨k, hk, rfl, nd, rfl⟩ := hrel
    by_cases hlt : k < n
    · rcases H1.out.cells with h | ⟨g1, o1, rfl, hg1, hc1⟩
      · omega
      rcases H2.out.cells with h | ⟨g2, o2, rfl, hg2, hc2⟩
      · omega
      have q1 := hc1 k hlt
      have q2 := hc2 k hlt
      clear hc1 hc2
      have b1 : (k : Int) < (n : Int) := by omega
      have b2 : (0 : Int) ≤ (k : Int) := by omega
      go_wp2
      go_quiet (fail)
      go_wp2
      go_roundw
      case rel => exact ⟨k + 1, by omega, by go_num, _, rfl⟩
      case measure => simp [intOf]; omega
    · go_wp2
      go_ret
      exact ⟨rfl, nd, rfl⟩
end Go.Proofs.Ytiphooodijbhiaa

set_option linter.unusedVariables false
set_option linter.unusedSimpArgs false
namespace Go.Proofs.Ytiphooodijbhiaa
open Go.RowKit

theorem sameB (a1 a2 : Option Addr) (n c1 c2 : Nat) (zs : List Int) (w : World) (h1 : ReadsI w a1 n zs) (h2 : ReadsI w a2 n zs) (hn : n ≤ 1048576) :
    Calls Try.prog 46 #[.slice a1 n c1, .slice a2 n c2] w fun e w' => e = .returned (.bool true) ∧ Below w.heap.size w w' := by
  refine (sameInts_same a1 a2 n c1 c2 zs w h1 h2 hn).mono ?_
  rintro e w' ⟨rfl, nd, rfl⟩
  exact ⟨rfl, below_drewN (Below.refl _ _) nd⟩
theorem list_of {T : ByteArray} {f : Nat → Bool} (h : okS T = true) (hf : fS T = f) : listV T 100 = listF f 100 ∧ inN T 100 = true := by
  have e : inN T 100 = true := by unfold inN; rw [h]; rfl
  refine ⟨?_, e⟩
  unfold listV
  rw [if_pos e, ← hf]; rfl

set_option maxRecDepth 100000 in
set_option maxHeartbeats 4000000 in
theorem drawTermSet (a : Option Addr) (n c : Nat) (w : World) (h : Bytes w a n) (hn : n ≤ 1048576) (hc : n ≤ c) :
    Calls Try.prog 47 #[.slice a n c] w fun e w' => ∃ s : ByteArray, e = .returned (.string s) ∧ s.size ≤ 30 ∧ Below w.heap.size w w' := by
  go_enter Try.func47, Try.ntmps47
  go_wp2_with fail
  refine (open_rd a n c _ h hn hc).mono ?_
  rintro e w1 ⟨n', rfl, hrd, hap⟩
  go_wp2_with fail
  refine (said_rd hrd (by omega)).mono ?_
  rintro e w2 ⟨s, p2, rfl, hs, hp2, hrd2, hap2⟩
  go_wp2
  go_ret
  exact ⟨s, rfl, hs, (hap.trans hap2).below⟩

set_option maxRecDepth 100000 in
set_option maxHeartbeats 4000000 in
theorem pTermSet (a : Option Addr) (n c : Nat) (zs : List Int) (w : World) (hr : IsRow .u8 w a n c zs) (m : Int) (hg : 0 < w.heap.size) (hm : w.cell? ⟨0, 0, none⟩ = some (.int .i64 m)) :
    Calls Try.prog 11 #[.slice a n c] w fun e w' => e = .returned (.bool true) ∧ Below w.heap.size w w' := by
  by_cases hn : n ≤ 1048576
  · have hL : LibAt m w := ⟨hg, hm⟩
    clear hg hm
    have hB := Lib.hid hr.bytes
    have hC := Lib.hid hr.cap
    clear hr
    go_enter Try.func11, Try.ntmps11
    go_wp2_with fail
    refine (drawTermSet a n c _ hB.out hn hC.out).mono ?_
    rintro e w1 ⟨s, rfl, hs, hb1⟩
    have HB1 := Lib.hid hb1
    have HL1 := Lib.hid (hL.below hb1)
    clear hb1
    go_wp2_with fail
    refine (implTermSet s m _ HL1.out).mono ?_
    rintro e w2 ⟨⟨T, b, rfl, hm2⟩, hx2⟩
    have HB2 := Lib.hid (below_step HB1.out hx2)
    have HL2 := Lib.hid (HL1.out.below hx2)
    have HM := Lib.hid hm2
    have hTs := textOf_size hm2
    clear hm2
    clear hx2
    go_wp2_with fail
    refine (specTermSet s _).mono ?_
    rintro e w3 ⟨⟨U, c, rfl, hm3⟩, hx3⟩
    have HB3 := Lib.hid (below_step HB2.out hx3)
    have HL3 := Lib.hid (HL2.out.below hx3)
    obtain ⟨rfl, rfl⟩ := textOf_unique HM.out hm3
    clear hm3
    clear hx3
    cases b
    · go_wp2
      go_ret
      exact ⟨ret_bool (by simp), HB3.out⟩
    · obtain ⟨t, ht, ho, hTT⟩ := text_says HM.out
      have H1 := Lib.hid (fun W hL => implTermList s 100 m W hL)
      have H2 := Lib.hid (fun W hL => implList T 100 m W hTs hL)
      have H3 := Lib.hid (fun W hL => implTidy_on T T m W hTs hL hTT.told.ok (by rw [hTT.told.set]; exact hTT))
      rw [(show tlistV s 100 = listF (tmF t) 100 ∧ tlistB s 100 = true from tlist_in (k := 100) ht (by decide)).1, (show tlistV s 100 = listF (tmF t) 100 ∧ tlistB s 100 = true from tlist_in (k := 100) ht (by decide)).2] at H1
      rw [(list_of hTT.told.ok hTT.told.set).1, (list_of hTT.told.ok hTT.told.set).2] at H2
      have hle := listF_le (tmF t) 100
      obtain ⟨L, hLd⟩ : ∃ L, L = listF (tmF t) 100 := ⟨_, rfl⟩
      rw [← hLd] at H1 H2 hle
      clear hLd ht ho hTT
      go_wp2_with fail
      refine (H1.out _ HL3.out).mono ?_
      rintro e w4 ⟨la2, lc2, rfl, hx4, ho4⟩
      have HB4 := Lib.hid (below_step HB3.out hx4)
      have HL4 := Lib.hid (HL3.out.below hx4)
      have R2 := Lib.hid (readsI_own ho4)
      clear hx4 ho4
      go_wp2_with fail
      refine (H2.out _ HL4.out).mono ?_
      rintro e w5 ⟨la3, lc3, rfl, hx5, ho5⟩
      have HB5 := Lib.hid (below_step HB4.out hx5)
      have HL5 := Lib.hid (HL4.out.below hx5)
      have R3 := Lib.hid (readsI_own ho5)
      have R2 := Lib.hid (R2.out.below hx5 (Nat.le_refl _))
      clear hx5 ho5
      go_wp2_with fail
      refine (H3.out _ HL5.out).mono ?_
      rintro e w6 ⟨rfl, hx6⟩
      have HB6 := Lib.hid (below_step HB5.out hx6)
      have HL6 := Lib.hid (HL5.out.below hx6)
      have R2 := Lib.hid (R2.out.below hx6 (Nat.le_refl _))
      have R3 := Lib.hid (R3.out.below hx6 (Nat.le_refl _))
      clear hx6
      go_wp2_with fail
      refine (sameB la2 la3 L.length lc2 lc3 L _ R2.out R3.out (by omega)).mono ?_
      rintro e w7 ⟨rfl, hx7⟩
      have HB7 := Lib.hid (below_step HB6.out hx7)
      have HL7 := Lib.hid (HL6.out.below hx7)
      clear hx7
      go_wp2
      go_ret
      exact ⟨ret_bool (by simp), HB7.out⟩
  · have hd : (1048576 : Int) < (n : Int) := by omega
    go_enter Try.func11, Try.ntmps11
    go_wp2
    go_ret
    exact ⟨rfl, Below.refl _ _⟩

end Go.Proofs.Ytiphooodijbhiaa
