/-
  Rows that go on just as a ring does: plain facts. The walk of goingRows.goOnAs: do rows go on as a ring does? The walk of the program's RowsSet.
-/
import Derived.Test.YtdcedkjoligekaaToldMath
import Derived.Test.YtdcedkjoligekaaLoose
import Derived.Test.YtdcedkjoligekaaOnceMath
import Derived.Test.YtdcedkjoligekaaRowGoing
import Derived.Test.YtdcedkjoligekaaCover
import Derived.Lib.OthersKept
import Derived.Test.YtdcedkjoligekaaRowsHas
import Derived.Deep.RegionWith
namespace Go.Proofs.Ytdcedkjoligekaa
open Go.RowKit

set_option linter.unusedVariables false

/-- A number is in a row; the rows are in early form. -/
def Hits (g : List Rw) (m : Nat) : Prop := ∃ r ∈ g, m % r.s = r.b
/-- From the tail on, the text tells what the rows have. -/
def GoOn (T : ByteArray) (g : List Rw) : Prop := ∀ m, (setT T).length ≤ m → (fS T m = true ↔ Hits g m)
/-- .. place by place of the ring. -/
def GoAt (T : ByteArray) (g : List Rw) (i : Nat) : Prop := ∀ n, ((setR T).getD i false = true ↔ Hits g ((setR T).length * n + ((setT T).length + i)))

theorem goOn_iff {T : ByteArray} (hok : okS T = true) (g : List Rw) : GoOn T g ↔ ∀ i, i < (setR T).length → GoAt T g i := by
  have hp := setR_pos hok
  constructor
  · intro h i hi n
    have := h ((setR T).length * n + ((setT T).length + i)) (by omega)
    rw [← this]
    unfold fS hasB
    rw [if_neg (by omega), show (setR T).length * n + ((setT T).length + i) - (setT T).length = i + (setR T).length * n from by omega, Nat.add_mul_mod_self_left, Nat.mod_eq_of_lt hi]
  · intro h m hm
    have := h ((m - (setT T).length) % (setR T).length) (Nat.mod_lt _ hp) ((m - (setT T).length) / (setR T).length)
    have e := Nat.div_add_mod (m - (setT T).length) (setR T).length
    rw [show (setR T).length * ((m - (setT T).length) / (setR T).length) + ((setT T).length + (m - (setT T).length) % (setR T).length) = m from by omega] at this
    rw [← this]
    unfold fS hasB
    rw [if_neg (by omega)]

theorem ring_sign {s T R : ByteArray} (hok : okS s = true) (h : IsSplit s T R) (i : Nat) (hi : i < R.size) : ((R[i].toNat : Int) = 48 ∨ (R[i].toNat : Int) = 49) ∧ ((setR s).getD i false = true ↔ (R[i].toNat : Int) = 49) := by
  have hmem : R[i] ∈ R.data.toList := List.getElem_mem (l := R.data.toList) (by simpa using hi)
  have hpart : partB R.data.toList = true := by
    rw [h.ringText]
    have hok' : setOk s.data.toList = true := hok
    unfold setOk at hok'
    simp only [Bool.and_eq_true] at hok'
    exact hok'.2
  have hs := (isSign_iff _).1 (allSigns_mem _ (part_signs hpart) _ hmem)
  refine ⟨hs, ?_⟩
  rw [← h.ring]
  unfold sb
  have hlt : i < R.data.toList.length := by simpa using hi
  rw [List.getD_eq_getElem?_getD, List.getElem?_map, List.getElem?_eq_getElem hlt]
  show (R.data.toList[i] == 49) = true ↔ _
  have e : R.data.toList[i] = R[i] := by rfl
  rw [e]
  constructor
  · intro hh
    rw [beq_iff_eq] at hh
    rw [hh]; rfl
  · intro hh; exact sign1 hh

/-- From 60 on, rows have just what their early forms have. -/
theorem cnt_goingM {l : List Rw} (hf : ∀ r ∈ l, r.Fits) {n : Nat} (hn : 60 ≤ n) : cnt (going l) n = cnt l n := by
  induction l with
  | nil => rfl
  | cons r l ih =>
    have ih := ih (fun q hq => hf q (List.mem_cons_of_mem _ hq))
    have hr := hf r (List.mem_cons_self ..)
    have e2 : ∀ q (l : List Rw), cnt (q :: l) n = (if q.has n then 1 else 0) + cnt l n := fun q l => by unfold cnt; rw [List.countP_cons, Nat.add_comm]
    have hb : r.b ≤ 59 := hr.1
    by_cases h0 : 0 < r.s
    · have e : going (r :: l) = r.early :: going l := by unfold going; rw [List.filter_cons_of_pos (by simpa using h0)]; rfl
      rw [e, e2, e2, ih, early_has_ge h0 (by omega)]
    · have e : going (r :: l) = going l := by unfold going; rw [List.filter_cons_of_neg (by simpa using h0)]
      have hno : r.has n = false := by
        cases e : r.has n
        · rfl
        · have := (has_zero (by omega) n).1 e; omega
      rw [e, e2, hno, ih]; simp
/-- What rows tell, and what they tell from 60 on. -/
theorem rows_per {l : List Rw} (hf : ∀ r ∈ l, r.Fits) : ∀ n, 60 ≤ n → decide (0 < cnt l (n + lcmAll l)) = decide (0 < cnt l n) := by
  intro n hn
  have h := cnt_round (g := going l) (fun q hq => by
    unfold going at hq
    obtain ⟨r, hr, rfl⟩ := List.mem_map.1 hq
    obtain ⟨h1, h2⟩ := List.mem_filter.1 hr
    exact ⟨Nat.mod_lt _ (of_decide_eq_true h2), (hf r h1).2⟩) (M := lcmAll l) (fun q hq => by
    unfold going at hq
    obtain ⟨r, hr, rfl⟩ := List.mem_map.1 hq
    obtain ⟨h1, h2⟩ := List.mem_filter.1 hr
    exact step_dvd (r := r) h1 (of_decide_eq_true h2)) n
  rw [cnt_goingM hf (by omega), cnt_goingM hf hn] at h
  rw [h]
theorem hits_cnt {g : List Rw} (hg : Going g) (m : Nat) : Hits g m ↔ 0 < cnt g m := by
  rw [cnt_pos]
  constructor
  · rintro ⟨r, hr, e⟩; exact ⟨r, hr, (early_has (hg r hr).1 m).2 e⟩
  · rintro ⟨r, hr, e⟩; exact ⟨r, hr, (early_has (hg r hr).1 m).1 e⟩

/-- A set that comes round from 60 on by at most 60 has a short tidy tail and ring. -/
theorem tidy_by {f : Nat → Bool} {p : Nat} (hp : 0 < p) (hp60 : p ≤ 60) (hper : ∀ n, 60 ≤ n → f (n + p) = f n) : ∃ m q, Tidy f m q ∧ m ≤ 60 ∧ q ≤ 60 := by
  obtain ⟨m, q, ht⟩ := tidy_round hp hper
  refine ⟨m, q, ht, ?_, Nat.le_trans (ht.ring p ⟨hp, 60, hper⟩) hp60⟩
  obtain ⟨_, h2⟩ := least_divides hp hper ⟨ht.pos, m, ht.per⟩ ht.ring
  rcases Nat.lt_or_ge 60 m with k | k
  · exfalso
    rcases ht.tail with e | e
    · omega
    · exact e (h2 (m - 1) (by omega)).symm
  · exact k

/-- What RowsSet tells: the set's tidy text just if its rows go on as the text does. -/
theorem goOn_made {l : List Rw} {T : ByteArray} (hf : ∀ r ∈ l, r.Fits) (hT : Leaves (fun n => decide (0 < cnt l n)) T) :
    (GoOn T (going l) → Made (fun n => decide (0 < cnt l n)) T true) ∧ (¬ GoOn T (going l) → Made (fun n => decide (0 < cnt l n)) ⟨#[]⟩ false) := by
  have hgo : Going (going l) := fun q hq => by
    unfold going at hq
    obtain ⟨r, hr, rfl⟩ := List.mem_map.1 hq
    obtain ⟨h1, h2⟩ := List.mem_filter.1 hr
    exact ⟨Nat.mod_lt _ (of_decide_eq_true h2), (hf r h1).2⟩
  have hdvd : ∀ q ∈ going l, q.s ∣ lcmAll l := fun q hq => by
    unfold going at hq
    obtain ⟨r, hr, rfl⟩ := List.mem_map.1 hq
    obtain ⟨h1, h2⟩ := List.mem_filter.1 hr
    exact step_dvd (r := r) h1 (of_decide_eq_true h2)
  have hl0 := lcmAll_pos l
  have hp := setR_pos hT.1
  have hp60 := setR_le hT.1
  have ht60 := setT_le hT.1
  have hround : ∀ n, (setT T).length ≤ n → fS T (n + (setR T).length) = fS T n := fun n hn => hasB_round _ _ n hn
  have late : ∀ m, 60 ≤ m → (Hits (going l) m ↔ decide (0 < cnt l m) = true) := fun m hm => by
    rw [hits_cnt hgo, cnt_goingM hf hm, decide_eq_true_eq]
  constructor
  · intro h
    have hper : ∀ n, 60 ≤ n → (fun n => decide (0 < cnt l n)) (n + (setR T).length) = (fun n => decide (0 < cnt l n)) n := by
      intro n hn
      show decide (0 < cnt l (n + (setR T).length)) = decide (0 < cnt l n)
      have h1 := h n (by omega)
      have h2 := h (n + (setR T).length) (by omega)
      rw [hround n (by omega)] at h2
      rw [late n hn] at h1
      rw [late _ (by omega)] at h2
      rw [Bool.eq_iff_iff, ← h1, ← h2]
    obtain ⟨m, q, htd, hm, hq⟩ := tidy_by (f := fun n => decide (0 < cnt l n)) hp hp60 hper
    exact .inl ⟨rfl, hT.2 m q htd hm hq⟩
  · intro h
    obtain ⟨m, q, htd⟩ := tidy_round (g := fun n => decide (0 < cnt l n)) hl0 (rows_per hf)
    refine .inr ⟨rfl, rfl, m, q, htd, fun ⟨hm, hq⟩ => h ?_⟩
    have hset : fS T = fun n => decide (0 < cnt l n) := (hT.2 m q htd hm hq).told.set
    intro x hx
    -- far behind 60 both tell the same
    have e1 : fS T (x + 60 * lcmAll l * (setR T).length) = fS T x := per_rounds hround _ _ hx
    have hbig : 60 ≤ x + 60 * lcmAll l * (setR T).length := by
      have h1 : 60 * 1 ≤ 60 * lcmAll l := Nat.mul_le_mul_left _ hl0
      have h2 : 60 * lcmAll l * 1 ≤ 60 * lcmAll l * (setR T).length := Nat.mul_le_mul_left _ hp
      omega
    have e2 : cnt (going l) (x + lcmAll l * (60 * (setR T).length)) = cnt (going l) x := cnt_rounds hgo hdvd x _
    rw [show lcmAll l * (60 * (setR T).length) = 60 * lcmAll l * (setR T).length from by rw [Nat.mul_left_comm, Nat.mul_assoc]] at e2
    rw [← e1, hset, hits_cnt hgo, ← e2, cnt_goingM hf hbig, decide_eq_true_eq]

set_option linter.unusedVariables false

def GoOnOut (T : ByteArray) (g : List Rw) (w : World) (e : Ending) (w' : World) : Prop := ∃ b, e = .returned (.bool b) ∧ (b = true ↔ GoOn T g) ∧ Below w.heap.size w w'

/-- The world of the loop: the box of the text's parts, and the iterator. -/
structure GoLoop (T R : ByteArray) (a : Option Addr) (n : Nat) (g : List Rw) (pos : Nat) (w wr : World) : Prop where
  d0 : wr.cell? ⟨w.heap.size, 0, none⟩ = some (.string T)
  d1 : wr.cell? ⟨w.heap.size, 1, none⟩ = some (.string R)
  it : wr.heap[w.heap.size + 1]? = some (.stringIter R pos)
  rows : ReadsL wr a n g
  below : Below w.heap.size w wr
theorem GoLoop.lt {T R : ByteArray} {a : Option Addr} {n pos : Nat} {g : List Rw} {w wr : World} (h : GoLoop T R a n g pos w wr) : w.heap.size + 1 < wr.heap.size := by
  rcases Nat.lt_or_ge (w.heap.size + 1) wr.heap.size with k | k
  · exact k
  · have := h.it
    rw [Array.getElem?_eq_none k] at this
    cases this
theorem iterPos_of {w : World} {k p : Nat} {s : ByteArray} (h : w.heap[k]? = some (.stringIter s p)) : w.iterPos k = p := by simp [World.iterPos, h]
theorem GoLoop.step {T R : ByteArray} {a : Option Addr} {n pos : Nat} {g : List Rw} {w wr w1 : World} (h : GoLoop T R a n g pos w wr) (hb : Below wr.heap.size wr w1) : GoLoop T R a n g pos w w1 := by
  have hlt := h.lt
  exact ⟨(hb.cell (p := ⟨w.heap.size, 0, none⟩) (by show w.heap.size < _; omega)).trans h.d0, (hb.cell (p := ⟨w.heap.size, 1, none⟩) (by show w.heap.size < _; omega)).trans h.d1,
    (hb.block _ hlt).trans h.it, h.rows.below hb (Nat.le_refl _), h.below.trans (hb.mono (by omega))⟩
theorem cell_iterAt {w : World} {k j o pos : Nat} {s : ByteArray} (h : j ≠ k) : (w.iterAt k s pos).cell? ⟨j, o, none⟩ = w.cell? ⟨j, o, none⟩ := World.cell?_of_block (w := w) (a := ⟨j, o, none⟩) (Go.Lib.iterAt_other w k j s pos h)
theorem GoLoop.next {T R : ByteArray} {a : Option Addr} {n pos : Nat} {g : List Rw} {w wr : World} (h : GoLoop T R a n g pos w wr) (ha : ∀ g o, a = some ⟨g, o, none⟩ → g < w.heap.size) : GoLoop T R a n g (pos + 1) w (wr.iterAt (w.heap.size + 1) R (pos + 1)) := by
  refine ⟨(cell_iterAt (by omega)).trans h.d0, (cell_iterAt (by omega)).trans h.d1, Go.Lib.iterAt_heap _ _ _ _ _ h.it, ?_, Go.Lib.below_iterAt h.below (by omega) _ _⟩
  obtain ⟨h1, h2⟩ := h.rows
  refine ⟨h1, ?_⟩
  rcases h2 with h2 | ⟨g1, o1, hg, hlt, hc⟩
  · exact .inl h2
  · have := ha g1 o1 hg
    exact .inr ⟨g1, o1, hg, by rw [Go.Lib.iterAt_size]; exact hlt, fun i hi => ⟨(cell_iterAt (by omega)).trans (hc i hi).1, (cell_iterAt (by omega)).trans (hc i hi).2⟩⟩
theorem goLoop_start {T R : ByteArray} {a : Option Addr} {n : Nat} {g : List Rw} {w : World} (h : ReadsL w a n g) : GoLoop T R a n g 0 w ((w.alloc (.cells #[.string T, .string R] 64)).iter R 0) := by
  have hb : Below w.heap.size w ((w.alloc (.cells #[.string T, .string R] 64)).iter R 0) := ((Below.refl _ _).alloc (Nat.le_refl _) _).alloc (by simp) _
  refine ⟨?_, ?_, ?_, h.below hb (Nat.le_refl _), hb⟩
  · show ((w.alloc _).alloc _).cell? _ = _
    rw [World.cell?_alloc_past _ _ _ (by simp), World.cell?_alloc_at _ _ _ _ rfl]; rfl
  · show ((w.alloc _).alloc _).cell? _ = _
    rw [World.cell?_alloc_past _ _ _ (by simp), World.cell?_alloc_at _ _ _ _ rfl]; rfl
  · have := World.iter_heap (w.alloc (.cells #[.string T, .string R] 64)) R 0
    simpa using this

theorem goAt_cover {S : ByteArray} {g qs : List Rw} {i : Nat} (hb : (setR S).getD i false = true) (h : EveryIs (setR S).length ((setT S).length + i) g qs) : Covers qs ↔ GoAt S g i := by
  rw [every_covers h]
  exact ⟨fun hc n => ⟨fun _ => hc n, fun _ => hb⟩, fun hc n => (hc n).1 hb⟩
theorem goAt_none {S : ByteArray} {g qs : List Rw} {i : Nat} (hb : (setR S).getD i false = false) (h : EveryIs (setR S).length ((setT S).length + i) g qs) : qs.length = 0 ↔ GoAt S g i := by
  constructor
  · intro h0 n
    obtain rfl := List.eq_nil_of_length_eq_zero h0
    constructor
    · intro hc; rw [hb] at hc; cases hc
    · intro hc
      obtain ⟨q, hq, _⟩ := (h.has n).2 hc
      cases hq
  · intro hc
    match qs, h with
    | [], _ => rfl
    | q :: qs, h =>
      have hq := h.going q (List.mem_cons_self ..)
      have := (hc q.b).2 ((h.has q.b).1 ⟨q, List.mem_cons_self .., Nat.mod_eq_of_lt hq.1⟩)
      rw [hb] at this
      cases this

set_option maxRecDepth 100000 in
set_option maxHeartbeats 4000000 in
theorem goOnAs_is (S T R : ByteArray) (a : Option Addr) (n c : Nat) (g : List Rw) (w : World) (h : ReadsL w a n g) (ha : ∀ g o, a = some ⟨g, o, none⟩ → g < w.heap.size) (hn : n ≤ 20) (hf : Going g) (hok : okS S = true) (hsp : IsSplit S T R) :
    Calls Try.prog 60 #[.slice a n c, .agg #[.string T, .string R]] w (GoOnOut S g w) := by
  have HSTART := Lib.hid (goLoop_start (T := T) (R := R) h)
  have HA := Lib.hid ha
  have HIFF := Lib.hid (goOn_iff hok g)
  have hT60 := hsp.tailLe
  have hR60 := hsp.ringLe
  have hR0 := hsp.ringPos
  have HTL := Lib.hid hsp.tailLen
  have HRL := Lib.hid hsp.ringLen
  have HSIGN := Lib.hid (fun i hi => ring_sign hok hsp i hi)
  have HEV := Lib.hid (fun (w : World) (f : Nat) (h : ReadsL w a n g) (hf2 : f ≤ 200) => every_is a n c R.size f g w h hn hf hR0 hR60 hf2)
  clear h ha hsp
  go_enter Try.func60, Try.ntmps60
  go_wp2
  go_loopw [5] (fun u wr => ∃ pos : Nat, pos ≤ R.size ∧ (∀ i, i < pos → GoAt S g i) ∧ GoLoop T R a n g pos w wr) (fun _ wr => R.size - wr.iterPos (w.heap.size + 1))
  case atStart => exact ⟨0, Nat.zero_le _, fun i hi => absurd hi (Nat.not_lt_zero _), HSTART.out⟩
  case round =>
    obtain ⟨pos, hpos, hall, hl⟩ := hrel
    have HALL := Lib.hid hall
    have HPOS := Lib.hid (iterPos_of hl.it)
    have hlt := hl.lt
    clear hall
    by_cases hp : pos < R.size
    · obtain ⟨hsg, hbit⟩ := HSIGN.out pos hp
      have hasc : (R[pos]'hp).toNat < 128 := by omega
      have hnx := fun ty => Go.Lib.run_next_ascii_at (P := Try.prog) wr (w.heap.size + 1) R pos ty hl.it hp hasc
      have HN := Lib.hid (hl.next HA.out)
      obtain ⟨f, hfd⟩ : ∃ f, f = T.size + pos := ⟨_, rfl⟩
      have hfi : (T.size : Int) + (pos : Int) = (f : Int) := by omega
      have HFI := Lib.hid hfi
      have hf200 : f ≤ 200 := by omega
      have HFD := Lib.hid hfd
      have d0 := HN.out.d0
      have d1 := HN.out.d1
      have f1 : (pos : Int) < (R.size : Int) := by omega
      have f2 : (0 : Int) ≤ (pos : Int) := by omega
      have HBIT := Lib.hid hbit
      clear hl hfd hfi hbit
      go_wp2_with fail
      rw [HFI.out]
      refine (HEV.out _ f HN.out.rows hf200).mono ?_
      rintro e w3 ⟨qs, hev, hb3, a3, c3, rfl, hown3⟩
      have HN3 := Lib.hid (HN.out.step hb3)
      have hev' : EveryIs (setR S).length ((setT S).length + pos) g qs := by rw [HRL.out, HTL.out, ← HFD.out]; exact hev
      have hq20 : qs.length ≤ 20 := by
        have h1 := hev.len
        have h2 := HSTART.out.rows.len
        omega
      have HQG := Lib.hid hev.going
      have HE := Lib.hid hev'
      have R3 := Lib.hid (readsL_own hown3)
      obtain ⟨lq, hlq⟩ : ∃ lq, lq = qs.length := ⟨_, rfl⟩
      rw [← hlq] at hq20 ⊢
      have HLQ := Lib.hid hlq
      clear d0 d1 hb3 hown3 hev hev' hlq hnx
      have d0 := HN3.out.d0
      have d1 := HN3.out.d1
      rcases hsg with h48 | h49
      · have hbf : (setR S).getD pos false = false := by
          cases e : (setR S).getD pos false
          · rfl
          · have := HBIT.out.1 e; omega
        have HG := Lib.hid (goAt_none hbf HE.out)
        have h49 : ((R[pos].toNat : Int) == 49) = false := by rw [beq_eq_false_iff_ne]; omega
        by_cases hl0 : lq = 0
        · have HAT : Hid (GoAt S g pos) := Lib.hid (HG.out.1 (by rw [← HLQ.out]; exact hl0))
          have f3 : (lq : Int) ≤ 0 := by omega
          clear HG hbf
          go_wp2
          go_roundw
          case rel =>
            refine ⟨pos + 1, by omega, fun i hi => ?_, HN3.out⟩
            rcases Nat.lt_or_ge i pos with x | x
            · exact HALL.out i x
            · obtain rfl : i = pos := by omega
              exact HAT.out
          case measure => (have e1 := HPOS.out; have e2 := iterPos_of HN3.out.it; rw [e1, e2]; omega)
        · have f3 : (0 : Int) < (lq : Int) := by omega
          have HNO : Hid (¬ GoOn S g) := Lib.hid (fun hgo => by
            have := HG.out.2 (HIFF.out.1 hgo pos (by rw [HRL.out]; exact hp))
            rw [← HLQ.out] at this
            exact hl0 this)
          clear HG hbf
          go_wp2
          try rw [Exit.noGoto_ret]
          go_ret
          exact ⟨false, rfl, ⟨(fun h => (by cases h)), fun h => (HNO.out h).elim⟩, HN3.out.below⟩
      · have hbt : (setR S).getD pos false = true := HBIT.out.2 h49
        have HG := Lib.hid (goAt_cover hbt HE.out)
        have h48 : ((R[pos].toNat : Int) == 48) = false := by rw [beq_eq_false_iff_ne]; omega
        clear hbt
        go_wp2_with fail
        refine (cover_is qs a3 lq c3 _ (by rw [HLQ.out]; exact R3.out) hq20 HQG.out).mono ?_
        rintro e w4 ⟨b, rfl, hb, hb4⟩
        have HN4 := Lib.hid (HN3.out.step hb4)
        have HBC := Lib.hid (hb.trans HG.out)
        clear d0 d1 hb hb4
        have d0 := HN4.out.d0
        have d1 := HN4.out.d1
        cases b
        · have HNO : Hid (¬ GoOn S g) := Lib.hid (fun hgo => by
            have := HBC.out.2 (HIFF.out.1 hgo pos (by rw [HRL.out]; exact hp))
            cases this)
          clear HBC
          go_wp2
          try rw [Exit.noGoto_ret]
          go_ret
          exact ⟨false, rfl, ⟨(fun h => (by cases h)), fun h => (HNO.out h).elim⟩, HN4.out.below⟩
        · have HAT := Lib.hid (HBC.out.1 rfl)
          clear HBC
          go_wp2
          go_roundw
          case rel =>
            refine ⟨pos + 1, by omega, fun i hi => ?_, HN4.out⟩
            rcases Nat.lt_or_ge i pos with x | x
            · exact HALL.out i x
            · obtain rfl : i = pos := by omega
              exact HAT.out
          case measure => (have e1 := HPOS.out; have e2 := iterPos_of HN4.out.it; rw [e1, e2]; omega)
    · obtain rfl : pos = R.size := by omega
      have hnx := fun ty => Go.Lib.run_next_end_at (P := Try.prog) wr (w.heap.size + 1) R R.size ty hl.it hp
      have HGO : Hid (GoOn S g) := Lib.hid (HIFF.out.2 (fun i hi => HALL.out i (by rw [← HRL.out]; exact hi)))
      have HB := Lib.hid hl.below
      clear hl
      go_wp2
      go_ret
      exact ⟨true, rfl, ⟨fun _ => HGO.out, fun _ => rfl⟩, HB.out⟩

set_option linter.unusedVariables false

/-- The world of the first loop: the first numbers, and the rows. -/
structure FirstFill (g : Nat → Bool) (B k : Nat) (a : Option Addr) (n : Nat) (l : List Rw) (w wr : World) : Prop where
  row : ∃ cur, Row180 wr B cur ∧ cur.size = 180 ∧ ∀ i, i < k → cur[i]? = some (.bool (g i))
  lt : B < wr.heap.size
  rows : ReadsL wr a n l
  below : Below w.heap.size w wr
theorem FirstFill.step {g : Nat → Bool} {B k n : Nat} {a : Option Addr} {l : List Rw} {w wr w1 : World} (h : FirstFill g B k a n l w wr) (hw : w.heap.size ≤ wr.heap.size) (hb : Below wr.heap.size wr w1) : FirstFill g B k a n l w w1 := by
  obtain ⟨cur, h1, h2, h3⟩ := h.row
  exact ⟨⟨cur, h1.below hb h.lt, h2, h3⟩, Nat.lt_of_lt_of_le h.lt hb.size, h.rows.below hb (Nat.le_refl _), h.below.trans (hb.mono hw)⟩
theorem FirstFill.store {g : Nat → Bool} {B k n : Nat} {a : Option Addr} {l : List Rw} {w wr : World} (h : FirstFill g B k a n l w wr) (hk : k < 180) (hB : w.heap.size ≤ B) (ha : ∀ g1 o1, a = some ⟨g1, o1, none⟩ → g1 ≠ B) : FirstFill g B (k + 1) a n l w (wr.setCell ⟨B, k, none⟩ (.bool (g k))) := by
  obtain ⟨cur, h1, h2, h3⟩ := h.row
  refine ⟨⟨_, heap_setCell_same wr _ _ _ _ _ h1, by simpa using h2, ?_⟩, by simpa [World.setCell] using h.lt, ?_, h.below.setCell (by show w.heap.size ≤ B; omega) _⟩
  · intro i hi
    rw [Array.getElem?_setIfInBounds]
    by_cases e : k = i
    · subst e; rw [if_pos rfl, if_pos (by omega)]
    · rw [if_neg e]; exact h3 i (by omega)
  · obtain ⟨r1, r2⟩ := h.rows
    refine ⟨r1, ?_⟩
    rcases r2 with r2 | ⟨g1, o1, hg, hlt, hc⟩
    · exact .inl r2
    · have := ha g1 o1 hg
      exact .inr ⟨g1, o1, hg, by simpa [World.setCell] using hlt, fun i hi => ⟨(World.cell?_setCell_other _ _ _ _ (by first | (simp; intro e; exact absurd e.symm this) | (simp; omega) | (intro e; injection e with e1; exact this e1.symm))).trans (hc i hi).1, (World.cell?_setCell_other _ _ _ _ (by first | (simp; intro e; exact absurd e.symm this) | (simp; omega) | (intro e; injection e with e1; exact this e1.symm))).trans (hc i hi).2⟩⟩
theorem FirstFill.cell {g : Nat → Bool} {B k n : Nat} {a : Option Addr} {l : List Rw} {w wr : World} (h : FirstFill g B k a n l w wr) (hk : k < 180) :
    (∃ u, wr.cell? ⟨B, k, none⟩ = some u) ∧ wr.frozen? ⟨B, k, none⟩ = false := by
  obtain ⟨cur, h1, h2, h3⟩ := h.row
  refine ⟨⟨cur[k]'(by omega), ?_⟩, frozen_of_row wr _ _ _ _ h1⟩
  rw [cell_of_row wr _ _ _ _ _ h1]
  exact Array.getElem?_eq_getElem (by omega)
theorem FirstFill.done {g : Nat → Bool} {B n : Nat} {a : Option Addr} {l : List Rw} {w wr : World} (h : FirstFill g B 180 a n l w wr) : Row180 wr B (firstV g) := by
  obtain ⟨cur, h1, h2, h3⟩ := h.row
  rw [← firstV_of g cur h2 h3]; exact h1
theorem firstFill_start {g : Nat → Bool} {n : Nat} {a : Option Addr} {l : List Rw} {w w1 : World} (h : ReadsL w1 a n l) (hb : Below w.heap.size w w1) :
    FirstFill g w1.heap.size 0 a n l w (w1.alloc (.cells Try.zeroCells61 61)) := by
  have hb1 : Below w1.heap.size w1 (w1.alloc (.cells Try.zeroCells61 61)) := (Below.refl _ _).alloc (Nat.le_refl _) _
  exact ⟨⟨_, heap_alloc_new _ _, zeroFirst_size, fun i hi => absurd hi (Nat.not_lt_zero _)⟩, by simp, h.below hb1 (Nat.le_refl _), hb.trans (hb1.mono hb.size)⟩

theorem box_drew {w w6 : World} {u v : Value} {T : TypeId} (hb : Below ((w.alloc (.cells #[u, v] T)).drew).heap.size ((w.alloc (.cells #[u, v] T)).drew) w6) : Below (w.alloc (.cells #[u, v] T)).heap.size (w.alloc (.cells #[u, v] T)) w6 := by
  have h0 : Below (w.alloc (.cells #[u, v] T)).heap.size (w.alloc (.cells #[u, v] T)) (w.alloc (.cells #[u, v] T)).drew := below_drewN (Below.refl _ _) 1
  exact h0.trans (hb.mono h0.size)
theorem leaves_le {g : Nat → Bool} {T : ByteArray} (h : Leaves g T) : T.size ≤ 1048576 := by
  rw [set_size h.1]
  have h1 := setT_le h.1
  have h2 := setR_le h.1
  omega

set_option maxRecDepth 100000 in
set_option maxHeartbeats 4000000 in
theorem implRowsSet (a : Option Addr) (n c : Nat) (rs : List (List Int)) (m : Int) (w : World) (h : ReadsR w a n rs) (hn : n ≤ 1048576) (hs : Short rs) (hL : LibAt m w) :
    Calls Try.prog 20 #[.slice a n c] w fun e w' => MakeEnd (goodRows rs) (fun n => decide (0 < cnt (theRows rs) n)) e ∧ Below w.heap.size w w' := by
  have HC := Lib.hid (readRows_is a n c rs w h hn hs)
  have hlen := h.len
  clear h
  cases hg : goodRows rs
  · have HG := Lib.hid hg
    clear hg hlen
    go_enter Try.func20, Try.ntmps20
    go_wp2_with fail
    refine HC.out.mono ?_
    rintro e w1 ⟨hb1, a1, c1, n1, rfl, hgood⟩
    rw [HG.out]
    have HB := Lib.hid hb1
    clear hgood hb1
    go_wp2
    go_ret2
    exact ⟨makeEnd_off rfl, HB.out⟩
  · obtain ⟨hf1, hf2⟩ := goodRows_fits hg
    obtain ⟨l, hl⟩ : ∃ l, l = theRows rs := ⟨_, rfl⟩
    have hll : l.length = n := by rw [hl]; unfold theRows; rw [List.length_map]; exact hlen
    rw [← hl] at hf1 hf2 ⊢
    have hn20 : n ≤ 20 := by omega
    have HG := Lib.hid hg
    have HLN := Lib.hid hlen
    have HL := Lib.hid hl
    have HLB := Lib.hid hL
    obtain ⟨g, hgd⟩ : ∃ g, g = going l := ⟨_, rfl⟩
    have hg20 : g.length ≤ 20 := by rw [hgd]; exact Nat.le_trans (going_le _) hf1
    have hgo : Going g := by
      rw [hgd]; intro q hq
      obtain ⟨r, hr, h0, rfl⟩ := going_mem hq
      exact ⟨early_ok h0, (hf2 r hr).2⟩
    have HGO := Lib.hid (fun a1 c1 w hr => goingOf_is a1 n c1 l w hr hn20 hf2)
    have HCO := Lib.hid (fun a1 c1 x w hr hx => countHas_is a1 n c1 l x w hr hn20 hf2 hx)
    have HMD := Lib.hid (fun T hT => goOn_made (l := l) (T := T) hf2 hT)
    rw [← hgd] at HGO HMD
    clear hg hlen hl hll hf1 hf2 hgd hL
    go_enter Try.func20, Try.ntmps20
    go_wp2_with fail
    refine HC.out.mono ?_
    rintro e w1 ⟨hb1, a1, c1, n1, rfl, hgood⟩
    obtain ⟨e1, hown⟩ := hgood HG.out
    obtain rfl : n1 = n := e1.trans HLN.out
    rw [HG.out]
    rw [← HL.out] at hown
    have HB := Lib.hid hb1
    have hR := readsL_own hown
    have HST := Lib.hid (firstFill_start (g := fun n => decide (0 < cnt l n)) hR hb1)
    have HAL := Lib.hid (show ∀ g1 o1, a1 = some ⟨g1, o1, none⟩ → g1 < w1.heap.size from fun g1 o1 e => by subst e; exact (hown.lt _ rfl).2)
    have hws := hb1.size
    clear hgood hb1 hown e1 hR
    go_wp2
    go_loopw [18] (fun i wr => ∃ k : Nat, k ≤ 180 ∧ i = .int .i64 k ∧ FirstFill (fun n => decide (0 < cnt l n)) w1.heap.size k a1 n1 l w wr) (fun i _ => 180 - (intOf i).toNat)
    case atStart => exact ⟨0, Nat.zero_le _, rfl, HST.out⟩
    case round =>
      obtain ⟨k, hk, rfl, hfl⟩ := hrel
      have HF := Lib.hid hfl
      have hwr := hfl.below.size
      by_cases hlt : k < 180
      · have HCK := Lib.hid (HCO.out a1 c1 k wr hfl.rows (by omega))
        obtain ⟨d, hd⟩ : ∃ d, d = cnt l k := ⟨_, rfl⟩
        rw [← hd] at HCK
        have HD := Lib.hid hd
        clear hfl hd
        go_wp2_with fail
        refine HCK.out.mono ?_
        rintro e w3 ⟨rfl, hb3⟩
        have HF3 := Lib.hid (HF.out.step hwr hb3)
        obtain ⟨⟨u, hu⟩, hfz⟩ := HF3.out.cell hlt
        have HF4 := Lib.hid (HF3.out.store hlt hws (fun g1 o1 e => Nat.ne_of_lt (HAL.out g1 o1 e)))
        clear hb3
        by_cases h0 : 0 < d
        · have f2 : (0 : Int) < (d : Int) := by omega
          have hv : Hid (decide (0 < cnt l k) = true) := Lib.hid (decide_eq_true (by rw [← HD.out]; exact h0))
          have HF5 := Lib.hid (show FirstFill (fun n => decide (0 < cnt l n)) w1.heap.size (k + 1) a1 n1 l w (w3.setCell ⟨w1.heap.size, k, none⟩ (.bool true)) from by have h := HF4.out; simp only [hv.out] at h; exact h)
          go_wp2
          go_roundw
          case rel => exact ⟨k + 1, by omega, by go_num, by first | exact HF5.out | simpa [h0] using HF5.out⟩
          case measure => simp [intOf]; omega
        · have f2 : (d : Int) ≤ 0 := by omega
          have f3 : decide ((0 : Int) < (d : Int)) = false := decide_eq_false (by omega)
          have hv : Hid (decide (0 < cnt l k) = false) := Lib.hid (decide_eq_false (by rw [← HD.out]; exact h0))
          have HF5 := Lib.hid (show FirstFill (fun n => decide (0 < cnt l n)) w1.heap.size (k + 1) a1 n1 l w (w3.setCell ⟨w1.heap.size, k, none⟩ (.bool false)) from by have h := HF4.out; simp only [hv.out] at h; exact h)
          go_wp2
          go_roundw
          case rel => exact ⟨k + 1, by omega, by go_num, by first | exact HF5.out | simpa [h0] using HF5.out⟩
          case measure => simp [intOf]; omega
      · obtain rfl : k = 180 := by omega
        clear hfl
        go_wp2_with (refine wpList_load_row rfl 61 _ rfl w1.heap.size rfl 61 (firstV (fun n => decide (0 < cnt l n))) (0, 0) _ HF.out.done Try.underlying61 rfl (by rw [firstV_size]; exact Try.infoFirst) ?_)
        refine (text_leaves (fun n => decide (0 < cnt l n)) _).mono ?_
        rintro e w3 ⟨⟨T, hT, rfl⟩, hb3⟩
        have HF3 := Lib.hid (HF.out.step hwr hb3)
        have HT := Lib.hid hT
        clear hb3 hT
        go_wp2_with fail
        refine (split_on T m _ (leaves_le HT.out) (HLB.out.below HF3.out.below) HT.out.1).mono ?_
        rintro e w4 ⟨T2, R2, rfl, hb4, hsp⟩
        have HF4 := Lib.hid (HF3.out.step HF3.out.below.size hb4)
        have HSP := Lib.hid hsp
        have hw4 := HF4.out.below.size
        clear hb4 hsp
        have HRL := Lib.hid (HF4.out.rows.below ((Below.refl w4.heap.size w4).alloc (Nat.le_refl _) (.cells #[.string T2, .string R2] 64)) (Nat.le_refl _))
        have HB5 := Lib.hid (HF4.out.below.alloc hw4 (.cells #[.string T2, .string R2] 64))
        have HRD := Lib.hid (HRL.out.below (below_drewN (Below.refl (w4.alloc (.cells #[.string T2, .string R2] 64)).heap.size (w4.alloc (.cells #[.string T2, .string R2] 64))) 1) (Nat.le_refl _))
        have hok := HT.out.1
        have HMT := Lib.hid (HMD.out T HT.out)
        go_wp2
        go_region_with (first
          | (go_at_call 59; refine (HGO.out a1 c1 _ HRD.out).mono ?_; rintro e w6 ⟨hb6, a6, c6, rfl, hown6⟩; have hb6' := box_drew hb6; obtain ⟨k0, k1⟩ := box_later hb6'; have R6 := Lib.hid (readsL_own hown6); have HB6 := Lib.hid (HB5.out.trans (hb6'.mono HB5.out.size)); have HA6 := Lib.hid (show ∀ g1 o1, a6 = some ⟨g1, o1, none⟩ → g1 < w6.heap.size from fun g1 o1 e => by subst e; exact (hown6.lt _ rfl).2); clear hb6 hb6' hown6)
          | (go_at_call 60; refine (goOnAs_is T T2 R2 a6 g.length c6 g _ R6.out HA6.out hg20 hgo hok HSP.out).mono ?_; rintro e w7 ⟨b, rfl, hb, hb7⟩; have HB7 := Lib.hid (HB6.out.trans (hb7.mono HB6.out.size)); have HBI := Lib.hid hb; clear hb hb7 k0 k1))
        all_goals
          cases b
          · have HR := Lib.hid (HMT.out.2 (fun h => by have := HBI.out.2 h; cases this))
            clear HBI HMT
            go_wp2
            go_ret2
            exact ⟨makeEnd_on HR.out, HB7.out⟩
          · have HR := Lib.hid (HMT.out.1 (HBI.out.1 rfl))
            clear HBI HMT
            go_wp2
            go_ret2
            exact ⟨makeEnd_on HR.out, HB7.out⟩

end Go.Proofs.Ytdcedkjoligekaa
