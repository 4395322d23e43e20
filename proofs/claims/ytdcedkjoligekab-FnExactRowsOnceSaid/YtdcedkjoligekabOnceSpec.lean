/-
  The walks of the model's l3Short, l3Covers, RowsCover and RowsOnce. The walks of the model's RowsCover and RowsOnce.
-/
import Derived.Test.YtdcedkjoligekabManyS
import Derived.Test.YtdcedkjoligekabCoverRows
import Derived.Lib.MinMax
namespace Go.Proofs.Ytdcedkjoligekab
open Go.RowKit

set_option linter.unusedVariables false

def shortB (rs : List (List Int)) : Bool := goodRows rs && decide (lcmAll (theRows rs) ≤ 60000)

set_option maxHeartbeats 1000000 in
theorem l3Short_is (a : Option Addr) (n c : Nat) (rs : List (List Int)) (w : World) (h : ReadsR w a n rs) (hn : n ≤ 1048576) (hs : Short rs) :
    Calls Try.prog 30 #[.slice a n c] w fun e w' => e = .returned (.bool (shortB rs)) ∧ Below w.heap.size w w' := by
  have HC := Lib.hid (l3Rows_is a n c rs w h hn hs)
  cases hg : goodRows rs
  · have HS : Hid (shortB rs = false) := Lib.hid (by unfold shortB; rw [hg]; rfl)
    have HG := Lib.hid hg
    clear hg h
    rw [HS.out]
    go_enter Try.func30, Try.ntmps30
    go_wp2_with fail
    refine HC.out.mono ?_
    rintro e w1 ⟨rfl, rfl⟩
    rw [HG.out]
    go_wp2
    go_ret
    exact ⟨rfl, Below.refl _ _⟩
  · have HM := Lib.hid (l3Multiple_is a n c rs w h hg hn)
    have HS : Hid (shortB rs = decide ((1 : Int) ≤ ((multS (theRows rs) : Nat) : Int) ∧ ((multS (theRows rs) : Nat) : Int) ≤ 60000)) := Lib.hid (by
      unfold shortB
      rw [hg, Bool.true_and]
      apply decide_eq_decide.2
      have hp := lcmAll_pos (theRows rs)
      unfold multS
      by_cases h1 : lcmAll (theRows rs) ≤ 1000000
      · rw [if_pos h1]; omega
      · rw [if_neg h1]; omega)
    obtain ⟨M, hM⟩ : ∃ M, M = multS (theRows rs) := ⟨_, rfl⟩
    rw [← hM] at HM HS
    rw [HS.out]
    have HG := Lib.hid hg
    clear hg h hM
    obtain ⟨z, hz⟩ : ∃ z, z = decide ((1 : Int) ≤ (M : Int) ∧ (M : Int) ≤ 60000) := ⟨_, rfl⟩
    have HL := Lib.hid (fun w => l6In_is (M : Int) 1 60000 w)
    rw [← hz] at HL ⊢
    clear hz
    go_enter Try.func30, Try.ntmps30
    go_wp2_with fail
    refine HC.out.mono ?_
    rintro e w1 ⟨rfl, rfl⟩
    rw [HG.out]
    go_wp2_with fail
    refine HM.out.mono ?_
    rintro e w2 ⟨rfl, hb2⟩
    have HB2 := Lib.hid hb2
    clear hb2
    go_wp2_with fail
    refine (HL.out _).mono ?_
    rintro e w3 ⟨rfl, rfl⟩
    go_wp2
    go_ret
    exact ⟨rfl, HB2.out⟩

/-- The least and the greatest number of rows that have a number of the first K behind 60. -/
structure Extremes (l : List Rw) (K L M : Nat) : Prop where
  low : ∀ n, n < K → L ≤ cnt l (60 + n)
  high : ∀ n, n < K → cnt l (60 + n) ≤ M
  least : L = l.length ∨ ∃ n, n < K ∧ L = cnt l (60 + n)
  most : M = 0 ∨ ∃ n, n < K ∧ M = cnt l (60 + n)
theorem extremes_le {l : List Rw} {K L M : Nat} (h : Extremes l K L M) : L ≤ l.length ∧ M ≤ l.length := by
  refine ⟨?_, ?_⟩
  · rcases h.least with e | ⟨n, _, e⟩
    · omega
    · rw [e]; exact cnt_le _ _
  · rcases h.most with e | ⟨n, _, e⟩
    · omega
    · rw [e]; exact cnt_le _ _
theorem extremes_step {l : List Rw} {K L M c : Nat} (h : Extremes l K L M) (hc : c = cnt l (60 + K)) : Extremes l (K + 1) (min L c) (max M c) := by
  refine ⟨fun n hn => ?_, fun n hn => ?_, ?_, ?_⟩
  · rcases Nat.lt_or_ge n K with k | k
    · have := h.low n k; omega
    · obtain rfl : n = K := by omega
      omega
  · rcases Nat.lt_or_ge n K with k | k
    · have := h.high n k; omega
    · obtain rfl : n = K := by omega
      omega
  · rcases Nat.le_total L c with k | k
    · rw [Nat.min_eq_left k]
      rcases h.least with e | ⟨n, h1, e⟩
      · exact .inl e
      · exact .inr ⟨n, by omega, e⟩
    · rw [Nat.min_eq_right k]; exact .inr ⟨K, by omega, hc⟩
  · rcases Nat.le_total M c with k | k
    · rw [Nat.max_eq_right k]; exact .inr ⟨K, by omega, hc⟩
    · rw [Nat.max_eq_left k]
      rcases h.most with e | ⟨n, h1, e⟩
      · exact .inl e
      · exact .inr ⟨n, by omega, e⟩

/-- From 60 on, rows have just what their early forms have. -/
theorem cnt_going {l : List Rw} (hf : ∀ r ∈ l, r.Fits) {n : Nat} (hn : 60 ≤ n) : cnt (going l) n = cnt l n := by
  induction l with
  | nil => rfl
  | cons r l ih =>
    have ih := ih (fun q hq => hf q (List.mem_cons_of_mem _ hq))
    have hr := hf r (List.mem_cons_self ..)
    have e2 : ∀ q (l : List Rw), cnt (q :: l) n = (if q.has n then 1 else 0) + cnt l n := fun q l => by unfold cnt; rw [List.countP_cons, Nat.add_comm]
    have hb : r.b ≤ 59 := hr.1
    by_cases h0 : 0 < r.s
    · have e : going (r :: l) = r.early :: going l := by unfold going; rw [List.filter_cons_of_pos (by simpa using h0)]; rfl
      rw [e, e2, e2, ih, early_has_ge h0 (by omega)]
    · have e : going (r :: l) = going l := by unfold going; rw [List.filter_cons_of_neg (by simpa using h0)]
      have hno : r.has n = false := by
        cases e : r.has n
        · rfl
        · have := (has_zero (by omega) n).1 e; omega
      rw [e, e2, hno, ih]; simp
theorem lcm_going_dvd {l : List Rw} : ∀ r ∈ going l, r.s ∣ lcmAll l := by
  intro q hq
  obtain ⟨r, hr, h0, rfl⟩ := going_mem hq
  exact step_dvd (r := r) hr h0

/-- What the model's extremes tell. -/
theorem extremes_cover {rs : List (List Int)} {L M : Nat} (hg : goodRows rs = true) (h : Extremes (theRows rs) (lcmAll (theRows rs)) L M) : 0 < L ↔ CoverIs rs := by
  have hf := (goodRows_fits hg).2
  have hgo := going_ok hf
  unfold CoverIs
  rw [covers_cnt hgo]
  constructor
  · intro hL
    refine ⟨hg, fun n => ?_⟩
    refine round_all hgo (lcmAll_pos (theRows rs)) lcm_going_dvd 60 (P := fun x => 0 < x) (fun n hn => ?_) n
    rw [cnt_going hf (by omega)]
    exact Nat.lt_of_lt_of_le hL (h.low n hn)
  · rintro ⟨_, hc⟩
    rcases h.least with e | ⟨n, hn, e⟩
    · have := hc 60
      rw [cnt_going hf (by omega)] at this
      have := cnt_le (theRows rs) 60
      omega
    · rw [e, ← cnt_going hf (by omega)]
      exact hc _
theorem extremes_once {rs : List (List Int)} {L M : Nat} (hg : goodRows rs = true) (h : Extremes (theRows rs) (lcmAll (theRows rs)) L M) : (L = 1 ∧ M = 1) ↔ OnceIs rs := by
  have hf := (goodRows_fits hg).2
  have hgo := going_ok hf
  have hp := lcmAll_pos (theRows rs)
  unfold OnceIs
  constructor
  · rintro ⟨rfl, rfl⟩
    refine ⟨hg, fun n => ?_⟩
    refine round_all hgo hp lcm_going_dvd 60 (P := fun x => x = 1) (fun n hn => ?_) n
    rw [cnt_going hf (by omega)]
    have := h.low n hn
    have := h.high n hn
    omega
  · rintro ⟨_, hc⟩
    have key : ∀ n, cnt (theRows rs) (60 + n) = 1 := fun n => by rw [← cnt_going hf (by omega)]; exact hc _
    have h1 := h.low 0 hp
    have h2 := h.high 0 hp
    rw [key] at h1 h2
    have h3 := cnt_le (theRows rs) (60 + 0)
    rw [key] at h3
    refine ⟨?_, ?_⟩
    · rcases h.least with e | ⟨n, _, e⟩
      · omega
      · rw [e, key]
    · rcases h.most with e | ⟨n, _, e⟩
      · omega
      · rw [e, key]

set_option maxRecDepth 100000 in
set_option maxHeartbeats 2000000 in
theorem l3Covers_is (a : Option Addr) (n c : Nat) (rs : List (List Int)) (w : World) (h : ReadsR w a n rs) (hg : goodRows rs = true) (hM : lcmAll (theRows rs) ≤ 60000) :
    Calls Try.prog 31 #[.slice a n c] w fun e w' => (∃ L M : Nat, e = .returned (.tuple #[.int .i64 L, .int .i64 M]) ∧ Extremes (theRows rs) (lcmAll (theRows rs)) L M) ∧ Below w.heap.size w w' := by
  obtain ⟨l, hl⟩ : ∃ l, l = theRows rs := ⟨_, rfl⟩
  have hlen : l.length = n := by rw [hl]; unfold theRows; rw [List.length_map]; exact h.len
  have hn20 : n ≤ 20 := by have := (goodRows_fits hg).1; rw [← hl] at this; omega
  obtain ⟨K, hK⟩ : ∃ K, K = lcmAll l := ⟨_, rfl⟩
  have hmult := l3Multiple_is a n c rs w h hg (by omega)
  rw [← hl] at hM hmult ⊢
  rw [← hK] at hM ⊢
  rw [show multS l = K from by unfold multS; rw [if_pos (by omega), hK]] at hmult
  have HMU := Lib.hid hmult
  have HMA := Lib.hid (fun w x h hx => l3Many_is a n c rs x w h hg hx)
  rw [← hl] at HMA
  have H := Lib.hid h
  have HLEN := Lib.hid hlen
  clear hl hK hmult h hg hlen
  go_enter Try.func31, Try.ntmps31
  go_wp2_with fail
  refine HMU.out.mono ?_
  rintro e w1 ⟨rfl, hb1⟩
  have HB1 := Lib.hid hb1
  clear hb1
  go_wp2
  go_loopw [5, 6, 7] (fun x y i wr => ∃ k L M : Nat, k ≤ K ∧ i = .int .i64 ((60 + k : Nat) : Int) ∧ x = .int .i64 L ∧ y = .int .i64 M ∧ Extremes l k L M ∧ Below w.heap.size w wr) (fun _ _ i _ => K + 60 - (intOf i).toNat)
  case atStart => exact ⟨0, n, 0, Nat.zero_le _, rfl, rfl, rfl, ⟨fun i hi => absurd hi (Nat.not_lt_zero _), fun i hi => absurd hi (Nat.not_lt_zero _), .inl (HLEN.out.symm), .inl rfl⟩, HB1.out⟩
  case round =>
    obtain ⟨k, L, M, hk, rfl, rfl, rfl, hex, hB⟩ := hrel
    have hle := extremes_le hex
    have HE := Lib.hid hex
    have HB := Lib.hid hB
    obtain ⟨x, hx⟩ : ∃ x, x = 60 + k := ⟨_, rfl⟩
    rw [← hx]
    have HX := Lib.hid hx
    have hx2 : x ≤ 60 + K := by omega
    have hL20 : L ≤ 20 := by have := HLEN.out; omega
    have hM20 : M ≤ 20 := by have := HLEN.out; omega
    clear hB hex
    by_cases hlt : k < K
    · have f1 : (x : Int) < 60 + (K : Int) := by omega
      obtain ⟨d, hd⟩ : ∃ d, d = cnt l x := ⟨_, rfl⟩
      have HC := Lib.hid (HMA.out wr x (H.out.below HB.out (Nat.le_refl _)) (by omega))
      rw [← hd] at HC
      have hd20 : d ≤ 20 := by rw [hd]; have := cnt_le l x; have := HLEN.out; omega
      have HEX := Lib.hid (extremes_step HE.out (c := d) (by rw [hd, hx]))
      clear hd hx
      go_wp2_with fail
      refine HC.out.mono ?_
      rintro e w3 ⟨rfl, hb3⟩
      have HB3 := Lib.hid (HB.out.trans (hb3.mono HB.out.size))
      clear hb3
      go_wp2
      go_roundw
      case rel => exact ⟨k + 1, min L d, max M d, by omega, congrArg (Value.int .i64) (by have := HX.out; omega), congrArg (Value.int .i64) (by omega), congrArg (Value.int .i64) (by omega), HEX.out, HB3.out⟩
      case measure => (have := HX.out; simp [intOf]; omega)
    · obtain rfl : k = K := by omega
      have f1 : 60 + (k : Int) ≤ (x : Int) := by omega
      clear hx
      go_wp2
      go_ret2
      exact ⟨⟨L, M, rfl, HE.out⟩, HB.out⟩

set_option linter.unusedVariables false


set_option maxHeartbeats 1000000 in
theorem specCover (a : Option Addr) (n c : Nat) (rs : List (List Int)) (w : World) (h : ReadsR w a n rs) (hn : n ≤ 1048576) (hs : Short rs) :
    Calls Try.prog 14 #[.slice a n c] w (TruthOut (shortB rs = true ∧ CoverIs rs) w) := by
  have HS := Lib.hid (l3Short_is a n c rs w h hn hs)
  cases hb : shortB rs
  · have HB := Lib.hid hb
    clear hb h
    go_enter Try.func14, Try.ntmps14
    go_wp2_with fail
    refine HS.out.mono ?_
    rintro e w1 ⟨rfl, hb1⟩
    rw [HB.out]
    have HB1 := Lib.hid hb1
    clear hb1
    go_wp2
    go_ret
    exact ⟨false, rfl, ⟨(fun h => (by cases h)), (fun h => (by have := h.1; cases this))⟩, HB1.out⟩
  · have hb2 := hb
    unfold shortB at hb2
    simp only [Bool.and_eq_true, decide_eq_true_eq] at hb2
    have HC := Lib.hid (fun w h => l3Covers_is a n c rs w h hb2.1 hb2.2)
    have HEX := Lib.hid (fun L M h => extremes_cover (rs := rs) (L := L) (M := M) hb2.1 h)
    have HLE := Lib.hid (fun L M h => extremes_le (l := theRows rs) (L := L) (M := M) (K := lcmAll (theRows rs)) h)
    have hl20 := (goodRows_fits hb2.1).1
    have HL20 := Lib.hid hl20
    have H := Lib.hid h
    have HB := Lib.hid hb
    clear hb h hb2 hl20
    go_enter Try.func14, Try.ntmps14
    go_wp2_with fail
    refine HS.out.mono ?_
    rintro e w1 ⟨rfl, hb1⟩
    rw [HB.out]
    have HB1 := Lib.hid hb1
    have H1 := Lib.hid (H.out.below hb1 (Nat.le_refl _))
    clear hb1
    go_wp2_with fail
    refine (HC.out _ H1.out).mono ?_
    rintro e w2 ⟨⟨L, M, rfl, hex⟩, hb2⟩
    have HB2 := Lib.hid (HB1.out.trans (hb2.mono HB1.out.size))
    have HI := Lib.hid (HEX.out L M hex)
    have hle := HLE.out L M hex
    have hL : L ≤ 20 := by have := HL20.out; omega
    have hM : M ≤ 20 := by have := HL20.out; omega
    clear hb2 hex hle HEX HLE
    by_cases h0 : 0 < L
    · have f1 : (0 : Int) < (L : Int) := by omega
      have HCV := Lib.hid (HI.out.1 h0)
      clear HI
      go_wp2
      go_ret
      exact ⟨true, rfl, ⟨fun _ => ⟨by first | exact HB.out | trivial, HCV.out⟩, fun _ => rfl⟩, HB2.out⟩
    · have f1 : (L : Int) ≤ 0 := by omega
      have f2 : decide ((0 : Int) < (L : Int)) = false := decide_eq_false (by omega)
      have HNC := Lib.hid (fun hc => h0 (HI.out.2 hc))
      have F2 : Hid (decide (0 < L) = false) := Lib.hid (decide_eq_false h0)
      clear HI h0 f2
      go_wp2
      go_ret
      rw [F2.out]
      exact ⟨false, rfl, ⟨(fun h => (by cases h)), fun h => (HNC.out h.2).elim⟩, HB2.out⟩

set_option maxHeartbeats 1000000 in
theorem specOnce (a : Option Addr) (n c : Nat) (rs : List (List Int)) (w : World) (h : ReadsR w a n rs) (hn : n ≤ 1048576) (hs : Short rs) :
    Calls Try.prog 18 #[.slice a n c] w (TruthOut (shortB rs = true ∧ OnceIs rs) w) := by
  have HS := Lib.hid (l3Short_is a n c rs w h hn hs)
  cases hb : shortB rs
  · have HB := Lib.hid hb
    clear hb h
    go_enter Try.func18, Try.ntmps18
    go_wp2_with fail
    refine HS.out.mono ?_
    rintro e w1 ⟨rfl, hb1⟩
    rw [HB.out]
    have HB1 := Lib.hid hb1
    clear hb1
    go_wp2
    go_ret
    exact ⟨false, rfl, ⟨(fun h => (by cases h)), (fun h => (by have := h.1; cases this))⟩, HB1.out⟩
  · have hb2 := hb
    unfold shortB at hb2
    simp only [Bool.and_eq_true, decide_eq_true_eq] at hb2
    have HC := Lib.hid (fun w h => l3Covers_is a n c rs w h hb2.1 hb2.2)
    have HEX := Lib.hid (fun L M h => extremes_once (rs := rs) (L := L) (M := M) hb2.1 h)
    have HLE := Lib.hid (fun L M h => extremes_le (l := theRows rs) (L := L) (M := M) (K := lcmAll (theRows rs)) h)
    have hl20 := (goodRows_fits hb2.1).1
    have HL20 := Lib.hid hl20
    have H := Lib.hid h
    have HB := Lib.hid hb
    clear hb h hb2 hl20
    go_enter Try.func18, Try.ntmps18
    go_wp2_with fail
    refine HS.out.mono ?_
    rintro e w1 ⟨rfl, hb1⟩
    rw [HB.out]
    have HB1 := Lib.hid hb1
    have H1 := Lib.hid (H.out.below hb1 (Nat.le_refl _))
    clear hb1
    go_wp2_with fail
    refine (HC.out _ H1.out).mono ?_
    rintro e w2 ⟨⟨L, M, rfl, hex⟩, hb2⟩
    have HB2 := Lib.hid (HB1.out.trans (hb2.mono HB1.out.size))
    have HI := Lib.hid (HEX.out L M hex)
    have hle := HLE.out L M hex
    have hL : L ≤ 20 := by have := HL20.out; omega
    have hM : M ≤ 20 := by have := HL20.out; omega
    clear hb2 hex hle HEX HLE
    by_cases h0 : L = 1 ∧ M = 1
    · have HCV := Lib.hid (HI.out.1 h0)
      obtain ⟨rfl, rfl⟩ := h0
      clear HI
      go_wp2
      go_ret
      exact ⟨true, rfl, ⟨fun _ => ⟨by first | exact HB.out | trivial, HCV.out⟩, fun _ => rfl⟩, HB2.out⟩
    · have HNC := Lib.hid (fun hc => h0 (HI.out.2 hc))
      clear HI
      by_cases h1 : L = 1
      · subst h1
        have f1 : ((M : Int) == 1) = false := by rw [beq_eq_false_iff_ne]; intro e; exact h0 ⟨rfl, by omega⟩
        clear h0
        go_wp2
        go_ret
        exact ⟨false, by first | rfl | (rw [f1]; rfl) | simp, ⟨(fun h => (by cases h)), fun h => (HNC.out h.2).elim⟩, HB2.out⟩
      · have f1 : ((L : Int) == 1) = false := by rw [beq_eq_false_iff_ne]; omega
        clear h0
        go_wp2
        go_ret
        exact ⟨false, by first | rfl | (rw [f1]; rfl) | simp, ⟨(fun h => (by cases h)), fun h => (HNC.out h.2).elim⟩, HB2.out⟩

end Go.Proofs.Ytdcedkjoligekab
