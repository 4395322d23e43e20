/-
  The walks of the exact laws' own helpers on slices of slices of integers: szIntSS, toIntSS, eqIntSS.
-/
import Derived.Test.YtdcedkjoligekabLawInts
namespace Go.Proofs.Ytdcedkjoligekab
open Go.RowKit
set_option linter.unusedVariables false

/-- A slice reads as a list of lists of integers. -/
structure ReadsR (w : World) (a : Option Addr) (n : Nat) (rs : List (List Int)) : Prop where
  len : rs.length = n
  cells : n = 0 ∨ ∃ g o, a = some ⟨g, o, none⟩ ∧ g < w.heap.size ∧ ∀ i, i < n → ∃ a' c', w.cell? ⟨g, o + i, none⟩ = some (.slice a' (rs.getD i []).length c') ∧ ReadsI w a' (rs.getD i []).length (rs.getD i [])

theorem ReadsR.below {w w' : World} {a : Option Addr} {n B : Nat} {rs : List (List Int)} (h : ReadsR w a n rs) (hb : Below B w w') (hB : w.heap.size ≤ B) : ReadsR w' a n rs := by
  obtain ⟨hl, hc⟩ := h
  refine ⟨hl, ?_⟩
  rcases hc with hc | ⟨g, o, ha, hg, hc⟩
  · exact .inl hc
  · refine .inr ⟨g, o, ha, by have := hb.size; omega, fun i hi => ?_⟩
    obtain ⟨a', c', h1, h2⟩ := hc i hi
    exact ⟨a', c', (hb.cell (p := ⟨g, o + i, none⟩) (by exact Nat.lt_of_lt_of_le hg hB)).trans h1, h2.below hb hB⟩

/-- All rows have at most so many numbers. -/
def Short (rs : List (List Int)) : Prop := ∀ i, i < rs.length → (rs.getD i []).length ≤ 1048576

set_option maxHeartbeats 400000 in
theorem szIntS_is (a : Option Addr) (n c l : Nat) (w : World) (hl : l ≤ 1048576) (hn : n ≤ maxLen) :
    Calls Try.prog 29 #[.slice a n c, .int .i64 l] w fun e w' => e = .returned (.int .i64 (if n ≤ l then ((l - n : Nat) : Int) else -1)) ∧ w = w' := by
  unfold maxLen at hn
  by_cases h : n ≤ l
  · rw [if_pos h]
    have h1 : (0 : Int) ≤ (l : Int) - (n : Int) := by omega
    have e1 : ((l - n : Nat) : Int) = (l : Int) - (n : Int) := by omega
    rw [e1]
    clear e1
    go_enter Try.func29, Try.ntmps29
    go_wp2
    go_ret
    exact ⟨rfl, rfl⟩
  · rw [if_neg h]
    have h1 : (l : Int) - (n : Int) < 0 := by omega
    go_enter Try.func29, Try.ntmps29
    go_wp2
    go_ret
    exact ⟨rfl, rfl⟩

/-- The row behind an index, with its cell. -/
theorem ReadsR.row {w : World} {a : Option Addr} {n : Nat} {rs : List (List Int)} (h : ReadsR w a n rs) {i : Nat} (hi : i < n) :
    ∃ g o, a = some ⟨g, o, none⟩ ∧ g < w.heap.size ∧ ∃ a' c', w.cell? ⟨g, o + i, none⟩ = some (.slice a' (rs.getD i []).length c') ∧ ReadsI w a' (rs.getD i []).length (rs.getD i []) := by
  rcases h.cells with h0 | ⟨g, o, ha, hg, hc⟩
  · omega
  · exact ⟨g, o, ha, hg, hc i hi⟩

def SizeIs (n : Nat) (rs : List (List Int)) (e : Ending) : Prop := ∃ v : Int, e = .returned (.int .i64 v) ∧ (v < 0 ∨ (0 ≤ v ∧ n ≤ 1048576 ∧ Short rs))

set_option maxRecDepth 100000 in
set_option maxHeartbeats 1000000 in
theorem szIntSS_is (a : Option Addr) (n c : Nat) (rs : List (List Int)) (w : World) (h : ReadsR w a n rs) (hn : n ≤ maxLen) (hm : ∀ i, i < n → (rs.getD i []).length ≤ maxLen) :
    Calls Try.prog 13 #[.slice a n c, .int .i64 1048576] w fun e w' => SizeIs n rs e ∧ w = w' := by
  have hn' : n ≤ maxLen := hn
  unfold maxLen at hn'
  have H := Lib.hid h
  have HM := Lib.hid hm
  clear h hm hn
  by_cases hs : n ≤ 1048576
  · have h1 : (0 : Int) ≤ 1048576 - (n : Int) := by omega
    go_enter Try.func13, Try.ntmps13
    go_wp2
    go_loop [1, 5] (fun l i => ∃ k m : Nat, k ≤ n ∧ i = .int .i64 k ∧ l = .int .i64 m ∧ m ≤ 1048576 ∧ ∀ j, j < k → (rs.getD j []).length ≤ 1048576) (fun _ i => n - (intOf i).toNat)
    case atStart => exact ⟨0, 1048576 - n, Nat.zero_le _, rfl, by go_num, by omega, fun j hj => absurd hj (Nat.not_lt_zero _)⟩
    case round =>
      obtain ⟨k, m, hk, rfl, rfl, hm1, hall⟩ := hrel
      have HA := Lib.hid hall
      clear hall
      by_cases hlt : k < n
      · obtain ⟨g, o, rfl, hg, a', c', q1, _⟩ := H.out.row hlt
        obtain ⟨d, hd⟩ : ∃ d, d = (rs.getD k []).length := ⟨_, rfl⟩
        have HD := Lib.hid hd
        have hdm : d ≤ maxLen := by rw [hd]; exact HM.out k hlt
        rw [← hd] at q1
        clear hd
        have b1 : (k : Int) < (n : Int) := by omega
        have b2 : (0 : Int) ≤ (k : Int) := by omega
        by_cases hdl : d ≤ m
        · have hcall : Hid (∀ w, Calls Try.prog 29 #[.slice a' d c', .int .i64 m] w fun e w' => e = .returned (.int .i64 ((m - d : Nat) : Int)) ∧ w = w') := Lib.hid (fun w => by have h := szIntS_is a' d c' m w hm1 hdm; rw [if_pos hdl] at h; exact h)
          go_wp2_with fail
          refine (hcall.out _).mono ?_
          rintro e w1 ⟨rfl, rfl⟩
          have b3 : (0 : Int) ≤ ((m - d : Nat) : Int) := by omega
          go_wp2
          go_round
          case rel =>
            refine ⟨k + 1, m - d, by omega, by go_num, rfl, by omega, fun j hj => ?_⟩
            rcases Nat.lt_or_ge j k with a | a
            · exact HA.out j a
            · obtain rfl : j = k := by omega
              rw [← HD.out]; omega
          case measure => simp [intOf]; omega
        · have hcall : Hid (∀ w, Calls Try.prog 29 #[.slice a' d c', .int .i64 m] w fun e w' => e = .returned (.int .i64 (-1)) ∧ w = w') := Lib.hid (fun w => by have h := szIntS_is a' d c' m w hm1 hdm; rw [if_neg hdl] at h; exact h)
          go_wp2_with fail
          refine (hcall.out _).mono ?_
          rintro e w1 ⟨rfl, rfl⟩
          go_wp2
          go_ret
          exact ⟨⟨-1, rfl, .inl (by decide)⟩, rfl⟩
      · obtain rfl : k = n := by omega
        go_wp2
        go_ret
        exact ⟨⟨m, rfl, .inr ⟨by omega, hs, fun i hi => HA.out i (by have := H.out.len; omega)⟩⟩, rfl⟩
  · have h1 : (1048576 : Int) - (n : Int) < 0 := by omega
    go_enter Try.func13, Try.ntmps13
    go_wp2
    go_ret
    exact ⟨⟨-1, rfl, .inl (by decide)⟩, rfl⟩

set_option maxRecDepth 100000 in
set_option maxHeartbeats 1000000 in
theorem eqIntSS_same (a1 a2 : Option Addr) (n c1 c2 : Nat) (rs : List (List Int)) (w : World) (h1 : ReadsR w a1 n rs) (h2 : ReadsR w a2 n rs) (hn : n ≤ 1048576) (hs : Short rs) :
    Calls Try.prog 17 #[.slice a1 n c1, .slice a2 n c2] w fun e w' => e = .returned (.bool true) ∧ Below w.heap.size w w' := by
  have H1 := Lib.hid h1
  have H2 := Lib.hid h2
  have HS := Lib.hid hs
  clear h1 h2 hs
  go_enter Try.func17, Try.ntmps17
  go_wp2
  go_loopw [5] (fun i wr => ∃ k : Nat, k ≤ n ∧ i = .int .i64 k ∧ Below w.heap.size w wr) (fun i _ => n - (intOf i).toNat)
  case atStart => exact ⟨0, Nat.zero_le _, rfl, Below.refl _ _⟩
  case round =>
    obtain ⟨k, hk, rfl, hB⟩ := hrel
    have HB := Lib.hid hB
    by_cases hlt : k < n
    · obtain ⟨g1, o1, rfl, hg1, b1, d1, q1, r1⟩ := (H1.out.below hB (Nat.le_refl _)).row hlt
      obtain ⟨g2, o2, rfl, hg2, b2, d2, q2, r2⟩ := (H2.out.below hB (Nat.le_refl _)).row hlt
      have hd := HS.out k (by rw [H1.out.len]; exact hlt)
      obtain ⟨d, hde⟩ : ∃ d, d = (rs.getD k []).length := ⟨_, rfl⟩
      obtain ⟨zs, hz⟩ : ∃ zs, zs = rs.getD k [] := ⟨_, rfl⟩
      rw [← hde] at q1 q2 r1 r2 hd
      rw [← hz] at r1 r2
      have R1 := Lib.hid r1
      have R2 := Lib.hid r2
      clear r1 r2 hde hz hB
      have HQ := Lib.hid (fun m => eqIntS_same b1 b2 d d1 d2 zs (wr.drewN m) (readsI_drewN R1.out _) (readsI_drewN R2.out _) hd)
      have f1 : (k : Int) < (n : Int) := by omega
      have f2 : (0 : Int) ≤ (k : Int) := by omega
      go_wp2
      go_quiet ((go_at_call 10; exact Calls.quiet_of (HQ.out _)))
      go_wp2
      go_roundw
      case rel => exact ⟨k + 1, by omega, by go_num, below_drewN HB.out _⟩
      case measure => simp [intOf]; omega
    · go_wp2
      go_ret
      exact ⟨rfl, HB.out⟩

theorem Try.infoInts : (Try.prog.info? 22).map (fun i => (i.zero, i.size, i.bytes)) = some (some (.slice none 0 0), 1, 24) := by kernel_rfl

theorem readsI_setCell {w : World} {a : Option Addr} {n : Nat} {zs : List Int} (h : ReadsI w a n zs) (p : Addr) (u : Value) (hd : ∀ y, a = some y → y.block ≠ p.block) : ReadsI (w.setCell p u) a n zs := by
  obtain ⟨hl, hc⟩ := h
  refine ⟨hl, ?_⟩
  rcases hc with hc | ⟨g, o, ha, hg, hc⟩
  · exact .inl hc
  · refine .inr ⟨g, o, ha, by simp [World.setCell]; exact hg, fun i hi => ?_⟩
    rw [← hc i hi]
    exact World.cell?_of_block (w := w) (a := ⟨g, o + i, none⟩) (heap_setCell_other w p g u (hd _ ha))

/-- The rows that toIntSS has laid so far. -/
def LaidRows (w : World) (g0 : Nat) (rs : List (List Int)) (xs : List Value) (k : Nat) : Prop :=
  ∀ i, i < k → ∃ g, g0 < g ∧ xs[i]? = some (.slice (some ⟨g, 0, none⟩) (rs.getD i []).length (rs.getD i []).length) ∧ ReadsI w (some ⟨g, 0, none⟩) (rs.getD i []).length (rs.getD i [])
theorem LaidRows.below {w w' : World} {g0 k : Nat} {rs : List (List Int)} {xs : List Value} (h : LaidRows w g0 rs xs k) (hb : Below w.heap.size w w') : LaidRows w' g0 rs xs k := fun i hi => by
  obtain ⟨g, h1, h2, h3⟩ := h i hi
  exact ⟨g, h1, h2, h3.below hb (Nat.le_refl _)⟩
theorem LaidRows.stored {w : World} {g0 k g : Nat} {rs : List (List Int)} {xs : List Value} (h : LaidRows w g0 rs xs k) (hk : k < xs.length) (hg : g0 < g) (hr : ReadsI w (some ⟨g, 0, none⟩) (rs.getD k []).length (rs.getD k [])) :
    LaidRows (w.setCell ⟨g0, k, none⟩ (.slice (some ⟨g, 0, none⟩) (rs.getD k []).length (rs.getD k []).length)) g0 rs (xs.set k (.slice (some ⟨g, 0, none⟩) (rs.getD k []).length (rs.getD k []).length)) (k + 1) := fun i hi => by
  by_cases e : k = i
  · subst e
    exact ⟨g, hg, by rw [List.getElem?_set_self hk], readsI_setCell hr _ _ (fun y hy => by cases hy; exact Nat.ne_of_gt hg)⟩
  · obtain ⟨g', h1, h2, h3⟩ := h i (by omega)
    exact ⟨g', h1, by rw [List.getElem?_set_ne e]; exact h2, readsI_setCell h3 _ _ (fun y hy => by cases hy; exact Nat.ne_of_gt h1)⟩

theorem laid_reads {w : World} {g0 n cap : Nat} {rs : List (List Int)} {xs : List Value} (hl : rs.length = n) (h : LaidRows w g0 rs xs n) (hown : w.ownsRow g0 22 1 (.slice (some ⟨g0, 0, none⟩) n cap) n xs) : ReadsR w (some ⟨g0, 0, none⟩) n rs := by
  refine ⟨hl, .inr ⟨g0, 0, rfl, (hown.lt _ rfl).2, fun i hi => ?_⟩⟩
  obtain ⟨g, h1, h2, h3⟩ := h i hi
  have hc := hown.cellAt i (by omega)
  rw [h2] at hc
  exact ⟨_, _, by rw [Nat.zero_add]; exact hc, h3⟩

set_option maxRecDepth 100000 in
set_option maxHeartbeats 1000000 in
theorem toIntSS_any (a : Option Addr) (n c : Nat) (rs : List (List Int)) (w : World) (h : ReadsR w a n rs) (hn : n ≤ 1048576) (hs : Short rs) :
    Calls Try.prog 15 #[.slice a n c] w fun e w' =>
      e = .returned (.slice (some ⟨w.heap.size, 0, none⟩) n n) ∧ Below w.heap.size w w' ∧ ReadsR w' (some ⟨w.heap.size, 0, none⟩) n rs := by
  obtain ⟨i0, hi, hz0, hz1, hz2⟩ := info_parts Try.infoInts
  have H := Lib.hid h
  have HS := Lib.hid hs
  have hlen := h.len
  clear h hs
  go_enter Try.func15, Try.ntmps15
  go_wp2_with (at_make; refine wpList_make_full _ rfl _ _ 28 rfl w.heap.size 22 i0 (.slice none 0 0) 1 Try.underlying28 hi hz0 hz1 .i64 .i64 _ _ n rfl rfl rfl rfl ?b2 ?b3 ?b4 ?_)
  case b2 => rw [hz2]; omega
  case b3 => unfold maxLen; omega
  case b4 => exact Nat.le_refl _
  intro w1 hown1 hgrow1
  have HB1 := Lib.hid ((Below.refl w.heap.size w).grown hgrow1 (Nat.le_refl _) (fun k hk => by cases hk))
  obtain ⟨xs0, HO1⟩ : ∃ xs0, Hid (w1.ownsRow w.heap.size 22 1 (.slice (some ⟨w.heap.size, 0, none⟩) n n) n xs0) := ⟨_, Lib.hid hown1⟩
  clear hgrow1 hown1
  go_wp2
  go_loopw [4] (fun i wr => ∃ k : Nat, k ≤ n ∧ i = .int .i64 k ∧ Below w.heap.size w wr ∧ ∃ xs, wr.ownsRow w.heap.size 22 1 (.slice (some ⟨w.heap.size, 0, none⟩) n n) n xs ∧ LaidRows wr w.heap.size rs xs k)
    (fun i _ => n - (intOf i).toNat)
  case atStart => exact ⟨0, Nat.zero_le _, rfl, HB1.out, xs0, HO1.out, fun i hi => absurd hi (Nat.not_lt_zero _)⟩
  case round =>
    obtain ⟨k, hk, rfl, hB, xs, hown, hxs⟩ := hrel
    by_cases hlt : k < n
    · obtain ⟨g1, o1, rfl, hg1, b1, d1, q1, r1⟩ := (H.out.below hB (Nat.le_refl _)).row hlt
      have hd := HS.out k (by rw [hlen]; exact hlt)
      obtain ⟨d, hde⟩ : ∃ d, d = (rs.getD k []).length := ⟨_, rfl⟩
      rw [← hde] at q1 hd
      have R1 : Hid (ReadsI wr b1 d (rs.getD k [])) := Lib.hid (by rw [hde]; exact r1)
      have HDE := Lib.hid hde
      have HB := Lib.hid hB
      have HO := Lib.hid hown
      have HX := Lib.hid hxs
      clear hB hown hxs hde r1
      go_wp2_with fail
      refine (toIntS_any b1 d d1 (rs.getD k []) _ R1.out hd).mono ?_
      rintro e w3 ⟨rfl, hb3, hown3⟩
      have hlt3 : w.heap.size < wr.heap.size := by
        exact (HO.out.lt _ rfl).2
      have ho3 := own_below HO.out hb3 (Nat.le_refl _)
      have hc0 := ho3.cellAt k (by omega)
      have hf0 := ho3.frozenAt k
      have hxl := ho3.1
      obtain ⟨y, hy⟩ : ∃ y, xs[k]? = some y := ⟨_, List.getElem?_eq_getElem (by omega)⟩
      rw [hy] at hc0
      have HS3 := Lib.hid (ho3.stored k (.slice (some ⟨wr.heap.size, 0, none⟩) d d)).1
      have HX3 : Hid (LaidRows (w3.setCell ⟨w.heap.size, k, none⟩ (.slice (some ⟨wr.heap.size, 0, none⟩) d d)) w.heap.size rs (xs.set k (.slice (some ⟨wr.heap.size, 0, none⟩) d d)) (k + 1)) := Lib.hid (by
        have h := (HX.out.below hb3).stored (k := k) (g := wr.heap.size) (by omega) hlt3 (by rw [← HDE.out]; exact readsI_own hown3)
        rw [← HDE.out] at h
        exact h)
      have HB3 := Lib.hid ((HB.out.trans (hb3.mono HB.out.size)).setCell (p := ⟨w.heap.size, k, none⟩) (Nat.le_refl _) (.slice (some ⟨wr.heap.size, 0, none⟩) d d))
      clear hb3 hown3 ho3 hy
      go_wp2
      go_roundw
      case rel => exact ⟨k + 1, by omega, by go_num, HB3.out, _, HS3.out, HX3.out⟩
      case measure => simp [intOf]; omega
    · obtain rfl : k = n := by omega
      have HR := Lib.hid (laid_reads hlen hxs hown)
      have HB := Lib.hid hB
      clear hown hxs hB
      go_wp2
      go_ret
      exact ⟨rfl, HB.out, HR.out⟩

end Go.Proofs.Ytdcedkjoligekab
