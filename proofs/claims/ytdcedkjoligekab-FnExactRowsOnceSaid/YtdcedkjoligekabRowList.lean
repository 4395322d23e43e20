/-
  Lists of rows as the program holds them; the walk of impl.readRows.
-/
import Derived.Test.YtdcedkjoligekabRowRead
import Derived.Test.YtdcedkjoligekabLawRows
namespace Go.Proofs.Ytdcedkjoligekab
open Go.RowKit
set_option linter.unusedVariables false

theorem Try.infoRow : (Try.prog.info? 39).map (fun i => (i.zero, i.size, i.bytes)) = some (some (.agg #[.int .i64 0, .int .i64 0]), 2, 16) := by kernel_rfl

/-- The cells of a list of rows. -/
def rwCells (l : List Rw) : List Value := l.flatMap fun r => [.int .i64 r.b, .int .i64 r.s]
theorem rwCells_length (l : List Rw) : (rwCells l).length = l.length * 2 := by
  unfold rwCells
  induction l with
  | nil => rfl
  | cons r l ih => rw [List.flatMap_cons, List.length_append, ih]; simp; omega
theorem rwCells_snoc (l : List Rw) (r : Rw) : rwCells (l ++ [r]) = rwCells l ++ [.int .i64 r.b, .int .i64 r.s] := by unfold rwCells; rw [List.flatMap_append]; simp
theorem rwCells_get (l : List Rw) (i : Nat) (h : i < l.length) : (rwCells l)[i * 2]? = some (.int .i64 (l.getD i default).b) ∧ (rwCells l)[i * 2 + 1]? = some (.int .i64 (l.getD i default).s) := by
  induction l generalizing i with
  | nil => simp at h
  | cons r l ih =>
    have e : rwCells (r :: l) = .int .i64 r.b :: .int .i64 r.s :: rwCells l := rfl
    cases i with
    | zero => rw [e]; exact ⟨rfl, rfl⟩
    | succ i =>
      have := ih i (by simpa using h)
      rw [e, show (i + 1) * 2 = i * 2 + 1 + 1 from by omega]
      exact this

/-- A slice of rows reads as a list of rows. -/
structure ReadsL (w : World) (a : Option Addr) (n : Nat) (l : List Rw) : Prop where
  len : l.length = n
  cells : n = 0 ∨ ∃ g o, a = some ⟨g, o, none⟩ ∧ g < w.heap.size ∧ ∀ i, i < n → w.cell? ⟨g, o + i * 2, none⟩ = some (.int .i64 (l.getD i default).b) ∧ w.cell? ⟨g, o + i * 2 + 1, none⟩ = some (.int .i64 (l.getD i default).s)
theorem ReadsL.below {w w' : World} {a : Option Addr} {n B : Nat} {l : List Rw} (h : ReadsL w a n l) (hb : Below B w w') (hB : w.heap.size ≤ B) : ReadsL w' a n l := by
  obtain ⟨hl, hc⟩ := h
  refine ⟨hl, ?_⟩
  rcases hc with hc | ⟨g, o, ha, hg, hc⟩
  · exact .inl hc
  · refine .inr ⟨g, o, ha, by have := hb.size; omega, fun i hi => ?_⟩
    obtain ⟨h1, h2⟩ := hc i hi
    exact ⟨(hb.cell (p := ⟨g, o + i * 2, none⟩) (by exact Nat.lt_of_lt_of_le hg hB)).trans h1, (hb.cell (p := ⟨g, o + i * 2 + 1, none⟩) (by exact Nat.lt_of_lt_of_le hg hB)).trans h2⟩
theorem ReadsL.row {w : World} {a : Option Addr} {n : Nat} {l : List Rw} (h : ReadsL w a n l) {i : Nat} (hi : i < n) :
    ∃ g o b s, a = some ⟨g, o, none⟩ ∧ g < w.heap.size ∧ l.getD i default = ⟨b, s⟩ ∧ w.cell? ⟨g, o + i * 2, none⟩ = some (.int .i64 (b : Nat)) ∧ w.cell? ⟨g, o + i * 2 + 1, none⟩ = some (.int .i64 (s : Nat)) := by
  rcases h.cells with h0 | ⟨g, o, ha, hg, hc⟩
  · omega
  · exact ⟨g, o, _, _, ha, hg, rfl, hc i hi⟩
theorem readsL_own {w : World} {base c n : Nat} {a : Option Addr} {l : List Rw} (h : w.ownsRow base 39 2 (.slice a n c) n (rwCells l)) : ReadsL w a n l := by
  have hl : l.length = n := by have := h.1; rw [rwCells_length] at this; omega
  refine ⟨hl, ?_⟩
  rcases h.2 with ⟨hv, h0⟩ | ⟨g, cap, cur, hv, hg, hh, hn', hm, hs, ht⟩
  · exact .inl h0
  · right
    injection hv with ha hn2 hc
    subst ha
    have hlt : g < w.heap.size := by
      rcases Nat.lt_or_ge g w.heap.size with h | h
      · exact h
      · rw [Array.getElem?_eq_none h] at hh; cases hh
    have key : ∀ j v, j < n * 2 → (rwCells l)[j]? = some v → w.cell? ⟨g, 0 + j, none⟩ = some v := fun j v hj hv => by
      have e : cur[j]? = some v := by
        rw [← Array.getElem?_toList]
        have : (cur.toList.take (n * 2))[j]? = (rwCells l)[j]? := by rw [ht]
        rw [List.getElem?_take_of_lt hj] at this
        rw [this, hv]
      simp only [Nat.zero_add, World.cell?, hh]
      exact e
    refine ⟨g, 0, rfl, hlt, fun i hi => ?_⟩
    obtain ⟨h1, h2⟩ := rwCells_get l i (by omega)
    exact ⟨key _ _ (by omega) h1, by have := key _ _ (by omega) h2; rwa [← Nat.add_assoc] at this⟩

theorem getD_theRows (rs : List (List Int)) (i : Nat) (h : i < rs.length) : (theRows rs).getD i default = theRow (rs.getD i []) := by
  unfold theRows
  rw [List.getD_eq_getElem?_getD, List.getElem?_map, List.getD_eq_getElem?_getD, List.getElem?_eq_getElem h]; rfl
theorem take_theRows (rs : List (List Int)) (k : Nat) (h : k < rs.length) : (theRows rs).take (k + 1) = (theRows rs).take k ++ [theRow (rs.getD k [])] := by
  unfold theRows
  rw [List.take_succ_eq_append_getElem (by rw [List.length_map]; exact h), List.getElem_map, List.getD_eq_getElem?_getD, List.getElem?_eq_getElem h]; rfl

theorem rows_start (w : World) : (w.alloc (.cells #[] 39)).ownsRow w.heap.size 39 2 (.slice (some ⟨w.heap.size, 0, none⟩) 0 0) 0 (rwCells []) :=
  World.ownsRow_made (base := w.heap.size) (e := 39) (size := 2) w #[] 0 (Nat.le_refl _) (by decide) rfl

/-- What readRows hands back: a list of the call's own, or nothing. -/
def RowsOut (rs : List (List Int)) (w : World) (e : Ending) (w' : World) : Prop :=
  Below w.heap.size w w' ∧ ∃ a c n, e = .returned (.tuple #[.slice a n c, .bool (goodRows rs)]) ∧ (goodRows rs = true → n = rs.length ∧ w'.ownsRow w.heap.size 39 2 (.slice a n c) n (rwCells (theRows rs)))

theorem goodRows_bad {rs : List (List Int)} {k : Nat} (hk : k < rs.length) (h : goodRow (rs.getD k []) = false) : goodRows rs = false := by
  unfold goodRows
  have : rs.all goodRow = false := by
    rw [Bool.eq_false_iff]
    intro h2
    rw [List.all_eq_true] at h2
    have := h2 _ (List.getElem_mem hk)
    rw [List.getD_eq_getElem?_getD, List.getElem?_eq_getElem hk] at h
    rw [show (some rs[k]).getD [] = rs[k] from rfl, this] at h
    cases h
  rw [this, Bool.and_false]
theorem goodRows_all {rs : List (List Int)} (hl : rs.length ≤ 20) (h : ∀ i, i < rs.length → goodRow (rs.getD i []) = true) : goodRows rs = true := by
  unfold goodRows
  rw [decide_eq_true hl, Bool.true_and, List.all_eq_true]
  intro z hz
  obtain ⟨i, hi, rfl⟩ := List.getElem_of_mem hz
  have := h i hi
  rw [List.getD_eq_getElem?_getD, List.getElem?_eq_getElem hi] at this
  exact this

/-- Own row of the call's, behind an append of one row. -/
theorem rows_rel {B T0 n : Nat} {W wr w1 : World} {u v' : Value} {o : Obj} {l : List Rw} {r : Rw}
    (hown : wr.ownsRow T0 39 2 u n (rwCells l)) (hnx : Below B W wr) (hBT : B ≤ T0) (hBs : B ≤ wr.heap.size)
    (hown' : w1.ownsRow T0 39 2 v' (n + 1) (rwCells l ++ [.int .i64 r.b, .int .i64 r.s])) (hgrow : (wr.alloc o).grownBy w1 u.ownBlock) :
    w1.ownsRow T0 39 2 v' (n + 1) (rwCells (l ++ [r])) ∧ Below B W w1 := by
  refine ⟨by rw [rwCells_snoc]; exact hown', ?_⟩
  exact (hnx.alloc hBs o).grown hgrow (by simp; omega) (fun j hj => Nat.le_trans hBT (hown.lt j hj).1)

set_option maxRecDepth 100000 in
set_option maxHeartbeats 2000000 in
theorem readRows_is (a : Option Addr) (n c : Nat) (rs : List (List Int)) (w : World) (h : ReadsR w a n rs) (hn : n ≤ 1048576) (hs : Short rs) :
    Calls Try.prog 32 #[.slice a n c] w (RowsOut rs w) := by
  obtain ⟨i0, hi, hz0, hz1, hz2⟩ := info_parts Try.infoRow
  have H := Lib.hid h
  have HS := Lib.hid hs
  have hlen := h.len
  clear h hs
  by_cases h20 : n ≤ 20
  · go_enter Try.func32, Try.ntmps32
    go_wp2
    go_loopw [4, 15] (fun v i wr => ∃ k : Nat, k ≤ n ∧ i = .int .i64 k ∧ Below w.heap.size w wr ∧ wr.ownsRow w.heap.size 39 2 v k (rwCells ((theRows rs).take k)) ∧ ∀ j, j < k → goodRow (rs.getD j []) = true)
      (fun _ i _ => n - (intOf i).toNat)
    case atStart => exact ⟨0, Nat.zero_le _, rfl, (Below.refl _ _).alloc (Nat.le_refl _) _, rows_start w, fun j hj => absurd hj (Nat.not_lt_zero _)⟩
    case round =>
      obtain ⟨k, hk, rfl, hB, hown, hall⟩ := hrel
      have HB := Lib.hid hB
      have HO := Lib.hid hown
      have HA := Lib.hid hall
      clear hown hall
      by_cases hlt : k < n
      · obtain ⟨g1, o1, rfl, hg1, b1, d1, q1, r1⟩ := (H.out.below hB (Nat.le_refl _)).row hlt
        have hd := HS.out k (by rw [hlen]; exact hlt)
        obtain ⟨d, hde⟩ : ∃ d, d = (rs.getD k []).length := ⟨_, rfl⟩
        obtain ⟨z, hz⟩ : ∃ z, z = rs.getD k [] := ⟨_, rfl⟩
        rw [← hde] at q1 hd r1
        rw [← hz] at r1
        have R1 := Lib.hid r1
        have HZ := Lib.hid hz
        clear hde r1 hB hz
        go_wp2_with fail
        refine (readRow_is b1 d d1 z _ R1.out hd).mono ?_
        rintro e w3 ⟨⟨⟨b, s⟩, hr, rfl⟩, hb3⟩
        have HR := Lib.hid hr
        have HB3 := Lib.hid (HB.out.trans (hb3.mono HB.out.size))
        have hown3 := own_below HO.out hb3 (Nat.le_refl _)
        have hsz3 := HB3.out.size
        clear hb3 hr HO
        unfold rwV
        cases hg : goodRow z
        · have HG := Lib.hid (goodRows_bad (k := k) (by rw [hlen]; exact hlt) (by rw [← HZ.out]; exact hg))
          have HO3 := Lib.hid hown3
          clear hg hown3
          go_wp2
          go_ret2
          exact ⟨HB3.out.alloc hsz3 _, none, 0, 0, by rw [HG.out]; rfl, fun h => by rw [HG.out] at h; cases h⟩
        · have hr := HR.out hg
          have HG := Lib.hid hg
          clear hg
          go_wp2_with
            (at_builtin; refine wpList_append_own _ rfl _ _ 47 rfl w.heap.size 39 i0 (.agg #[.int .i64 0, .int .i64 0]) 2 16 Try.underlying47 hi hz0 hz1 hz2 rfl (by decide) _ _ _ rfl ((hown3.alloc _).alloc _) ⟨w3.heap.size + 1, 0, none⟩ 1 1 [.int .i64 b, .int .i64 s] rfl rfl ?c1 ?c2 ?c3 ?c4 ?c5 ?_)
          case c1 =>
            intro j u hj
            match j, hj with
            | 0, hj => simp at hj; subst hj; simp [Addr.add]
            | 1, hj => simp at hj; subst hj; simp [Addr.add]
          case c2 => intro u hu; simp at hu; rcases hu with rfl | rfl <;> rfl
          case c3 => unfold maxLen; omega
          case c4 => omega
          case c5 => simp; omega
          intro v' w4 hown4 hgrow _
          have R := rows_rel (r := ⟨b, s⟩) (hown3.alloc _) (HB3.out.alloc hsz3 _) (Nat.le_refl _) (by simp; omega) hown4 hgrow
          have HT : Hid ((theRows rs).take k ++ [⟨b, s⟩] = (theRows rs).take (k + 1)) := Lib.hid (by rw [take_theRows rs k (by rw [hlen]; exact hlt), hr, HZ.out])
          rw [HT.out] at R
          clear hown4 hgrow hown3
          go_wp2
          go_roundw
          case rel =>
            refine ⟨k + 1, by omega, by go_num, R.2, R.1, fun j hj => ?_⟩
            rcases Nat.lt_or_ge j k with a | a
            · exact HA.out j a
            · obtain rfl : j = k := by omega
              rw [← HZ.out]; exact HG.out
          case measure => simp [intOf]; omega
      · obtain rfl : k = n := by omega
        obtain ⟨a, c, rfl⟩ := own_form HO.out
        have hg : goodRows rs = true := goodRows_all (by omega) (fun i hi => HA.out i (by omega))
        have HG := Lib.hid hg
        have e : (theRows rs).take k = theRows rs := List.take_of_length_le (by unfold theRows; rw [List.length_map]; omega)
        have HE := Lib.hid e
        clear hg e hB
        go_wp2
        go_ret2
        exact ⟨HB.out, a, c, k, by rw [HG.out]; rfl, fun _ => ⟨hlen.symm, by have := HO.out; rw [HE.out] at this; exact this⟩⟩
  · have hg : goodRows rs = false := by unfold goodRows; rw [decide_eq_false (by omega), Bool.false_and]
    have HG := Lib.hid hg
    have d1 : (20 : Int) < (n : Int) := by omega
    clear hg
    go_enter Try.func32, Try.ntmps32
    go_wp2
    go_ret2
    exact ⟨Below.refl _ _, none, 0, 0, by rw [HG.out]; rfl, fun h => by rw [HG.out] at h; cases h⟩
end Go.Proofs.Ytdcedkjoligekab
