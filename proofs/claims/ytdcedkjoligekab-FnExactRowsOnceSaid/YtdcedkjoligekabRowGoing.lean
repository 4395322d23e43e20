/-
  The walk of impl.goingOf: the rows that go on, begun as early as their steps allow.
-/
import Derived.Test.YtdcedkjoligekabRowList
namespace Go.Proofs.Ytdcedkjoligekab
open Go.RowKit
set_option linter.unusedVariables false

/-- The rows that go on. -/
def going (l : List Rw) : List Rw := (l.filter fun r => decide (0 < r.s)).map Rw.early
theorem going_take (l : List Rw) (k : Nat) (h : k < l.length) : going (l.take (k + 1)) = if 0 < (l.getD k default).s then going (l.take k) ++ [(l.getD k default).early] else going (l.take k) := by
  unfold going
  rw [List.take_succ_eq_append_getElem h, List.filter_append, List.map_append, List.getD_eq_getElem?_getD, List.getElem?_eq_getElem h]
  show _ = if 0 < (l[k]).s then _ ++ [(l[k]).early] else _
  by_cases h0 : 0 < (l[k]).s
  · rw [if_pos h0]; simp [h0]
  · rw [if_neg h0]; simp [h0]
theorem going_le (l : List Rw) : (going l).length ≤ l.length := by unfold going; rw [List.length_map]; exact List.length_filter_le _ _
theorem going_mem {l : List Rw} {q : Rw} (h : q ∈ going l) : ∃ r ∈ l, 0 < r.s ∧ q = r.early := by
  unfold going at h
  obtain ⟨r, hr, rfl⟩ := List.mem_map.1 h
  obtain ⟨h1, h2⟩ := List.mem_filter.1 hr
  exact ⟨r, h1, of_decide_eq_true h2, rfl⟩
theorem mem_going {l : List Rw} {r : Rw} (h : r ∈ l) (h0 : 0 < r.s) : r.early ∈ going l := by
  unfold going
  exact List.mem_map.2 ⟨r, List.mem_filter.2 ⟨h, decide_eq_true h0⟩, rfl⟩
theorem mem_getD {l : List Rw} {i : Nat} (h : i < l.length) : l.getD i default ∈ l := by
  rw [List.getD_eq_getElem?_getD, List.getElem?_eq_getElem h]; exact List.getElem_mem _

/-- A list of rows of the call's own. -/
def ListRw (l : List Rw) (w : World) (e : Ending) (w' : World) : Prop :=
  Below w.heap.size w w' ∧ ∃ a c, e = .returned (.slice a l.length c) ∧ w'.ownsRow w.heap.size 39 2 (.slice a l.length c) l.length (rwCells l)

theorem box3 {w : World} {x y : Value} {wr : World} (hb : Below (w.alloc (.cells #[x, y] 39)).heap.size (w.alloc (.cells #[x, y] 39)) wr) :
    wr.cell? ⟨w.heap.size, 0, none⟩ = some x ∧ wr.cell? ⟨w.heap.size, 1, none⟩ = some y := by
  obtain ⟨q0, q1⟩ := bcell hb
  rw [q0 _ _ (by simp), q0 _ _ (by simp)]
  go_simp

set_option maxRecDepth 100000 in
set_option maxHeartbeats 2000000 in
theorem goingOf_is (a : Option Addr) (n c : Nat) (l : List Rw) (w : World) (h : ReadsL w a n l) (hn : n ≤ 20) (hf : ∀ r ∈ l, r.Fits) :
    Calls Try.prog 33 #[.slice a n c] w (ListRw (going l) w) := by
  obtain ⟨i0, hi, hz0, hz1, hz2⟩ := info_parts Try.infoRow
  have H := Lib.hid h
  have HF := Lib.hid hf
  have hlen := h.len
  clear h hf
  go_enter Try.func33, Try.ntmps33
  go_wp2
  go_loopw [3, 9] (fun v i wr => ∃ k : Nat, k ≤ n ∧ i = .int .i64 k ∧ Below w.heap.size w wr ∧ wr.ownsRow w.heap.size 39 2 v (going (l.take k)).length (rwCells (going (l.take k))))
    (fun _ i _ => n - (intOf i).toNat)
  case atStart => exact ⟨0, Nat.zero_le _, rfl, (Below.refl _ _).alloc (Nat.le_refl _) _, rows_start w⟩
  case round =>
    obtain ⟨k, hk, rfl, hB, hown⟩ := hrel
    have HB := Lib.hid hB
    have HO := Lib.hid hown
    have hgl : (going (l.take k)).length ≤ 20 := Nat.le_trans (going_le _) (by rw [List.length_take]; omega)
    clear hown
    by_cases hlt : k < n
    · obtain ⟨g1, o1, b, s, rfl, hg1, hbs, q0, q1⟩ := (H.out.below hB (Nat.le_refl _)).row hlt
      have hfit := HF.out _ (mem_getD (l := l) (i := k) (by omega))
      rw [hbs] at hfit
      have hb59 : b ≤ 59 := hfit.1
      have hs60 : s ≤ 60 := hfit.2
      have HT := Lib.hid (going_take l k (by omega))
      have f1 : (k : Int) < (n : Int) := by omega
      have f2 : (0 : Int) ≤ (k : Int) := by omega
      have hsz := hB.size
      clear hB hfit
      by_cases h0 : 0 < s
      · have HT2 : Hid (going (l.take (k + 1)) = going (l.take k) ++ [(Rw.mk b s).early]) := Lib.hid (by rw [HT.out, hbs, if_pos h0])
        have f3 : (0 : Int) < (s : Int) := by omega
        clear hbs
        go_wp2_with fail
        refine (rowEarly_is ⟨b, s⟩ _ h0 (by show s ≤ 1000000; omega) (by show b ≤ 1000000; omega)).mono ?_
        rintro e w3 ⟨rfl, hb3⟩
        have HB1 := HB.out.alloc HB.out.size (.cells #[.int .i64 b, .int .i64 s] 39)
        have HB3 := Lib.hid (HB1.trans (hb3.mono HB1.size))
        have hown3 := own_below (HO.out.alloc (.cells #[.int .i64 b, .int .i64 s] 39)) hb3 (Nat.le_refl _)
        obtain ⟨q, hq⟩ : ∃ q, q = (Rw.mk b s).early := ⟨_, rfl⟩
        rw [← hq] at HT2 ⊢
        obtain ⟨x, y⟩ := q
        clear hb3 HB1 hq
        unfold rwV
        have hsz3 := HB3.out.size
        go_wp2_with
          (at_builtin; refine wpList_append_own _ rfl _ _ 50 rfl w.heap.size 39 i0 (.agg #[.int .i64 0, .int .i64 0]) 2 16 Try.underlying50 hi hz0 hz1 hz2 rfl (by decide) _ _ _ rfl (hown3.alloc _) ⟨w3.heap.size, 0, none⟩ 1 1 [.int .i64 x, .int .i64 y] rfl rfl ?c1 ?c2 ?c3 ?c4 ?c5 ?_)
        case c1 =>
          intro j u hj
          match j, hj with
          | 0, hj => simp at hj; subst hj; simp [Addr.add]
          | 1, hj => simp at hj; subst hj; simp [Addr.add]
        case c2 => intro u hu; simp at hu; rcases hu with rfl | rfl <;> rfl
        case c3 => unfold maxLen; omega
        case c4 => omega
        case c5 => simp; omega
        intro v' w4 hown4 hgrow _
        have R := rows_rel (r := ⟨x, y⟩) hown3 HB3.out (Nat.le_refl _) hsz3 hown4 hgrow
        have HL : Hid ((going (l.take k)).length + 1 = (going (l.take (k + 1))).length) := Lib.hid (by rw [HT2.out, List.length_append]; rfl)
        rw [← HT2.out, HL.out] at R
        clear hown4 hgrow hown3
        go_wp2
        go_roundw
        case rel => exact ⟨k + 1, by omega, by go_num, R.2, R.1⟩
        case measure => simp [intOf]; omega
      · have HT2 : Hid (going (l.take (k + 1)) = going (l.take k)) := Lib.hid (by rw [HT.out, hbs, if_neg h0])
        have f3 : (s : Int) ≤ 0 := by omega
        clear hbs
        go_wp2
        go_roundw
        case rel => exact ⟨k + 1, by omega, by go_num, HB.out.alloc HB.out.size _, by rw [HT2.out]; exact HO.out.alloc _⟩
        case measure => simp [intOf]; omega
    · obtain rfl : k = n := by omega
      have e : l.take k = l := List.take_of_length_le (by omega)
      have HE := Lib.hid e
      clear e hB
      have ho := HO.out
      rw [HE.out] at ho
      obtain ⟨a, c, rfl⟩ := own_form ho
      have HO2 := Lib.hid ho
      clear ho
      go_wp2
      go_ret
      exact ⟨HB.out, a, c, rfl, HO2.out⟩
end Go.Proofs.Ytdcedkjoligekab
