/-
  The rows of a set: plain facts. The rows of a set tell it, each number by one row: plain facts.
-/
import Derived.Test.YtdcedkjoligekaaDrawRows
import Derived.Test.YtdcedkjoligekaaTidy
namespace Go.Proofs.Ytdcedkjoligekaa
open Go.RowKit

set_option linter.unusedVariables false

/-- The row of a number, behind a tail of the size T, with a ring of the size q. -/
def rowZ (T q n : Nat) : List Int := [(n : Int), if n < T then 0 else (q : Int)]
/-- The rows of the numbers that are less than k. -/
def rowsN (f : Nat → Bool) (T q k : Nat) : List (List Int) := ((List.range k).filter f).map (rowZ T q)
theorem rowsN_zero (f : Nat → Bool) (T q : Nat) : rowsN f T q 0 = [] := rfl
theorem rowsN_hit {f : Nat → Bool} {T q k : Nat} (h : f k = true) : rowsN f T q (k + 1) = rowsN f T q k ++ [rowZ T q k] := by
  unfold rowsN; rw [List.range_succ, List.filter_append]; simp [h]
theorem rowsN_miss {f : Nat → Bool} {T q k : Nat} (h : f k = false) : rowsN f T q (k + 1) = rowsN f T q k := by
  unfold rowsN; rw [List.range_succ, List.filter_append]; simp [h]
theorem rowsN_le (f : Nat → Bool) (T q k : Nat) : (rowsN f T q k).length ≤ k := by
  unfold rowsN; rw [List.length_map]; exact Nat.le_trans (List.length_filter_le _ _) (by simp)
theorem rowsN_mem {f : Nat → Bool} {T q k : Nat} {z : List Int} : z ∈ rowsN f T q k ↔ ∃ n, n < k ∧ f n = true ∧ rowZ T q n = z := by
  unfold rowsN; simp [List.mem_map, List.mem_filter, and_assoc]
theorem rowsN_pre (f : Nat → Bool) (T q : Nat) {k l : Nat} (h : k ≤ l) : ∃ zs, rowsN f T q l = rowsN f T q k ++ zs := by
  induction l with
  | zero => obtain rfl : k = 0 := by omega
            exact ⟨[], rfl⟩
  | succ l ih =>
    rcases Nat.lt_or_ge l k with hk | hk
    · obtain rfl : k = l + 1 := by omega
      exact ⟨[], (List.append_nil _).symm⟩
    · obtain ⟨zs, e⟩ := ih hk
      cases hf : f l
      · exact ⟨zs, by rw [rowsN_miss hf, e]⟩
      · exact ⟨zs ++ [rowZ T q l], by rw [rowsN_hit hf, e, List.append_assoc]⟩
theorem rowZ_good {T q n : Nat} (hq : q ≤ 60) : goodRow (rowZ T q n) = decide (n ≤ 59) := by
  unfold rowZ goodRow
  by_cases h : n < T
  · rw [if_pos h, Bool.eq_iff_iff]; simp; omega
  · rw [if_neg h, Bool.eq_iff_iff]; simp; omega
/-- Do the rows of a set make a list of rows? -/
def okOf (f : Nat → Bool) (T q : Nat) : Bool := goodRows (rowsN f T q (T + q))
/-- The rows of a set, where they make a list of rows. -/
def ofRows (f : Nat → Bool) (T q : Nat) : List (List Int) := if okOf f T q = true then rowsN f T q (T + q) else []
/-- So far all is well. -/
def OfFar (f : Nat → Bool) (T q k : Nat) : Prop := (rowsN f T q k).length ≤ 20 ∧ ∀ n, n < k → f n = true → n ≤ 59
theorem ofFar_zero (f : Nat → Bool) (T q : Nat) : OfFar f T q 0 := ⟨Nat.zero_le _, fun n hn => absurd hn (Nat.not_lt_zero _)⟩
theorem ofFar_hit {f : Nat → Bool} {T q k : Nat} (h : OfFar f T q k) (hf : f k = true) (h1 : k ≤ 59) (h2 : (rowsN f T q k).length ≠ 20) : OfFar f T q (k + 1) := by
  refine ⟨by rw [rowsN_hit hf, List.length_append]; have := h.1; simp; omega, fun n hn hfn => ?_⟩
  by_cases e : n = k
  · omega
  · exact h.2 n (by omega) hfn
theorem ofFar_miss {f : Nat → Bool} {T q k : Nat} (h : OfFar f T q k) (hf : f k = false) : OfFar f T q (k + 1) := by
  refine ⟨by rw [rowsN_miss hf]; exact h.1, fun n hn hfn => ?_⟩
  by_cases e : n = k
  · subst e; rw [hf] at hfn; cases hfn
  · exact h.2 n (by omega) hfn
theorem ofFar_done {f : Nat → Bool} {T q : Nat} (hq : q ≤ 60) (h : OfFar f T q (T + q)) : okOf f T q = true := by
  unfold okOf goodRows
  rw [Bool.and_eq_true, decide_eq_true_eq, List.all_eq_true]
  refine ⟨h.1, fun z hz => ?_⟩
  obtain ⟨n, hn, hf, rfl⟩ := rowsN_mem.1 hz
  rw [rowZ_good hq, decide_eq_true_eq]
  exact h.2 n hn hf
theorem of_late {f : Nat → Bool} {T q k : Nat} (hq : q ≤ 60) (hk : k < T + q) (hf : f k = true) (h : ¬ k ≤ 59) : okOf f T q = false := by
  rw [Bool.eq_false_iff]
  intro e
  unfold okOf goodRows at e
  rw [Bool.and_eq_true, List.all_eq_true] at e
  have := e.2 _ (rowsN_mem.2 ⟨k, hk, hf, rfl⟩)
  rw [rowZ_good hq, decide_eq_true_eq] at this
  exact h this
theorem of_many {f : Nat → Bool} {T q k : Nat} (hk : k < T + q) (hf : f k = true) (h : (rowsN f T q k).length = 20) : okOf f T q = false := by
  rw [Bool.eq_false_iff]
  intro e
  unfold okOf goodRows at e
  rw [Bool.and_eq_true, decide_eq_true_eq] at e
  obtain ⟨zs, hz⟩ := rowsN_pre f T q (Nat.succ_le_of_lt hk)
  have h1 := e.1
  rw [hz, rowsN_hit hf, List.length_append, List.length_append] at h1
  simp at h1
  omega
theorem ofRows_on {f : Nat → Bool} {T q : Nat} (h : okOf f T q = true) : ofRows f T q = rowsN f T q (T + q) := if_pos h
theorem ofRows_off {f : Nat → Bool} {T q : Nat} (h : okOf f T q = false) : ofRows f T q = [] := if_neg (by rw [h]; exact Bool.false_ne_true)
theorem ofRows_good (f : Nat → Bool) (T q : Nat) : goodRows (ofRows f T q) = true := by
  cases h : okOf f T q
  · rw [ofRows_off h]; decide
  · rw [ofRows_on h]; exact h

/-- Rows of the call's own, and whether they count. -/
def RowsEnd (rs : List (List Int)) (b : Bool) (w : World) (e : Ending) (w' : World) : Prop :=
  ∃ a n c, e = .returned (.tuple #[.slice a n c, .bool b]) ∧ Below w.heap.size w w' ∧ OwnRows w' w.heap.size (.slice a n c) rs

theorem OwnRows.formN {w : World} {B : Nat} {v : Value} {rs : List (List Int)} (h : OwnRows w B v rs) : ∃ a c, v = .slice a rs.length c := by
  obtain ⟨xs, G, h1, _⟩ := h
  exact own_form h1

theorem rowsN_short (f : Nat → Bool) (T q k : Nat) : Short (rowsN f T q k) := fun i hi => by
  rw [List.getD_eq_getElem?_getD, List.getElem?_eq_getElem hi]
  obtain ⟨n, _, _, e⟩ := rowsN_mem.1 (List.getElem_mem hi)
  show (rowsN f T q k)[i].length ≤ _
  rw [← e]
  unfold rowZ
  simp

theorem OwnRows.base {w : World} {B B' : Nat} {v : Value} {rs : List (List Int)} (h : OwnRows w B v rs) (hB : B' ≤ B) : OwnRows w B' v rs := by
  obtain ⟨xs, G, h1, h2⟩ := h
  exact ⟨xs, G, own_base h1 hB, fun i hi => ⟨(h2 i hi).1, own_base (h2 i hi).2.1 hB, (h2 i hi).2.2⟩⟩

set_option linter.unusedVariables false

theorem range_one (b0 k : Nat) : (List.range k).countP (fun b => b == b0) = if b0 < k then 1 else 0 := by
  induction k with
  | zero => simp
  | succ k ih =>
    rw [List.range_succ, List.countP_append, ih, List.countP_singleton]
    by_cases e : k = b0
    · subst e; simp
    · have e2 : (k == b0) = false := beq_eq_false_iff_ne.2 e
      rw [e2]
      by_cases h : b0 < k
      · have h2 : b0 < k + 1 := by omega
        simp [h, h2]
      · have h2 : ¬ b0 < k + 1 := by omega
        simp [h, h2]
/-- Where the row of a number begins. -/
def beginOf (m q n : Nat) : Nat := if n < m then n else m + (n - m) % q
theorem beginOf_lt {m q : Nat} (n : Nat) (hq : 0 < q) : beginOf m q n < m + q := by
  unfold beginOf
  split
  · omega
  · have := Nat.mod_lt (n - m) hq; omega
theorem beginOf_same {f : Nat → Bool} {m q : Nat} (h : Tidy f m q) (n : Nat) : f (beginOf m q n) = f n := by
  unfold beginOf
  split
  · rfl
  · have e : n = m + (n - m) % q + (n - m) / q * q := by have := Nat.div_add_mod (n - m) q; rw [Nat.mul_comm] at this; omega
    have := per_rounds h.per ((n - m) / q) (m + (n - m) % q) (by omega)
    rw [← e] at this
    exact this.symm
theorem rowZ_has {m q : Nat} (n b : Nat) (hq : 0 < q) (hb : b < m + q) : (theRow (rowZ m q b)).has n = (b == beginOf m q n) := by
  have e1 : (theRow (rowZ m q b)) = ⟨b, if b < m then 0 else q⟩ := by
    unfold theRow rowZ
    by_cases h : b < m
    · simp [h]
    · simp [h]
  rw [e1, Bool.eq_iff_iff, beq_iff_eq]
  by_cases h : b < m
  · rw [if_pos h, has_zero rfl]
    show n = b ↔ _
    unfold beginOf
    by_cases hn : n < m
    · rw [if_pos hn]; omega
    · rw [if_neg hn]; omega
  · rw [if_neg h, has_pos hq]
    show b ≤ n ∧ q ∣ n - b ↔ _
    unfold beginOf
    by_cases hn : n < m
    · rw [if_pos hn]; omega
    · rw [if_neg hn]
      constructor
      · rintro ⟨h1, t, ht⟩
        have e2 : n - m = (b - m) + q * t := by omega
        rw [e2, Nat.add_mul_mod_self_left, Nat.mod_eq_of_lt (by omega)]
        omega
      · intro e2
        have h3 := Nat.div_add_mod (n - m) q
        refine ⟨by omega, (n - m) / q, by omega⟩
theorem rowsOf_count {f : Nat → Bool} {m q : Nat} (h : Tidy f m q) (n : Nat) : cnt (theRows (rowsN f m q (m + q))) n = if f n = true then 1 else 0 := by
  unfold cnt theRows rowsN
  rw [List.countP_map, List.countP_map, List.countP_filter]
  have e : (List.range (m + q)).countP (fun b => (((fun r : Rw => r.has n) ∘ theRow) ∘ rowZ m q) b && f b) = (List.range (m + q)).countP (fun b => b == beginOf m q n && f n) := by
    apply List.countP_congr
    intro b hb
    rw [List.mem_range] at hb
    show ((theRow (rowZ m q b)).has n && f b) = true ↔ _
    rw [rowZ_has n b h.pos hb]
    by_cases e : b = beginOf m q n
    · rw [e, beginOf_same h n]
    · rw [beq_eq_false_iff_ne.2 e]; simp
  rw [e]
  cases f n
  · simp
  · simp only [Bool.and_true]
    rw [range_one, if_pos (beginOf_lt n h.pos)]; rfl
theorem rowsOf_told {f : Nat → Bool} {m q : Nat} (h : Tidy f m q) : (fun n => decide (0 < cnt (theRows (rowsN f m q (m + q))) n)) = f := by
  funext n
  rw [rowsOf_count h]
  cases f n <;> rfl
theorem goodRow_two2 {z : List Int} (h : goodRow z = true) : z.length = 2 := by
  unfold goodRow at h
  simp only [Bool.and_eq_true, beq_iff_eq] at h
  exact h.1.1
theorem ofRows_small (f : Nat → Bool) (T q : Nat) : (ofRows f T q).length ≤ 20 ∧ ∀ i, i < (ofRows f T q).length → ((ofRows f T q).getD i []).length ≤ 2 := by
  have h := ofRows_good f T q
  unfold goodRows at h
  rw [Bool.and_eq_true, decide_eq_true_eq, List.all_eq_true] at h
  refine ⟨h.1, fun i hi => ?_⟩
  rw [List.getD_eq_getElem?_getD, List.getElem?_eq_getElem hi]
  exact Nat.le_of_eq (goodRow_two2 (h.2 _ (List.getElem_mem hi)))

end Go.Proofs.Ytdcedkjoligekaa
