/-
  The rests by a prime of rows that cover once cover once themselves: plain facts.
-/
import Derived.Test.YtdcedkjoligekabOnceMath
namespace Go.Proofs.Ytdcedkjoligekab
set_option linter.unusedVariables false

theorem slice_inj {p s v i j : Nat} (hc : Nat.Coprime p s) (hij : i ≤ j) (hj : j < s) (h : (p * i + v) % s = (p * j + v) % s) : i = j := by
  have hd : s ∣ (p * j + v) - (p * i + v) := Nat.dvd_of_mod_eq_zero (Nat.sub_mod_eq_zero_of_mod_eq h.symm)
  have e : (p * j + v) - (p * i + v) = p * (j - i) := by
    rw [Nat.add_sub_add_right, ← Nat.mul_sub]
  rw [e] at hd
  have hd2 : s ∣ j - i := (Nat.Coprime.symm hc).dvd_of_dvd_mul_left hd
  rcases Nat.eq_zero_or_pos (j - i) with k | k
  · omega
  · have := Nat.le_of_dvd k hd2; omega
theorem slice_there {p s b v : Nat} (hc : Nat.Coprime p s) (hb : b < s) : ∃ c, c < s ∧ (p * c + v) % s = b := by
  obtain ⟨j, hj, h⟩ := pig (fun (r j : Nat) => (p * j + v) % s = r) ((List.range s).filter fun x => x != b) (List.range s) List.nodup_range (by
    have h1 : ((List.range s).filter fun x => x != b).length < (List.range s).length := by
      rw [List.length_filter_lt_length_iff_exists]
      exact ⟨b, List.mem_range.2 hb, by simp⟩
    exact h1) (by
    intro r hr i hi j hj h1 h2
    have hi := List.mem_range.1 hi
    have hj := List.mem_range.1 hj
    rcases Nat.le_total i j with k | k
    · exact slice_inj hc k hj (h1.trans h2.symm)
    · exact (slice_inj hc k hi (h2.trans h1.symm)).symm)
  refine ⟨j, List.mem_range.1 hj, ?_⟩
  by_cases e : (p * j + v) % s = b
  · exact e
  · exact absurd rfl (h ((p * j + v) % s) (List.mem_filter.2 ⟨List.mem_range.2 (Nat.mod_lt _ (by omega)), by simpa using e⟩))
/-- Where a row whose step the prime does not divide begins in the numbers of a rest. -/
def bOf (p v s b : Nat) : Nat := ((List.range s).find? fun c => (p * c + v) % s == b).getD 0
theorem bOf_is {p s b v : Nat} (hc : Nat.Coprime p s) (hb : b < s) : bOf p v s b < s ∧ (p * bOf p v s b + v) % s = b := by
  obtain ⟨c, h1, h2⟩ := slice_there (v := v) hc hb
  unfold bOf
  cases e : (List.range s).find? fun c => (p * c + v) % s == b with
  | none =>
    have := List.find?_eq_none.1 e c (List.mem_range.2 h1)
    simp [h2] at this
  | some d =>
    have k1 := List.find?_some e
    have k2 := List.mem_of_find?_eq_some e
    exact ⟨List.mem_range.1 k2, by simpa using k1⟩
theorem bOf_hit {p s b v : Nat} (hc : Nat.Coprime p s) (hb : b < s) (n : Nat) : n % s = bOf p v s b ↔ (p * n + v) % s = b := by
  obtain ⟨h1, h2⟩ := bOf_is (v := v) hc hb
  have e : (p * n + v) % s = (p * (n % s) + v) % s := by
    rw [Nat.add_mod, Nat.mul_mod, Nat.add_mod (p * (n % s)), Nat.mul_mod p (n % s), Nat.mod_mod]
  rw [e]
  constructor
  · intro h; rw [h]; exact h2
  · intro h
    have hlt : n % s < s := Nat.mod_lt _ (by omega)
    rcases Nat.le_total (n % s) (bOf p v s b) with k | k
    · exact slice_inj hc k h1 (h.trans h2.symm)
    · exact (slice_inj hc k hlt (h2.trans h.symm)).symm
theorem div_hit {p t b v : Nat} (hp : 0 < p) (ht : 0 < t) (hv : v < p) (n : Nat) : (p * n + v) % (p * t) = b ↔ b % p = v ∧ n % t = b / p := by
  have e : (p * n + v) % (p * t) = p * (n % t) + v := by
    rw [Nat.mod_mul, Nat.mul_add_mod, Nat.mod_eq_of_lt hv, Nat.mul_add_div hp, Nat.div_eq_of_lt hv, Nat.add_zero, Nat.add_comm]
  rw [e]
  constructor
  · rintro rfl
    exact ⟨by rw [Nat.mul_add_mod, Nat.mod_eq_of_lt hv], by rw [Nat.mul_add_div hp, Nat.div_eq_of_lt hv, Nat.add_zero]⟩
  · rintro ⟨h1, h2⟩
    rw [h2, ← h1]
    exact Nat.div_add_mod b p

abbrev FRow := Rw × Bool
/-- Does a row, in early form, have a number? -/
def hitF (n : Nat) (x : FRow) : Bool := n % x.1.s == x.1.b
/-- The row in the numbers of the rest v by p; g: a row whose step p does not divide is marked. -/
def slice1 (p v : Nat) (g : Bool) (x : FRow) : Option FRow :=
  if x.1.s % p = 0 then (if x.1.b % p = v then some (⟨x.1.b / p, x.1.s / p⟩, x.2) else none) else some (⟨bOf p v x.1.s x.1.b, x.1.s⟩, x.2 || g)
def sliceF (p v : Nat) (g : Bool) (L : List FRow) : List FRow := L.filterMap (slice1 p v g)
def GoodF (p : Nat) (L : List FRow) : Prop := ∀ x ∈ L, x.1.b < x.1.s ∧ x.1.s ≤ 60
def OnceF (L : List FRow) : Prop := ∀ n, L.countP (hitF n) = 1
/-- A prime, as far as steps want it. -/
def Pr (p : Nat) : Prop := 1 < p ∧ ∀ s, s ≤ 60 → s % p ≠ 0 → Nat.Coprime p s

theorem slice1_hit {p v : Nat} {g : Bool} {x : FRow} (hp : Pr p) (hv : v < p) (hx : x.1.b < x.1.s ∧ x.1.s ≤ 60) (n : Nat) :
    (match slice1 p v g x with | none => false | some y => hitF n y) = hitF (p * n + v) x := by
  obtain ⟨⟨b, s⟩, fl⟩ := x
  obtain ⟨hb, hs⟩ := hx
  have hb : b < s := hb
  unfold slice1 hitF
  by_cases h : s % p = 0
  · obtain ⟨t, rfl⟩ := Nat.dvd_of_mod_eq_zero h
    have ht : 0 < t := by
      rcases Nat.eq_zero_or_pos t with k | k
      · subst k; simp at hb
      · exact k
    have hd := div_hit (b := b) (Nat.lt_trans Nat.one_pos hp.1) ht hv n
    simp only [h, if_true]
    by_cases h2 : b % p = v
    · simp only [h2, if_true]
      rw [Bool.eq_iff_iff, beq_iff_eq, beq_iff_eq, Nat.mul_div_cancel_left t (Nat.lt_trans Nat.one_pos hp.1), hd]
      exact ⟨fun k => ⟨h2, k⟩, fun k => k.2⟩
    · simp only [h2, if_false]
      rw [Bool.eq_iff_iff, beq_iff_eq, hd]
      constructor
      · intro k; cases k
      · intro k; exact absurd k.1 h2
  · simp only [h, if_false]
    rw [Bool.eq_iff_iff, beq_iff_eq, beq_iff_eq]
    exact bOf_hit (hp.2 s hs h) hb n
theorem slice_count {p v : Nat} {g : Bool} {L : List FRow} (hp : Pr p) (hv : v < p) (hL : GoodF p L) (n : Nat) : (sliceF p v g L).countP (hitF n) = L.countP (hitF (p * n + v)) := by
  induction L with
  | nil => rfl
  | cons x L ih =>
    have h1 := slice1_hit (g := g) hp hv (hL x (List.mem_cons_self ..)) n
    have h2 := ih (fun y hy => hL y (List.mem_cons_of_mem _ hy))
    unfold sliceF at h2 ⊢
    rw [List.filterMap_cons, List.countP_cons, ← h2, ← h1]
    cases slice1 p v g x with
    | none => simp
    | some y => simp [List.countP_cons]
theorem slice_once {p v : Nat} {g : Bool} {L : List FRow} (hp : Pr p) (hv : v < p) (hL : GoodF p L) (h : OnceF L) : OnceF (sliceF p v g L) := fun n => by rw [slice_count hp hv hL]; exact h _
theorem slice_good {p v : Nat} {g : Bool} {L : List FRow} (hp : Pr p) (hL : GoodF p L) : GoodF p (sliceF p v g L) := by
  intro y hy
  obtain ⟨x, hx, e⟩ := List.mem_filterMap.1 hy
  obtain ⟨hb, hs⟩ := hL x hx
  have h0 : 0 < p := Nat.lt_trans Nat.one_pos hp.1
  unfold slice1 at e
  split at e
  · rename_i h
    split at e
    · injection e with e
      subst e
      obtain ⟨t, ht⟩ := Nat.dvd_of_mod_eq_zero h
      refine ⟨?_, Nat.le_trans (Nat.div_le_self _ _) hs⟩
      show x.1.b / p < x.1.s / p
      rw [ht, Nat.mul_div_cancel_left t h0]
      exact Nat.div_lt_of_lt_mul (by rw [← ht]; exact hb)
    · cases e
  · rename_i h
    injection e with e
    subst e
    exact ⟨(bOf_is (hp.2 _ hs h) hb).1, hs⟩

end Go.Proofs.Ytdcedkjoligekab
