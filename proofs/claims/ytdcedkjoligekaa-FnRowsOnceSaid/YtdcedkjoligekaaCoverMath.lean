/-
  Rows that cover, as plain facts: what leaves out few multiples of a prime covers as well; what goes by the rests of a number.
-/
import Derived.Test.YtdcedkjoligekaaShareMath
namespace Go.Proofs.Ytdcedkjoligekaa
set_option linter.unusedVariables false

/-- Each number is in a row; the rows are in early form. -/
def Covers (g : List Rw) : Prop := ∀ n, ∃ r ∈ g, n % r.s = r.b
/-- Rows in early form, with steps up to 60. -/
def Going (g : List Rw) : Prop := ∀ r ∈ g, r.b < r.s ∧ r.s ≤ 60
def sumS (g : List Rw) : Nat := (g.map Rw.s).sum
theorem sumS_cons (r : Rw) (g : List Rw) : sumS (r :: g) = r.s + sumS g := by unfold sumS; rfl

/-- The rows whose steps are no multiples of p. -/
def notBy (p : Nat) (g : List Rw) : List Rw := g.filter fun r => decide (r.s % p ≠ 0)
theorem notBy_snoc (p : Nat) (g : List Rw) (k : Nat) (h : k < g.length) : notBy p (g.take (k + 1)) = if (g.getD k default).s % p ≠ 0 then notBy p (g.take k) ++ [g.getD k default] else notBy p (g.take k) := by
  unfold notBy
  rw [take_getD g k h, List.filter_append]
  obtain ⟨r, hr⟩ : ∃ r, r = g.getD k default := ⟨_, rfl⟩
  rw [← hr]
  by_cases h0 : r.s % p ≠ 0
  · have e : List.filter (fun r => decide (r.s % p ≠ 0)) [r] = [r] := List.filter_eq_self.2 (fun x hx => by rw [List.mem_singleton.1 hx]; exact decide_eq_true h0)
    rw [if_pos h0, e]
  · have e : List.filter (fun r => decide (r.s % p ≠ 0)) [r] = [] := List.filter_eq_nil_iff.2 (fun x hx => by rw [List.mem_singleton.1 hx, decide_eq_false h0]; decide)
    rw [if_neg h0, e, List.append_nil]
theorem filter_split {α : Type} (f : α → Bool) (l : List α) : l.length = (l.filter f).length + (l.filter fun x => !f x).length := by
  induction l with
  | nil => rfl
  | cons x l ih => cases h : f x <;> simp [h] <;> omega
theorem mod_eq_dvd {a b s : Nat} (h : a ≤ b) : a % s = b % s ↔ s ∣ b - a := by
  constructor
  · intro e
    exact Nat.dvd_of_mod_eq_zero (Nat.sub_mod_eq_zero_of_mod_eq e.symm)
  · rintro ⟨k, hk⟩
    have : b = a + s * k := by omega
    rw [this, Nat.add_mul_mod_self_left]
theorem notBy_le (p : Nat) (g : List Rw) : (notBy p g).length ≤ g.length := List.length_filter_le _ _
theorem notBy_mem {p : Nat} {g : List Rw} {r : Rw} : r ∈ notBy p g ↔ r ∈ g ∧ r.s % p ≠ 0 := by unfold notBy; rw [List.mem_filter]; simp

theorem pig {α : Type} (hit : α → Nat → Prop) : ∀ (h : List α) (js : List Nat), js.Nodup → h.length < js.length → (∀ r ∈ h, ∀ j ∈ js, ∀ j' ∈ js, hit r j → hit r j' → j = j') → ∃ j ∈ js, ∀ r ∈ h, ¬ hit r j := by
  intro h
  induction h with
  | nil =>
    intro js _ hl _
    match js, hl with
    | j :: js, _ => exact ⟨j, List.mem_cons_self .., fun r hr => by cases hr⟩
  | cons r h ih =>
    intro js hnd hl inj
    by_cases hc : ∃ j ∈ js, hit r j
    · obtain ⟨j0, hj0, hh⟩ := hc
      have hlen : (js.erase j0).length = js.length - 1 := List.length_erase_of_mem hj0
      obtain ⟨j, hj, hn⟩ := ih (js.erase j0) (hnd.erase j0) (by rw [hlen]; simp at hl; omega) (fun q hq a ha b hb => inj q (List.mem_cons_of_mem _ hq) a (List.mem_of_mem_erase ha) b (List.mem_of_mem_erase hb))
      refine ⟨j, List.mem_of_mem_erase hj, fun q hq => ?_⟩
      rcases List.mem_cons.1 hq with e | e
      · subst e
        intro h2
        have := inj q (List.mem_cons_self ..) j (List.mem_of_mem_erase hj) j0 hj0 h2 hh
        subst this
        exact hnd.not_mem_erase hj
      · exact hn q e
    · obtain ⟨j, hj, hn⟩ := ih js hnd (by simp at hl; omega) (fun q hq => inj q (List.mem_cons_of_mem _ hq))
      refine ⟨j, hj, fun q hq => ?_⟩
      rcases List.mem_cons.1 hq with e | e
      · subst e; exact fun h2 => hc ⟨j, hj, h2⟩
      · exact hn q e

/-- A number that has no part in common with what it does not divide, up to 60. -/
def PrimeTo60 (p : Nat) : Prop := 1 < p ∧ ∀ s, s ≤ 60 → s % p ≠ 0 → Nat.gcd p s = 1

theorem lcm_coprime {p a b : Nat} (h1 : Nat.Coprime p a) (h2 : Nat.Coprime p b) : Nat.Coprime p (Nat.lcm a b) := by
  refine Nat.Coprime.coprime_dvd_right ?_ (Nat.Coprime.mul_right h1 h2)
  exact Nat.lcm_dvd (Nat.dvd_mul_right _ _) (Nat.dvd_mul_left _ _)
theorem lcmAll_coprime {p : Nat} {l : List Rw} (h : ∀ r ∈ l, 0 < r.s → Nat.Coprime p r.s) : Nat.Coprime p (lcmAll l) := by
  have : ∀ (l : List Rw) m, Nat.Coprime p m → (∀ r ∈ l, 0 < r.s → Nat.Coprime p r.s) → Nat.Coprime p (l.foldl (fun m r => if 0 < r.s then Nat.lcm m r.s else m) m) := by
    intro l
    induction l with
    | nil => intro m hm _; exact hm
    | cons r l ih =>
      intro m hm hl
      rw [List.foldl_cons]
      apply ih
      · by_cases h0 : 0 < r.s
        · rw [if_pos h0]; exact lcm_coprime hm (hl r (List.mem_cons_self ..) h0)
        · rw [if_neg h0]; exact hm
      · exact fun q hq => hl q (List.mem_cons_of_mem _ hq)
  exact this l 1 (Nat.coprime_one_right p) h

theorem mod_shift {n s M j : Nat} (h : s ∣ M) : (n + j * M) % s = n % s := by
  obtain ⟨k, rfl⟩ := h
  rw [show j * (s * k) = s * (j * k) from by rw [Nat.mul_left_comm], Nat.add_mul_mod_self_left]

/-- Fewer rows than p with multiples of p as steps can be left out. -/
theorem covers_notBy {p : Nat} {g : List Rw} (hp : PrimeTo60 p) (hg : Going g) (hlt : g.length - (notBy p g).length < p) : Covers g ↔ Covers (notBy p g) := by
  constructor
  · intro hc
    apply Classical.byContradiction
    intro hn
    obtain ⟨n0, hn0⟩ := Classical.not_forall.1 hn
    have hcop : Nat.Coprime p (lcmAll (notBy p g)) := lcmAll_coprime (fun r hr h0 => hp.2 r.s (hg r (notBy_mem.1 hr).1).2 (notBy_mem.1 hr).2)
    obtain ⟨left, hleft⟩ : ∃ left, left = g.filter (fun r => !decide (r.s % p ≠ 0)) := ⟨_, rfl⟩
    have hll : left.length < p := by
      have := filter_split (fun r : Rw => decide (r.s % p ≠ 0)) g
      rw [hleft]
      unfold notBy at hlt
      omega
    have hmem : ∀ r ∈ left, r ∈ g ∧ p ∣ r.s := fun r hr => by
      rw [hleft, List.mem_filter] at hr
      refine ⟨hr.1, Nat.dvd_of_mod_eq_zero ?_⟩
      have := hr.2
      simp at this
      exact this
    obtain ⟨j, hj, hmiss⟩ := pig (fun (r : Rw) j => (n0 + j * lcmAll (notBy p g)) % r.s = r.b) left (List.range p) List.nodup_range (by rw [List.length_range]; exact hll) (by
      intro r hr j hj j' hj' h1 h2
      have hj := List.mem_range.1 hj
      have hj' := List.mem_range.1 hj'
      have key : ∀ a b : Nat, a ≤ b → b < p → (n0 + a * lcmAll (notBy p g)) % r.s = (n0 + b * lcmAll (notBy p g)) % r.s → a = b := by
        intro a b hab hb he
        have hle : n0 + a * lcmAll (notBy p g) ≤ n0 + b * lcmAll (notBy p g) := Nat.add_le_add_left (Nat.mul_le_mul_right _ hab) _
        have hd := (mod_eq_dvd hle).1 he
        rw [show n0 + b * lcmAll (notBy p g) - (n0 + a * lcmAll (notBy p g)) = (b - a) * lcmAll (notBy p g) from by rw [Nat.sub_mul]; omega] at hd
        have hd2 : p ∣ (b - a) * lcmAll (notBy p g) := Nat.dvd_trans (hmem r hr).2 hd
        have hd3 := hcop.dvd_of_dvd_mul_right hd2
        rcases Nat.eq_zero_or_pos (b - a) with z | z
        · omega
        · have := Nat.le_of_dvd z hd3; omega
      rcases Nat.le_total j j' with k | k
      · exact key j j' k hj' (h1.trans h2.symm)
      · exact (key j' j k hj (h2.trans h1.symm)).symm)
    obtain ⟨r, hr, hrb⟩ := hc (n0 + j * lcmAll (notBy p g))
    by_cases hd : r.s % p ≠ 0
    · have hro : r ∈ notBy p g := notBy_mem.2 ⟨hr, hd⟩
      have h0 := (hg r hr).1
      rw [mod_shift (step_dvd hro (by omega))] at hrb
      exact hn0 ⟨r, hro, hrb⟩
    · refine hmiss r ?_ hrb
      rw [hleft, List.mem_filter]
      exact ⟨hr, by simp at hd; simp [hd]⟩
  · intro hc n
    obtain ⟨r, hr, h⟩ := hc n
    exact ⟨r, (notBy_mem.1 hr).1, h⟩

/-- The rows of all n for which k n + f is in a row of g. -/
def redS (k : Nat) (g : List Rw) : Nat := (g.map fun r => r.s / Nat.gcd r.s k).sum
theorem redS_snoc (k : Nat) (g : List Rw) (i : Nat) (h : i < g.length) : redS k (g.take (i + 1)) = redS k (g.take i) + (g.getD i default).s / Nat.gcd (g.getD i default).s k := by
  unfold redS; rw [take_getD g i h, List.map_append, List.sum_append]; simp
structure EveryIs (k f : Nat) (g qs : List Rw) : Prop where
  going : Going qs
  has : ∀ n, (∃ q ∈ qs, n % q.s = q.b) ↔ ∃ r ∈ g, (k * n + f) % r.s = r.b
  sum : sumS qs ≤ redS k g
  len : qs.length ≤ g.length
theorem every_nil (k f : Nat) : EveryIs k f [] [] := ⟨(fun r hr => by cases hr), fun n => ⟨(fun ⟨q, hq, _⟩ => (by cases hq)), (fun ⟨q, hq, _⟩ => (by cases hq))⟩, Nat.le_refl _, Nat.le_refl _⟩
theorem sumS_snoc (g : List Rw) (r : Rw) : sumS (g ++ [r]) = sumS g + r.s := by unfold sumS; rw [List.map_append, List.sum_append]; simp

/-- A row that meets the rest: one row more. -/
theorem every_hit {k f i : Nat} {g qs : List Rw} {q : Rw} (h : EveryIs k f (g.take i) qs) (hi : i < g.length) (hq : q.b < q.s) (hs : q.s = (g.getD i default).s / Nat.gcd (g.getD i default).s k) (hs60 : q.s ≤ 60)
    (hh : ∀ n, n % q.s = q.b ↔ (k * n + f) % (g.getD i default).s = (g.getD i default).b) : EveryIs k f (g.take (i + 1)) (qs ++ [q]) := by
  refine ⟨fun r hr => ?_, fun n => ?_, ?_, ?_⟩
  · rcases List.mem_append.1 hr with m | m
    · exact h.going r m
    · rw [List.mem_singleton.1 m]; exact ⟨hq, hs60⟩
  · rw [take_getD g i hi]
    constructor
    · rintro ⟨r, hr, e⟩
      rcases List.mem_append.1 hr with m | m
      · obtain ⟨r2, m2, e2⟩ := (h.has n).1 ⟨r, m, e⟩
        exact ⟨r2, List.mem_append_left _ m2, e2⟩
      · rw [List.mem_singleton.1 m] at e
        exact ⟨_, List.mem_append_right _ (List.mem_singleton.2 rfl), (hh n).1 e⟩
    · rintro ⟨r, hr, e⟩
      rcases List.mem_append.1 hr with m | m
      · obtain ⟨r2, m2, e2⟩ := (h.has n).2 ⟨r, m, e⟩
        exact ⟨r2, List.mem_append_left _ m2, e2⟩
      · rw [List.mem_singleton.1 m] at e
        exact ⟨_, List.mem_append_right _ (List.mem_singleton.2 rfl), (hh n).2 e⟩
  · rw [sumS_snoc, redS_snoc k g i hi, hs]
    exact Nat.add_le_add_right h.sum _
  · have := h.len
    rw [List.length_append, take_getD g i hi, List.length_append]
    exact Nat.add_le_add_right this 1
/-- A row that does not meet the rest. -/
theorem every_miss {k f i : Nat} {g qs : List Rw} (h : EveryIs k f (g.take i) qs) (hi : i < g.length) (hh : ∀ n, (k * n + f) % (g.getD i default).s ≠ (g.getD i default).b) : EveryIs k f (g.take (i + 1)) qs := by
  refine ⟨h.going, fun n => ?_, ?_, ?_⟩
  · rw [h.has, take_getD g i hi]
    constructor
    · rintro ⟨r, m, e⟩; exact ⟨r, List.mem_append_left _ m, e⟩
    · rintro ⟨r, hr, e⟩
      rcases List.mem_append.1 hr with m | m
      · exact ⟨r, m, e⟩
      · rw [List.mem_singleton.1 m] at e; exact (hh n e).elim
  · rw [redS_snoc k g i hi]; exact Nat.le_trans h.sum (Nat.le_add_right _ _)
  · rw [take_getD g i hi, List.length_append]; exact Nat.le_trans h.len (Nat.le_add_right _ _)

theorem redS_le (k : Nat) (g : List Rw) : redS k g ≤ sumS g := by
  induction g with
  | nil => exact Nat.le_refl _
  | cons r g ih =>
    have e : redS k (r :: g) = r.s / Nat.gcd r.s k + redS k g := by unfold redS; rfl
    rw [e, sumS_cons]
    exact Nat.add_le_add (Nat.div_le_self _ _) ih
theorem redS_lt {p : Nat} {g : List Rw} (hp : 1 < p) (hg : Going g) (h : ∃ r ∈ g, r.s % p = 0) : redS p g < sumS g := by
  induction g with
  | nil => obtain ⟨r, hr, _⟩ := h; cases hr
  | cons r g ih =>
    have e : redS p (r :: g) = r.s / Nat.gcd r.s p + redS p g := by unfold redS; rfl
    rw [e, sumS_cons]
    by_cases hr : r.s % p = 0
    · have hd : p ∣ r.s := Nat.dvd_of_mod_eq_zero hr
      have hgcd : Nat.gcd r.s p = p := by rw [Nat.gcd_comm]; exact Nat.gcd_eq_left hd
      have h0 := (hg r (List.mem_cons_self ..)).1
      have h1 : r.s / p < r.s := Nat.div_lt_self (by omega) hp
      have := redS_le p g
      rw [hgcd]
      omega
    · obtain ⟨q, hq, hq0⟩ := h
      rcases List.mem_cons.1 hq with e2 | e2
      · subst e2; exact (hr hq0).elim
      · have := ih (fun a ha => hg a (List.mem_cons_of_mem _ ha)) ⟨q, e2, hq0⟩
        have := Nat.div_le_self r.s (Nat.gcd r.s p)
        omega
theorem notBy_some {p : Nat} {g : List Rw} (h : (notBy p g).length < g.length) : ∃ r ∈ g, r.s % p = 0 := by
  apply Classical.byContradiction
  intro hn
  have : notBy p g = g := by
    unfold notBy
    rw [List.filter_eq_self]
    intro r hr
    exact decide_eq_true (fun e => hn ⟨r, hr, e⟩)
  rw [this] at h
  omega

/-- A row that meets the numbers that are f by k, as a row of the whole parts. -/
theorem part_has {b s k f m : Nat} (hb : b < s) (hk : 0 < k) (h : Least ⟨b, s⟩ ⟨f, k⟩ m) :
    ∃ S B, S = s / Nat.gcd s k ∧ stepOf ⟨b, s⟩ ⟨f, k⟩ / k = S ∧ (m - f) / k = B ∧ 0 < S ∧ S ≤ s ∧ f ≤ m ∧ k * B = m - f ∧ ∀ n, n % S = B % S ↔ (k * n + f) % s = b := by
  have hs : 0 < s := by omega
  have hg0 : 0 < Nat.gcd s k := Nat.gcd_pos_of_pos_left _ hs
  have hst : stepOf ⟨b, s⟩ ⟨f, k⟩ = Nat.lcm s k := by unfold stepOf; rw [if_neg (by show ¬ (s = 0 ∨ k = 0); omega)]
  have hl : Nat.lcm s k = k * (s / Nat.gcd s k) := by
    obtain ⟨u, hu⟩ := Nat.gcd_dvd_left s k
    have e1 : s / Nat.gcd s k = u := by conv => lhs; lhs; rw [hu]
                                        exact Nat.mul_div_cancel_left u hg0
    rw [e1]
    unfold Nat.lcm
    conv => lhs; lhs; lhs; rw [hu]
    rw [Nat.mul_assoc, Nat.mul_div_cancel_left _ hg0, Nat.mul_comm]
  have hf : (Rw.mk f k).has m = true := h.2.1
  have hf2 := (has_pos (r := ⟨f, k⟩) hk m).1 hf
  have hfm : f ≤ m := hf2.1
  have hkd : k ∣ m - f := hf2.2
  have hS : 0 < s / Nat.gcd s k := Nat.div_pos (Nat.le_of_dvd hs (Nat.gcd_dvd_left _ _)) hg0
  obtain ⟨S, hSd⟩ : ∃ S, S = s / Nat.gcd s k := ⟨_, rfl⟩
  rw [← hSd] at hS hl
  refine ⟨S, (m - f) / k, hSd, by rw [hst, hl, Nat.mul_div_cancel_left _ hk], rfl, hS, by rw [hSd]; exact Nat.div_le_self _ _, hfm, Nat.mul_div_cancel' hkd, fun n => ?_⟩
  obtain ⟨B, hBd⟩ : ∃ B, B = (m - f) / k := ⟨_, rfl⟩
  have hkB : k * B = m - f := by rw [hBd]; exact Nat.mul_div_cancel' hkd
  rw [← hBd]
  have hear : Rw.Early ⟨b, s⟩ := hb
  -- go far enough
  have hsd : s ∣ k * S := by rw [← hl]; exact Nat.dvd_lcm_left _ _
  have e1 : (k * (n + B * S) + f) % s = (k * n + f) % s := by
    rw [show k * (n + B * S) + f = (k * n + f) + B * (k * S) from by rw [Nat.mul_add, Nat.mul_left_comm]; omega]
    exact mod_shift hsd
  have hBS : B ≤ n + B * S := Nat.le_trans (Nat.le_mul_of_pos_right B hS) (Nat.le_add_left _ _)
  rw [← e1, ← early_has hear (k * (n + B * S) + f)]
  have hm0 : m ≤ k * (n + B * S) + f := by
    have : k * B ≤ k * (n + B * S) := Nat.mul_le_mul_left _ hBS
    omega
  have hfk : (Rw.mk f k).has (k * (n + B * S) + f) = true := (has_pos (r := ⟨f, k⟩) hk _).2 ⟨Nat.le_add_left _ _, by show k ∣ k * (n + B * S) + f - f; rw [Nat.add_sub_cancel]; exact Nat.dvd_mul_right _ _⟩
  have hbf := both_from (r := ⟨b, s⟩) (q := ⟨f, k⟩) hs hk h.1 h.2.1 hm0
  have hbf2 : (Rw.mk b s).has (k * (n + B * S) + f) = true ↔ Nat.lcm s k ∣ k * (n + B * S) + f - m := ⟨fun h1 => hbf.1 ⟨h1, hfk⟩, fun h1 => (hbf.2 h1).1⟩
  rw [hbf2, hl, show k * (n + B * S) + f - m = k * (n + B * S - B) from by rw [Nat.mul_sub]; omega, Nat.mul_dvd_mul_iff_left hk]
  have e2 : (n + B * S) % S = n % S := Nat.add_mul_mod_self_right ..
  rw [← e2]
  constructor
  · intro h1; exact (mod_eq_dvd hBS).1 h1.symm
  · intro h1; exact ((mod_eq_dvd hBS).2 h1).symm
theorem part_none {b s k f : Nat} (hb : b < s) (hk : 0 < k) (h : ∀ n, ¬ ((Rw.mk b s).has n = true ∧ (Rw.mk f k).has n = true)) (n : Nat) : (k * n + f) % s ≠ b := by
  intro e
  refine h (k * n + f) ⟨(early_has (r := ⟨b, s⟩) hb _).2 e, (has_pos (r := ⟨f, k⟩) hk _).2 ⟨Nat.le_add_left _ _, by show k ∣ k * n + f - f; rw [Nat.add_sub_cancel]; exact Nat.dvd_mul_right _ _⟩⟩

/-- What is covered by rests is covered. -/
theorem covers_parts {k : Nat} {g : List Rw} (hk : 0 < k) : Covers g ↔ ∀ f, f < k → ∀ n, ∃ r ∈ g, (k * n + f) % r.s = r.b := by
  constructor
  · intro h f _ n; exact h _
  · intro h n
    have := h (n % k) (Nat.mod_lt _ hk) (n / k)
    rwa [Nat.div_add_mod] at this
theorem every_covers {k f : Nat} {g qs : List Rw} (h : EveryIs k f g qs) : Covers qs ↔ ∀ n, ∃ r ∈ g, (k * n + f) % r.s = r.b :=
  ⟨fun hc n => (h.has n).1 (hc n), fun hc n => (h.has n).2 (hc n)⟩

/-- The primes that cover tries. -/
def primes : List Nat := [59, 53, 47, 43, 41, 37, 31, 29, 23, 19, 17, 13, 11, 7, 5, 3, 2]
theorem primes_ok : ∀ p ∈ primes, PrimeTo60 p := by
  have : ∀ p ∈ primes, 1 < p ∧ ∀ s, s < 61 → s % p ≠ 0 → Nat.gcd p s = 1 := by decide +kernel
  intro p hp
  exact ⟨(this p hp).1, fun s hs h => (this p hp).2 s (by omega) h⟩
theorem step_one : ∀ s, 0 < s → s ≤ 60 → (∀ p ∈ primes, s % p ≠ 0) → s = 1 := by
  have : ∀ s, s < 61 → 0 < s → (∀ p ∈ primes, s % p ≠ 0) → s = 1 := by decide +kernel
  intro s h0 h1 h2
  exact this s (by omega) h0 h2

/-- Rows without a row of all numbers, and without steps that a prime divides, are none. -/
theorem covers_end {g : List Rw} (hg : Going g) (hall : ∀ r ∈ g, ¬ (r.b = 0 ∧ r.s = 1)) (hp : ∀ r ∈ g, ∀ p ∈ primes, r.s % p ≠ 0) : ¬ Covers g := by
  intro hc
  obtain ⟨r, hr, _⟩ := hc 0
  have h1 := hg r hr
  have h2 := step_one r.s (by omega) h1.2 (hp r hr)
  exact hall r hr ⟨by omega, h2⟩
theorem covers_all {g : List Rw} {r : Rw} (hr : r ∈ g) (h : r.b = 0 ∧ r.s = 1) : Covers g := fun n => ⟨r, hr, by rw [h.1, h.2, Nat.mod_one]⟩
end Go.Proofs.Ytdcedkjoligekaa
