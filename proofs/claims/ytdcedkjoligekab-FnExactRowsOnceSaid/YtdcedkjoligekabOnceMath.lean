/-
  Rows that cover, as plain facts: what leaves out few multiples of a prime covers as well; what goes by the rests of a number. How often a number is in rows that go on: plain facts.
-/
import Derived.Test.YtdcedkjoligekabShareMath
namespace Go.Proofs.Ytdcedkjoligekab

set_option linter.unusedVariables false

/-- Each number is in a row; the rows are in early form. -/
def Covers (g : List Rw) : Prop := ∀ n, ∃ r ∈ g, n % r.s = r.b
/-- Rows in early form, with steps up to 60. -/
def Going (g : List Rw) : Prop := ∀ r ∈ g, r.b < r.s ∧ r.s ≤ 60
def sumS (g : List Rw) : Nat := (g.map Rw.s).sum
theorem sumS_cons (r : Rw) (g : List Rw) : sumS (r :: g) = r.s + sumS g := by unfold sumS; rfl

/-- The rows whose steps are no multiples of p. -/
def notBy (p : Nat) (g : List Rw) : List Rw := g.filter fun r => decide (r.s % p ≠ 0)
theorem notBy_snoc (p : Nat) (g : List Rw) (k : Nat) (h : k < g.length) : notBy p (g.take (k + 1)) = if (g.getD k default).s % p ≠ 0 then notBy p (g.take k) ++ [g.getD k default] else notBy p (g.take k) := by
  unfold notBy
  rw [take_getD g k h, List.filter_append]
  obtain ⟨r, hr⟩ : ∃ r, r = g.getD k default := ⟨_, rfl⟩
  rw [← hr]
  by_cases h0 : r.s % p ≠ 0
  · have e : List.filter (fun r => decide (r.s % p ≠ 0)) [r] = [r] := List.filter_eq_self.2 (fun x hx => by rw [List.mem_singleton.1 hx]; exact decide_eq_true h0)
    rw [if_pos h0, e]
  · have e : List.filter (fun r => decide (r.s % p ≠ 0)) [r] = [] := List.filter_eq_nil_iff.2 (fun x hx => by rw [List.mem_singleton.1 hx, decide_eq_false h0]; decide)
    rw [if_neg h0, e, List.append_nil]
theorem filter_split {α : Type} (f : α → Bool) (l : List α) : l.length = (l.filter f).length + (l.filter fun x => !f x).length := by
  induction l with
  | nil => rfl
  | cons x l ih => cases h : f x <;> simp [h] <;> omega
theorem mod_eq_dvd {a b s : Nat} (h : a ≤ b) : a % s = b % s ↔ s ∣ b - a := by
  constructor
  · intro e
    exact Nat.dvd_of_mod_eq_zero (Nat.sub_mod_eq_zero_of_mod_eq e.symm)
  · rintro ⟨k, hk⟩
    have : b = a + s * k := by omega
    rw [this, Nat.add_mul_mod_self_left]
theorem notBy_le (p : Nat) (g : List Rw) : (notBy p g).length ≤ g.length := List.length_filter_le _ _
theorem notBy_mem {p : Nat} {g : List Rw} {r : Rw} : r ∈ notBy p g ↔ r ∈ g ∧ r.s % p ≠ 0 := by unfold notBy; rw [List.mem_filter]; simp

theorem pig {α : Type} (hit : α → Nat → Prop) : ∀ (h : List α) (js : List Nat), js.Nodup → h.length < js.length → (∀ r ∈ h, ∀ j ∈ js, ∀ j' ∈ js, hit r j → hit r j' → j = j') → ∃ j ∈ js, ∀ r ∈ h, ¬ hit r j := by
  intro h
  induction h with
  | nil =>
    intro js _ hl _
    match js, hl with
    | j :: js, _ => exact ⟨j, List.mem_cons_self .., fun r hr => by cases hr⟩
  | cons r h ih =>
    intro js hnd hl inj
    by_cases hc : ∃ j ∈ js, hit r j
    · obtain ⟨j0, hj0, hh⟩ := hc
      have hlen : (js.erase j0).length = js.length - 1 := List.length_erase_of_mem hj0
      obtain ⟨j, hj, hn⟩ := ih (js.erase j0) (hnd.erase j0) (by rw [hlen]; simp at hl; omega) (fun q hq a ha b hb => inj q (List.mem_cons_of_mem _ hq) a (List.mem_of_mem_erase ha) b (List.mem_of_mem_erase hb))
      refine ⟨j, List.mem_of_mem_erase hj, fun q hq => ?_⟩
      rcases List.mem_cons.1 hq with e | e
      · subst e
        intro h2
        have := inj q (List.mem_cons_self ..) j (List.mem_of_mem_erase hj) j0 hj0 h2 hh
        subst this
        exact hnd.not_mem_erase hj
      · exact hn q e
    · obtain ⟨j, hj, hn⟩ := ih js hnd (by simp at hl; omega) (fun q hq => inj q (List.mem_cons_of_mem _ hq))
      refine ⟨j, hj, fun q hq => ?_⟩
      rcases List.mem_cons.1 hq with e | e
      · subst e; exact fun h2 => hc ⟨j, hj, h2⟩
      · exact hn q e

/-- A number that has no part in common with what it does not divide, up to 60. -/
def PrimeTo60 (p : Nat) : Prop := 1 < p ∧ ∀ s, s ≤ 60 → s % p ≠ 0 → Nat.gcd p s = 1

theorem lcm_coprime {p a b : Nat} (h1 : Nat.Coprime p a) (h2 : Nat.Coprime p b) : Nat.Coprime p (Nat.lcm a b) := by
  refine Nat.Coprime.coprime_dvd_right ?_ (Nat.Coprime.mul_right h1 h2)
  exact Nat.lcm_dvd (Nat.dvd_mul_right _ _) (Nat.dvd_mul_left _ _)
theorem lcmAll_coprime {p : Nat} {l : List Rw} (h : ∀ r ∈ l, 0 < r.s → Nat.Coprime p r.s) : Nat.Coprime p (lcmAll l) := by
  have : ∀ (l : List Rw) m, Nat.Coprime p m → (∀ r ∈ l, 0 < r.s → Nat.Coprime p r.s) → Nat.Coprime p (l.foldl (fun m r => if 0 < r.s then Nat.lcm m r.s else m) m) := by
    intro l
    induction l with
    | nil => intro m hm _; exact hm
    | cons r l ih =>
      intro m hm hl
      rw [List.foldl_cons]
      apply ih
      · by_cases h0 : 0 < r.s
        · rw [if_pos h0]; exact lcm_coprime hm (hl r (List.mem_cons_self ..) h0)
        · rw [if_neg h0]; exact hm
      · exact fun q hq => hl q (List.mem_cons_of_mem _ hq)
  exact this l 1 (Nat.coprime_one_right p) h

theorem mod_shift {n s M j : Nat} (h : s ∣ M) : (n + j * M) % s = n % s := by
  obtain ⟨k, rfl⟩ := h
  rw [show j * (s * k) = s * (j * k) from by rw [Nat.mul_left_comm], Nat.add_mul_mod_self_left]

/-- Fewer rows than p with multiples of p as steps can be left out. -/
theorem covers_notBy {p : Nat} {g : List Rw} (hp : PrimeTo60 p) (hg : Going g) (hlt : g.length - (notBy p g).length < p) : Covers g ↔ Covers (notBy p g) := by
  constructor
  · intro hc
    apply Classical.byContradiction
    intro hn
    obtain ⟨n0, hn0⟩ := Classical.not_forall.1 hn
    have hcop : Nat.Coprime p (lcmAll (notBy p g)) := lcmAll_coprime (fun r hr h0 => hp.2 r.s (hg r (notBy_mem.1 hr).1).2 (notBy_mem.1 hr).2)
    obtain ⟨left, hleft⟩ : ∃ left, left = g.filter (fun r => !decide (r.s % p ≠ 0)) := ⟨_, rfl⟩
    have hll : left.length < p := by
      have := filter_split (fun r : Rw => decide (r.s % p ≠ 0)) g
      rw [hleft]
      unfold notBy at hlt
      omega
    have hmem : ∀ r ∈ left, r ∈ g ∧ p ∣ r.s := fun r hr => by
      rw [hleft, List.mem_filter] at hr
      refine ⟨hr.1, Nat.dvd_of_mod_eq_zero ?_⟩
      have := hr.2
      simp at this
      exact this
    obtain ⟨j, hj, hmiss⟩ := pig (fun (r : Rw) j => (n0 + j * lcmAll (notBy p g)) % r.s = r.b) left (List.range p) List.nodup_range (by rw [List.length_range]; exact hll) (by
      intro r hr j hj j' hj' h1 h2
      have hj := List.mem_range.1 hj
      have hj' := List.mem_range.1 hj'
      have key : ∀ a b : Nat, a ≤ b → b < p → (n0 + a * lcmAll (notBy p g)) % r.s = (n0 + b * lcmAll (notBy p g)) % r.s → a = b := by
        intro a b hab hb he
        have hle : n0 + a * lcmAll (notBy p g) ≤ n0 + b * lcmAll (notBy p g) := Nat.add_le_add_left (Nat.mul_le_mul_right _ hab) _
        have hd := (mod_eq_dvd hle).1 he
        rw [show n0 + b * lcmAll (notBy p g) - (n0 + a * lcmAll (notBy p g)) = (b - a) * lcmAll (notBy p g) from by rw [Nat.sub_mul]; omega] at hd
        have hd2 : p ∣ (b - a) * lcmAll (notBy p g) := Nat.dvd_trans (hmem r hr).2 hd
        have hd3 := hcop.dvd_of_dvd_mul_right hd2
        rcases Nat.eq_zero_or_pos (b - a) with z | z
        · omega
        · have := Nat.le_of_dvd z hd3; omega
      rcases Nat.le_total j j' with k | k
      · exact key j j' k hj' (h1.trans h2.symm)
      · exact (key j' j k hj (h2.trans h1.symm)).symm)
    obtain ⟨r, hr, hrb⟩ := hc (n0 + j * lcmAll (notBy p g))
    by_cases hd : r.s % p ≠ 0
    · have hro : r ∈ notBy p g := notBy_mem.2 ⟨hr, hd⟩
      have h0 := (hg r hr).1
      rw [mod_shift (step_dvd hro (by omega))] at hrb
      exact hn0 ⟨r, hro, hrb⟩
    · refine hmiss r ?_ hrb
      rw [hleft, List.mem_filter]
      exact ⟨hr, by simp at hd; simp [hd]⟩
  · intro hc n
    obtain ⟨r, hr, h⟩ := hc n
    exact ⟨r, (notBy_mem.1 hr).1, h⟩

/-- The rows of all n for which k n + f is in a row of g. -/
def redS (k : Nat) (g : List Rw) : Nat := (g.map fun r => r.s / Nat.gcd r.s k).sum
theorem redS_snoc (k : Nat) (g : List Rw) (i : Nat) (h : i < g.length) : redS k (g.take (i + 1)) = redS k (g.take i) + (g.getD i default).s / Nat.gcd (g.getD i default).s k := by
  unfold redS; rw [take_getD g i h, List.map_append, List.sum_append]; simp
structure EveryIs (k f : Nat) (g qs : List Rw) : Prop where
  going : Going qs
  has : ∀ n, (∃ q ∈ qs, n % q.s = q.b) ↔ ∃ r ∈ g, (k * n + f) % r.s = r.b
  sum : sumS qs ≤ redS k g
  len : qs.length ≤ g.length
theorem every_nil (k f : Nat) : EveryIs k f [] [] := ⟨(fun r hr => by cases hr), fun n => ⟨(fun ⟨q, hq, _⟩ => (by cases hq)), (fun ⟨q, hq, _⟩ => (by cases hq))⟩, Nat.le_refl _, Nat.le_refl _⟩
theorem sumS_snoc (g : List Rw) (r : Rw) : sumS (g ++ [r]) = sumS g + r.s := by unfold sumS; rw [List.map_append, List.sum_append]; simp

/-- A row that meets the rest: one row more. -/
theorem every_hit {k f i : Nat} {g qs : List Rw} {q : Rw} (h : EveryIs k f (g.take i) qs) (hi : i < g.length) (hq : q.b < q.s) (hs : q.s = (g.getD i default).s / Nat.gcd (g.getD i default).s k) (hs60 : q.s ≤ 60)
    (hh : ∀ n, n % q.s = q.b ↔ (k * n + f) % (g.getD i default).s = (g.getD i default).b) : EveryIs k f (g.take (i + 1)) (qs ++ [q]) := by
  refine ⟨fun r hr => ?_, fun n => ?_, ?_, ?_⟩
  · rcases List.mem_append.1 hr with m | m
    · exact h.going r m
    · rw [List.mem_singleton.1 m]; exact ⟨hq, hs60⟩
  · rw [take_getD g i hi]
    constructor
    · rintro ⟨r, hr, e⟩
      rcases List.mem_append.1 hr with m | m
      · obtain ⟨r2, m2, e2⟩ := (h.has n).1 ⟨r, m, e⟩
        exact ⟨r2, List.mem_append_left _ m2, e2⟩
      · rw [List.mem_singleton.1 m] at e
        exact ⟨_, List.mem_append_right _ (List.mem_singleton.2 rfl), (hh n).1 e⟩
    · rintro ⟨r, hr, e⟩
      rcases List.mem_append.1 hr with m | m
      · obtain ⟨r2, m2, e2⟩ := (h.has n).2 ⟨r, m, e⟩
        exact ⟨r2, List.mem_append_left _ m2, e2⟩
      · rw [List.mem_singleton.1 m] at e
        exact ⟨_, List.mem_append_right _ (List.mem_singleton.2 rfl), (hh n).2 e⟩
  · rw [sumS_snoc, redS_snoc k g i hi, hs]
    exact Nat.add_le_add_right h.sum _
  · have := h.len
    rw [List.length_append, take_getD g i hi, List.length_append]
    exact Nat.add_le_add_right this 1
/-- A row that does not meet the rest. -/
theorem every_miss {k f i : Nat} {g qs : List Rw} (h : EveryIs k f (g.take i) qs) (hi : i < g.length) (hh : ∀ n, (k * n + f) % (g.getD i default).s ≠ (g.getD i default).b) : EveryIs k f (g.take (i + 1)) qs := by
  refine ⟨h.going, fun n => ?_, ?_, ?_⟩
  · rw [h.has, take_getD g i hi]
    constructor
    · rintro ⟨r, m, e⟩; exact ⟨r, List.mem_append_left _ m, e⟩
    · rintro ⟨r, hr, e⟩
      rcases List.mem_append.1 hr with m | m
      · exact ⟨r, m, e⟩
      · rw [List.mem_singleton.1 m] at e; exact (hh n e).elim
  · rw [redS_snoc k g i hi]; exact Nat.le_trans h.sum (Nat.le_add_right _ _)
  · rw [take_getD g i hi, List.length_append]; exact Nat.le_trans h.len (Nat.le_add_right _ _)

theorem redS_le (k : Nat) (g : List Rw) : redS k g ≤ sumS g := by
  induction g with
  | nil => exact Nat.le_refl _
  | cons r g ih =>
    have e : redS k (r :: g) = r.s / Nat.gcd r.s k + redS k g := by unfold redS; rfl
    rw [e, sumS_cons]
    exact Nat.add_le_add (Nat.div_le_self _ _) ih
theorem redS_lt {p : Nat} {g : List Rw} (hp : 1 < p) (hg : Going g) (h : ∃ r ∈ g, r.s % p = 0) : redS p g < sumS g := by
  induction g with
  | nil => obtain ⟨r, hr, _⟩ := h; cases hr
  | cons r g ih =>
    have e : redS p (r :: g) = r.s / Nat.gcd r.s p + redS p g := by unfold redS; rfl
    rw [e, sumS_cons]
    by_cases hr : r.s % p = 0
    · have hd : p ∣ r.s := Nat.dvd_of_mod_eq_zero hr
      have hgcd : Nat.gcd r.s p = p := by rw [Nat.gcd_comm]; exact Nat.gcd_eq_left hd
      have h0 := (hg r (List.mem_cons_self ..)).1
      have h1 : r.s / p < r.s := Nat.div_lt_self (by omega) hp
      have := redS_le p g
      rw [hgcd]
      omega
    · obtain ⟨q, hq, hq0⟩ := h
      rcases List.mem_cons.1 hq with e2 | e2
      · subst e2; exact (hr hq0).elim
      · have := ih (fun a ha => hg a (List.mem_cons_of_mem _ ha)) ⟨q, e2, hq0⟩
        have := Nat.div_le_self r.s (Nat.gcd r.s p)
        omega
theorem notBy_some {p : Nat} {g : List Rw} (h : (notBy p g).length < g.length) : ∃ r ∈ g, r.s % p = 0 := by
  apply Classical.byContradiction
  intro hn
  have : notBy p g = g := by
    unfold notBy
    rw [List.filter_eq_self]
    intro r hr
    exact decide_eq_true (fun e => hn ⟨r, hr, e⟩)
  rw [this] at h
  omega

/-- A row that meets the numbers that are f by k, as a row of the whole parts. -/
theorem part_has {b s k f m : Nat} (hb : b < s) (hk : 0 < k) (h : Least ⟨b, s⟩ ⟨f, k⟩ m) :
    ∃ S B, S = s / Nat.gcd s k ∧ stepOf ⟨b, s⟩ ⟨f, k⟩ / k = S ∧ (m - f) / k = B ∧ 0 < S ∧ S ≤ s ∧ f ≤ m ∧ k * B = m - f ∧ ∀ n, n % S = B % S ↔ (k * n + f) % s = b := by
  have hs : 0 < s := by omega
  have hg0 : 0 < Nat.gcd s k := Nat.gcd_pos_of_pos_left _ hs
  have hst : stepOf ⟨b, s⟩ ⟨f, k⟩ = Nat.lcm s k := by unfold stepOf; rw [if_neg (by show ¬ (s = 0 ∨ k = 0); omega)]
  have hl : Nat.lcm s k = k * (s / Nat.gcd s k) := by
    obtain ⟨u, hu⟩ := Nat.gcd_dvd_left s k
    have e1 : s / Nat.gcd s k = u := by conv => lhs; lhs; rw [hu]
                                        exact Nat.mul_div_cancel_left u hg0
    rw [e1]
    unfold Nat.lcm
    conv => lhs; lhs; lhs; rw [hu]
    rw [Nat.mul_assoc, Nat.mul_div_cancel_left _ hg0, Nat.mul_comm]
  have hf : (Rw.mk f k).has m = true := h.2.1
  have hf2 := (has_pos (r := ⟨f, k⟩) hk m).1 hf
  have hfm : f ≤ m := hf2.1
  have hkd : k ∣ m - f := hf2.2
  have hS : 0 < s / Nat.gcd s k := Nat.div_pos (Nat.le_of_dvd hs (Nat.gcd_dvd_left _ _)) hg0
  obtain ⟨S, hSd⟩ : ∃ S, S = s / Nat.gcd s k := ⟨_, rfl⟩
  rw [← hSd] at hS hl
  refine ⟨S, (m - f) / k, hSd, by rw [hst, hl, Nat.mul_div_cancel_left _ hk], rfl, hS, by rw [hSd]; exact Nat.div_le_self _ _, hfm, Nat.mul_div_cancel' hkd, fun n => ?_⟩
  obtain ⟨B, hBd⟩ : ∃ B, B = (m - f) / k := ⟨_, rfl⟩
  have hkB : k * B = m - f := by rw [hBd]; exact Nat.mul_div_cancel' hkd
  rw [← hBd]
  have hear : Rw.Early ⟨b, s⟩ := hb
  -- go far enough
  have hsd : s ∣ k * S := by rw [← hl]; exact Nat.dvd_lcm_left _ _
  have e1 : (k * (n + B * S) + f) % s = (k * n + f) % s := by
    rw [show k * (n + B * S) + f = (k * n + f) + B * (k * S) from by rw [Nat.mul_add, Nat.mul_left_comm]; omega]
    exact mod_shift hsd
  have hBS : B ≤ n + B * S := Nat.le_trans (Nat.le_mul_of_pos_right B hS) (Nat.le_add_left _ _)
  rw [← e1, ← early_has hear (k * (n + B * S) + f)]
  have hm0 : m ≤ k * (n + B * S) + f := by
    have : k * B ≤ k * (n + B * S) := Nat.mul_le_mul_left _ hBS
    omega
  have hfk : (Rw.mk f k).has (k * (n + B * S) + f) = true := (has_pos (r := ⟨f, k⟩) hk _).2 ⟨Nat.le_add_left _ _, by show k ∣ k * (n + B * S) + f - f; rw [Nat.add_sub_cancel]; exact Nat.dvd_mul_right _ _⟩
  have hbf := both_from (r := ⟨b, s⟩) (q := ⟨f, k⟩) hs hk h.1 h.2.1 hm0
  have hbf2 : (Rw.mk b s).has (k * (n + B * S) + f) = true ↔ Nat.lcm s k ∣ k * (n + B * S) + f - m := ⟨fun h1 => hbf.1 ⟨h1, hfk⟩, fun h1 => (hbf.2 h1).1⟩
  rw [hbf2, hl, show k * (n + B * S) + f - m = k * (n + B * S - B) from by rw [Nat.mul_sub]; omega, Nat.mul_dvd_mul_iff_left hk]
  have e2 : (n + B * S) % S = n % S := Nat.add_mul_mod_self_right ..
  rw [← e2]
  constructor
  · intro h1; exact (mod_eq_dvd hBS).1 h1.symm
  · intro h1; exact ((mod_eq_dvd hBS).2 h1).symm
theorem part_none {b s k f : Nat} (hb : b < s) (hk : 0 < k) (h : ∀ n, ¬ ((Rw.mk b s).has n = true ∧ (Rw.mk f k).has n = true)) (n : Nat) : (k * n + f) % s ≠ b := by
  intro e
  refine h (k * n + f) ⟨(early_has (r := ⟨b, s⟩) hb _).2 e, (has_pos (r := ⟨f, k⟩) hk _).2 ⟨Nat.le_add_left _ _, by show k ∣ k * n + f - f; rw [Nat.add_sub_cancel]; exact Nat.dvd_mul_right _ _⟩⟩

/-- What is covered by rests is covered. -/
theorem covers_parts {k : Nat} {g : List Rw} (hk : 0 < k) : Covers g ↔ ∀ f, f < k → ∀ n, ∃ r ∈ g, (k * n + f) % r.s = r.b := by
  constructor
  · intro h f _ n; exact h _
  · intro h n
    have := h (n % k) (Nat.mod_lt _ hk) (n / k)
    rwa [Nat.div_add_mod] at this
theorem every_covers {k f : Nat} {g qs : List Rw} (h : EveryIs k f g qs) : Covers qs ↔ ∀ n, ∃ r ∈ g, (k * n + f) % r.s = r.b :=
  ⟨fun hc n => (h.has n).1 (hc n), fun hc n => (h.has n).2 (hc n)⟩

/-- The primes that cover tries. -/
def primes : List Nat := [59, 53, 47, 43, 41, 37, 31, 29, 23, 19, 17, 13, 11, 7, 5, 3, 2]
theorem primes_ok : ∀ p ∈ primes, PrimeTo60 p := by
  have : ∀ p ∈ primes, 1 < p ∧ ∀ s, s < 61 → s % p ≠ 0 → Nat.gcd p s = 1 := by decide +kernel
  intro p hp
  exact ⟨(this p hp).1, fun s hs h => (this p hp).2 s (by omega) h⟩
theorem step_one : ∀ s, 0 < s → s ≤ 60 → (∀ p ∈ primes, s % p ≠ 0) → s = 1 := by
  have : ∀ s, s < 61 → 0 < s → (∀ p ∈ primes, s % p ≠ 0) → s = 1 := by decide +kernel
  intro s h0 h1 h2
  exact this s (by omega) h0 h2

/-- Rows without a row of all numbers, and without steps that a prime divides, are none. -/
theorem covers_end {g : List Rw} (hg : Going g) (hall : ∀ r ∈ g, ¬ (r.b = 0 ∧ r.s = 1)) (hp : ∀ r ∈ g, ∀ p ∈ primes, r.s % p ≠ 0) : ¬ Covers g := by
  intro hc
  obtain ⟨r, hr, _⟩ := hc 0
  have h1 := hg r hr
  have h2 := step_one r.s (by omega) h1.2 (hp r hr)
  exact hall r hr ⟨by omega, h2⟩
theorem covers_all {g : List Rw} {r : Rw} (hr : r ∈ g) (h : r.b = 0 ∧ r.s = 1) : Covers g := fun n => ⟨r, hr, by rw [h.1, h.2, Nat.mod_one]⟩

set_option linter.unusedVariables false

theorem cnt_getD (l : List Rw) (n k : Nat) (h : k < l.length) : cnt (l.take (k + 1)) n = cnt (l.take k) n + (if (l.getD k default).has n then 1 else 0) := by
  rw [cnt_take l n k h, List.getD_eq_getElem?_getD, List.getElem?_eq_getElem h]; rfl
theorem cnt_mono (l : List Rw) (n : Nat) {i j : Nat} (h : i ≤ j) : cnt (l.take i) n ≤ cnt (l.take j) n := by
  unfold cnt
  have e : l.take i = (l.take j).take i := by rw [List.take_take, Nat.min_eq_left h]
  rw [e]
  exact List.Sublist.countP_le (List.take_sublist _ _)

/-- No two rows, told at different places, have a number in common. -/
def Disjoint (g : List Rw) (k : Nat) : Prop := ∀ i, i < k → ∀ j, j < i → ∀ n, ¬ ((g.getD i default).has n = true ∧ (g.getD j default).has n = true)
theorem cnt_zero {g : List Rw} {k n : Nat} (hk : k ≤ g.length) (h : ∀ j, j < k → (g.getD j default).has n = false) : cnt (g.take k) n = 0 := by
  induction k with
  | zero => rfl
  | succ k ih => rw [cnt_getD g n k (by omega), ih (by omega) (fun j hj => h j (by omega)), h k (by omega)]; rfl
theorem disjoint_le {g : List Rw} {k : Nat} (hk : k ≤ g.length) (h : Disjoint g k) (n : Nat) : cnt (g.take k) n ≤ 1 := by
  induction k with
  | zero => exact Nat.zero_le _
  | succ k ih =>
    rw [cnt_getD g n k (by omega)]
    cases e : (g.getD k default).has n
    · have := ih (by omega) (fun i hi => h i (by omega))
      simpa using this
    · rw [cnt_zero (by omega) (fun j hj => by
        cases e2 : (g.getD j default).has n
        · rfl
        · exact (h k (by omega) j hj n ⟨e, e2⟩).elim)]
      simp
theorem disjoint_iff (g : List Rw) : Disjoint g g.length ↔ ∀ n, cnt g n ≤ 1 := by
  constructor
  · intro h n
    have := disjoint_le (Nat.le_refl _) h n
    rwa [List.take_length] at this
  · intro h i hi j hj n hn
    have h1 := h n
    have h2 := cnt_mono g n (show i + 1 ≤ g.length from hi)
    rw [List.take_length] at h2
    have h3 := cnt_mono g n (show j + 1 ≤ i from hj)
    have h4 := cnt_getD g n i hi
    have h5 := cnt_getD g n j (by omega)
    rw [hn.1, if_pos rfl] at h4
    rw [hn.2, if_pos rfl] at h5
    omega

theorem covers_cnt {g : List Rw} (hg : Going g) : Covers g ↔ ∀ n, 0 < cnt g n := by
  constructor
  · intro h n
    obtain ⟨r, hr, e⟩ := h n
    exact (cnt_pos g n).2 ⟨r, hr, (early_has (hg r hr).1 n).2 e⟩
  · intro h n
    obtain ⟨r, hr, e⟩ := (cnt_pos g n).1 (h n)
    exact ⟨r, hr, (early_has (hg r hr).1 n).1 e⟩
/-- Each number is in just one row. -/
def Once (g : List Rw) : Prop := ∀ n, cnt g n = 1
theorem once_iff {g : List Rw} (hg : Going g) : (Covers g ∧ Disjoint g g.length) ↔ Once g := by
  rw [covers_cnt hg, disjoint_iff]
  constructor
  · rintro ⟨h1, h2⟩ n
    have := h1 n; have := h2 n; omega
  · intro h
    exact ⟨fun n => by rw [h n]; decide, fun n => by rw [h n]; exact Nat.le_refl _⟩

/-- What comes round. -/
theorem has_round {r : Rw} {M n : Nat} (hr : r.b < r.s) (hM : r.s ∣ M) : r.has (n + M) = r.has n := by
  rw [Bool.eq_iff_iff, early_has hr, early_has hr]
  obtain ⟨k, rfl⟩ := hM
  rw [Nat.add_mul_mod_self_left]
theorem cnt_round {g : List Rw} (hg : Going g) {M : Nat} (hM : ∀ r ∈ g, r.s ∣ M) (n : Nat) : cnt g (n + M) = cnt g n := by
  unfold cnt
  exact List.countP_congr fun r hr => by rw [has_round (hg r hr).1 (hM r hr)]
theorem cnt_rounds {g : List Rw} (hg : Going g) {M : Nat} (hM : ∀ r ∈ g, r.s ∣ M) (n k : Nat) : cnt g (n + M * k) = cnt g n := by
  induction k with
  | zero => simp
  | succ k ih => rw [Nat.mul_succ, ← Nat.add_assoc, cnt_round hg hM, ih]
/-- One round, wherever it begins, tells all. -/
theorem round_all {g : List Rw} (hg : Going g) {M : Nat} (hM0 : 0 < M) (hM : ∀ r ∈ g, r.s ∣ M) (B : Nat) {P : Nat → Prop} (h : ∀ n, n < M → P (cnt g (B + n))) (m : Nat) : P (cnt g m) := by
  have e : cnt g m = cnt g (m + M * B) := (cnt_rounds hg hM m B).symm
  have hle : B ≤ m + M * B := Nat.le_trans (Nat.le_mul_of_pos_left B hM0) (Nat.le_add_left _ _)
  have e2 : m + M * B = (B + (m + M * B - B) % M) + M * ((m + M * B - B) / M) := by
    have := Nat.mod_add_div (m + M * B - B) M
    omega
  rw [e, e2, cnt_rounds hg hM]
  exact h _ (Nat.mod_lt _ hM0)

/-! ### The share -/

theorem sum_swap (g : List Rw) (M : Nat) : ((List.range M).map fun n => cnt g n).sum = (g.map fun r => (List.range M).countP fun n => r.has n).sum := by
  induction g with
  | nil =>
    have : ∀ M, ((List.range M).map fun n => cnt [] n).sum = 0 := by
      intro M
      induction M with
      | zero => rfl
      | succ M ih => rw [List.range_succ, List.map_append, List.sum_append, ih]; rfl
    exact this M
  | cons r g ih =>
    have e : ∀ n, cnt (r :: g) n = (if r.has n then 1 else 0) + cnt g n := fun n => by
      unfold cnt; rw [List.countP_cons, Nat.add_comm]
    rw [List.map_cons, List.sum_cons, ← ih]
    have : ∀ M, ((List.range M).map fun n => cnt (r :: g) n).sum = (List.range M).countP (fun n => r.has n) + ((List.range M).map fun n => cnt g n).sum := by
      intro M
      induction M with
      | zero => rfl
      | succ M ih2 =>
        rw [List.range_succ, List.map_append, List.sum_append, ih2, List.countP_append, List.map_append, List.sum_append]
        simp only [List.map_cons, List.map_nil, List.sum_cons, List.sum_nil, List.countP_singleton, e]
        omega
    exact this M
theorem count_one {s b : Nat} (hb : b < s) (m : Nat) (hm : m ≤ s) : List.countP (fun n => (Rw.mk b s).has n) (List.range m) = if b < m then 1 else 0 := by
  induction m with
  | zero => rfl
  | succ m ih =>
    rw [List.range_succ, List.countP_append, ih (by omega), List.countP_singleton]
    have hh : (Rw.mk b s).has m = true ↔ m = b := by
      rw [early_has (r := ⟨b, s⟩) hb]
      show m % s = b ↔ m = b
      rw [Nat.mod_eq_of_lt (by omega)]
    by_cases h2 : m = b
    · rw [if_pos (hh.2 h2), if_neg (by omega), if_pos (by omega)]
    · have h3 : ¬ (Rw.mk b s).has m = true := fun e => h2 (hh.1 e)
      rw [if_neg h3]
      by_cases h1 : b < m
      · rw [if_pos h1, if_pos (by omega)]
      · rw [if_neg h1, if_neg (by omega)]
/-- In so many rounds of a row it has so many numbers. -/
theorem count_rounds {r : Rw} (hr : r.b < r.s) (k : Nat) : (List.range (r.s * k)).countP (fun n => r.has n) = k := by
  induction k with
  | zero => rfl
  | succ k ih =>
    rw [Nat.mul_succ, List.range_add, List.countP_append, ih, List.countP_map]
    have e : List.countP ((fun n => r.has n) ∘ fun x => r.s * k + x) (List.range r.s) = List.countP (fun n => r.has n) (List.range r.s) := by
      apply List.countP_congr
      intro x _
      simp only [Function.comp]
      rw [Nat.add_comm, has_round hr (Nat.dvd_mul_right _ _)]
    rw [e]
    have := count_one hr r.s (Nat.le_refl _)
    rw [if_pos hr] at this
    rw [show r = ⟨r.b, r.s⟩ from rfl]
    rw [this]
theorem sum_counts {g : List Rw} (hg : Going g) {M : Nat} (hM : ∀ r ∈ g, r.s ∣ M) : (g.map fun r => (List.range M).countP fun n => r.has n).sum = sumOver M g := by
  induction g with
  | nil => rfl
  | cons r g ih =>
    have h0 := (hg r (List.mem_cons_self ..)).1
    obtain ⟨k, hk⟩ := hM r (List.mem_cons_self ..)
    have e : sumOver M (r :: g) = (if 0 < r.s then M / r.s else 0) + sumOver M g := by unfold sumOver; rfl
    rw [List.map_cons, List.sum_cons, ih (fun q hq => hg q (List.mem_cons_of_mem _ hq)) (fun q hq => hM q (List.mem_cons_of_mem _ hq)), e, if_pos (by omega), hk, count_rounds h0, Nat.mul_div_cancel_left _ (by omega)]
theorem sum_ge {f : Nat → Nat} (h : ∀ n, 1 ≤ f n) (M : Nat) : M ≤ ((List.range M).map f).sum := by
  induction M with
  | zero => exact Nat.le_refl _
  | succ M ih =>
    rw [List.range_succ, List.map_append, List.sum_append]
    have := h M
    simp only [List.map_cons, List.map_nil, List.sum_cons, List.sum_nil]
    omega
theorem sum_one {f : Nat → Nat} (h : ∀ n, f n = 1) (M : Nat) : ((List.range M).map f).sum = M := by
  induction M with
  | zero => rfl
  | succ M ih =>
    rw [List.range_succ, List.map_append, List.sum_append, ih]
    simp [h M]
/-- Rows that cover share one at least; that cover once, just one. -/
theorem covers_share {g : List Rw} (hg : Going g) (h : Covers g) : lcmAll g ≤ sumOver (lcmAll g) g := by
  rw [← sum_counts hg (fun r hr => step_dvd hr (by have := (hg r hr).1; omega)), ← sum_swap]
  exact sum_ge (fun n => (covers_cnt hg).1 h n) _
theorem once_share {g : List Rw} (hg : Going g) (h : Once g) : sumOver (lcmAll g) g = lcmAll g := by
  rw [← sum_counts hg (fun r hr => step_dvd hr (by have := (hg r hr).1; omega)), ← sum_swap]
  exact sum_one h _

end Go.Proofs.Ytdcedkjoligekab
