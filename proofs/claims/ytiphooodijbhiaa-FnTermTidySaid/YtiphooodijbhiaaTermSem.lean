/-
  Terms: plain facts. What a text is a term of, how a term is written, and how it is tidied. What is cut off behind a bracket that opens, and when a whole text is a term: plain facts. Terms: which numbers they tell, and which set texts are made of them: plain facts.
-/
import Derived.Test.YtiphooodijbhiaaHasMath
import Derived.Test.YtiphooodijbhiaaStarRound
import Derived.Test.YtiphooodijbhiaaTimesMath
set_option linter.unusedSimpArgs false
set_option linter.unusedVariables false
namespace Go.Proofs.Ytiphooodijbhiaa
open Go.RowKit

/-- A term: one sign, a star, a digit, or two with a sign between them. -/
inductive Tm where
  | sign (c : UInt8)
  | star (t : Tm)
  | times (d : UInt8) (t : Tm)
  | pair (l : Tm) (s : UInt8) (r : Tm)

/-- A sign of one. -/
def isOne (c : UInt8) : Bool := c == 48 || c == 49 || c == 97
def isDig (c : UInt8) : Bool := c == 50 || c == 51 || c == 52 || c == 53
def isMid (c : UInt8) : Bool := c == 43 || c == 46 || c == 38

/-- What is behind the first part of a pair: its sign, the second part, and the bracket. -/
def cutMid (cut : List UInt8 → Option (Tm × List UInt8)) (a : Tm) : List UInt8 → Option (Tm × List UInt8)
  | [] => none
  | m :: l => if isMid m then
      match cut l with
      | some (b, 41 :: r) => some (.pair a m b, r)
      | _ => none
    else none
/-- The term with which signs begin, and what is behind it; n is as many at least as the signs. -/
def cutT : Nat → List UInt8 → Option (Tm × List UInt8)
  | 0, _ => none
  | _ + 1, [] => none
  | n + 1, c :: l =>
    if isOne c then some (.sign c, l)
    else if c = 42 then (cutT n l).map fun p => (.star p.1, p.2)
    else if isDig c then (cutT n l).map fun p => (.times c p.1, p.2)
    else if c = 40 then
      match cutT n l with
      | some (a, l2) => cutMid (cutT n) a l2
      | none => none
    else none

theorem cutMid_cons (f : List UInt8 → Option (Tm × List UInt8)) (a : Tm) (m : UInt8) (l : List UInt8) : cutMid f a (m :: l) = if isMid m = true then (match f l with | some (b, 41 :: r) => some (.pair a m b, r) | _ => none) else none := rfl
theorem cutT_nil (n : Nat) : cutT n [] = none := by cases n <;> rfl
theorem cutT_one {n : Nat} {c : UInt8} {l : List UInt8} (h : isOne c = true) : cutT (n + 1) (c :: l) = some (.sign c, l) := by
  unfold cutT; rw [if_pos h]
theorem not_one_star : isOne 42 = false := by decide
theorem cutT_star {n : Nat} {l : List UInt8} : cutT (n + 1) (42 :: l) = (cutT n l).map fun p => (.star p.1, p.2) := by
  rw [cutT, if_neg (by decide), if_pos rfl]
theorem dig_cases {c : UInt8} (h : isDig c = true) : c = 50 ∨ c = 51 ∨ c = 52 ∨ c = 53 := by
  simpa [isDig, or_assoc] using h
theorem cutT_dig {n : Nat} {c : UInt8} {l : List UInt8} (h : isDig c = true) : cutT (n + 1) (c :: l) = (cutT n l).map fun p => (.times c p.1, p.2) := by
  rw [cutT, if_neg (by rcases dig_cases h with rfl | rfl | rfl | rfl <;> decide), if_neg (by rcases dig_cases h with rfl | rfl | rfl | rfl <;> decide), if_pos h]
theorem cutT_open {n : Nat} {l : List UInt8} : cutT (n + 1) (40 :: l) = match cutT n l with | some (a, l2) => cutMid (cutT n) a l2 | none => none := by
  rw [cutT, if_neg (by decide), if_neg (by decide), if_neg (by decide), if_pos rfl]
theorem cutT_other {n : Nat} {c : UInt8} {l : List UInt8} (h1 : isOne c = false) (h2 : c ≠ 42) (h3 : isDig c = false) (h4 : c ≠ 40) : cutT (n + 1) (c :: l) = none := by
  rw [cutT, if_neg (by rw [h1]; decide), if_neg h2, if_neg (by rw [h3]; decide), if_neg h4]

/-- How a term is written. -/
def tmText : Tm → List UInt8
  | .sign c => [c]
  | .star t => 42 :: tmText t
  | .times d t => d :: tmText t
  | .pair l s r => 40 :: (tmText l ++ s :: (tmText r ++ [41]))
/-- A term whose signs are as told. -/
def tmOk : Tm → Bool
  | .sign c => isOne c
  | .star t => tmOk t
  | .times d t => isDig d && tmOk t
  | .pair l s r => tmOk l && (isMid s && tmOk r)

theorem cutMid_some {n : Nat} {a t : Tm} {l r : List UInt8} (h : cutMid (cutT n) a l = some (t, r)) : ∃ m l2 b, l = m :: l2 ∧ isMid m = true ∧ cutT n l2 = some (b, 41 :: r) ∧ t = .pair a m b := by
  cases l with
  | nil => cases h
  | cons m l2 =>
    rw [cutMid_cons] at h
    split at h
    · rename_i hm
      split at h
      · rename_i b r2 hc
        simp only [Option.some.injEq, Prod.mk.injEq] at h
        obtain ⟨rfl, rfl⟩ := h
        exact ⟨m, l2, b, rfl, hm, hc, rfl⟩
      · cases h
    · cases h

/-- What is cut off is the text of a term. -/
theorem cutT_text : ∀ (n : Nat) (l : List UInt8) (t : Tm) (r : List UInt8), cutT n l = some (t, r) → l = tmText t ++ r ∧ tmOk t = true := by
  intro n
  induction n with
  | zero => intro l t r h; cases h
  | succ n ih =>
    intro l t r h
    cases l with
    | nil => cases h
    | cons c l =>
      rw [cutT] at h
      split at h
      · rename_i h1
        simp only [Option.some.injEq, Prod.mk.injEq] at h
        obtain ⟨rfl, rfl⟩ := h
        exact ⟨rfl, h1⟩
      · split at h
        · rename_i h2
          subst h2
          simp only [Option.map_eq_some_iff, Prod.mk.injEq] at h
          obtain ⟨⟨u, v⟩, h, rfl, rfl⟩ := h
          obtain ⟨rfl, h3⟩ := ih _ _ _ h
          exact ⟨rfl, h3⟩
        · split at h
          · rename_i h2
            simp only [Option.map_eq_some_iff, Prod.mk.injEq] at h
            obtain ⟨⟨u, v⟩, h, rfl, rfl⟩ := h
            obtain ⟨rfl, h3⟩ := ih _ _ _ h
            exact ⟨rfl, by rw [tmOk, h2, h3]; rfl⟩
          · split at h
            · rename_i h2
              subst h2
              split at h
              · rename_i a l2 ha
                obtain ⟨rfl, h3⟩ := ih _ _ _ ha
                obtain ⟨m, l3, b, rfl, hm, hb, rfl⟩ := cutMid_some h
                obtain ⟨rfl, h4⟩ := ih _ _ _ hb
                refine ⟨by simp [tmText], by rw [tmOk, h3, hm, h4]; rfl⟩
              · cases h
            · cases h
theorem text_pos (t : Tm) : 0 < (tmText t).length := by cases t <;> simp [tmText]
theorem cutT_less {n : Nat} {l r : List UInt8} {t : Tm} (h : cutT n l = some (t, r)) : r.length < l.length := by
  have h1 := (cutT_text n l t r h).1
  have h2 := text_pos t
  rw [h1, List.length_append]; omega

/-- The text of a term is cut off as it. -/
theorem cutT_of : ∀ (t : Tm) (n : Nat) (r : List UInt8), tmOk t = true → (tmText t).length ≤ n → cutT n (tmText t ++ r) = some (t, r) := by
  intro t
  induction t with
  | sign c =>
    intro n r ho hn
    obtain ⟨k, rfl⟩ : ∃ k, n = k + 1 := ⟨n - 1, by simp [tmText] at hn; omega⟩
    exact cutT_one ho
  | star t ih =>
    intro n r ho hn
    obtain ⟨k, rfl⟩ : ∃ k, n = k + 1 := ⟨n - 1, by simp [tmText] at hn; omega⟩
    show cutT (k + 1) (42 :: (tmText t ++ r)) = _
    rw [cutT_star, ih k r ho (by simp [tmText] at hn; omega)]; rfl
  | times d t ih =>
    intro n r ho hn
    obtain ⟨k, rfl⟩ : ∃ k, n = k + 1 := ⟨n - 1, by simp [tmText] at hn; omega⟩
    rw [tmOk, Bool.and_eq_true] at ho
    show cutT (k + 1) (d :: (tmText t ++ r)) = _
    rw [cutT_dig ho.1, ih k r ho.2 (by simp [tmText] at hn; omega)]; rfl
  | pair a s b iha ihb =>
    intro n r ho hn
    obtain ⟨k, rfl⟩ : ∃ k, n = k + 1 := ⟨n - 1, by simp [tmText] at hn; omega⟩
    rw [tmOk, Bool.and_eq_true, Bool.and_eq_true] at ho
    simp [tmText] at hn
    have e : tmText (.pair a s b) ++ r = 40 :: (tmText a ++ (s :: (tmText b ++ (41 :: r)))) := by simp [tmText]
    rw [e, cutT_open, iha k _ ho.1 (by omega)]
    show cutMid (cutT k) a (s :: (tmText b ++ 41 :: r)) = _
    rw [cutMid_cons, if_pos ho.2.1, ihb k _ ho.2.2 (by omega)]
    rfl

/-- The term that a whole text is. -/
def termOf (l : List UInt8) : Option Tm :=
  if l.length ≤ 60 then
    match cutT 60 l with
    | some (t, []) => some t
    | _ => none
  else none
theorem termOf_some {l : List UInt8} {t : Tm} (h : termOf l = some t) : l = tmText t ∧ tmOk t = true ∧ (tmText t).length ≤ 60 := by
  unfold termOf at h
  split at h
  · rename_i hl
    split at h
    · rename_i u hu
      simp only [Option.some.injEq] at h
      subst h
      obtain ⟨h1, h2⟩ := cutT_text _ _ _ _ hu
      rw [List.append_nil] at h1
      exact ⟨h1, h2, by rw [← h1]; exact hl⟩
    · cases h
  · cases h
theorem termOf_text {t : Tm} (h : tmOk t = true) (hl : (tmText t).length ≤ 60) : termOf (tmText t) = some t := by
  unfold termOf
  have := cutT_of t 60 [] h hl
  rw [List.append_nil] at this
  rw [if_pos hl, this]
theorem text_inj {t u : Tm} (ht : tmOk t = true) (hu : tmOk u = true) (h : tmText t = tmText u) : t = u := by
  have h1 := cutT_of t (tmText u).length [] ht (by rw [h]; exact Nat.le_refl _)
  have h2 := cutT_of u (tmText u).length [] hu (Nat.le_refl _)
  rw [h, h2] at h1
  simpa using h1.symm

/-- A term of one sign, by its text. -/
theorem text_single {t : Tm} {c : UInt8} (h : tmText t = [c]) : t = .sign c := by
  cases t with
  | sign d => simp [tmText] at h; rw [h]
  | star t => have := text_pos t; simp [tmText] at h; rw [h.2] at this; simp at this
  | times d t => have := text_pos t; simp [tmText] at h; rw [h.2] at this; simp at this
  | pair l s r => simp [tmText] at h

/-- What a star of a tidy term becomes. -/
def tidyStar : Tm → Tm
  | .star u => .star u
  | .sign c => if c = 97 then .star (.sign c) else .sign 49
  | t => .star t
theorem tidyStar_sign (c : UInt8) : tidyStar (.sign c) = if c = 97 then .star (.sign c) else .sign 49 := rfl
def tidyTimes (d : UInt8) (t : Tm) : Tm := if tmText t = [48] ∨ tmText t = [49] then t else .times d t
def tidyPair (a : Tm) (s : UInt8) (b : Tm) : Tm :=
  if s ≠ 43 ∧ (tmText a = [48] ∨ tmText b = [48]) then .sign 48
  else if (s = 43 ∧ tmText a = [48]) ∨ (s = 46 ∧ tmText a = [49]) then b
  else if (s = 43 ∧ tmText b = [48]) ∨ (s = 46 ∧ tmText b = [49]) then a
  else if s ≠ 46 ∧ tmText a = tmText b then a
  else .pair a s b
/-- What a term becomes. -/
def tidy : Tm → Tm
  | .sign c => .sign c
  | .star t => tidyStar (tidy t)
  | .times d t => tidyTimes d (tidy t)
  | .pair l s r => tidyPair (tidy l) s (tidy r)

theorem tidyStar_ok {t : Tm} (h : tmOk t = true) : tmOk (tidyStar t) = true ∧ (tmText (tidyStar t)).length ≤ (tmText t).length + 1 := by
  cases t with
  | sign c =>
    rw [tidyStar_sign]
    split
    · exact ⟨h, by simp [tmText]⟩
    · exact ⟨rfl, by simp [tmText]⟩
  | star t => exact ⟨h, by simp [tidyStar]⟩
  | times d t => exact ⟨h, by simp [tidyStar, tmText]⟩
  | pair l s r => exact ⟨h, by simp [tidyStar, tmText]⟩
theorem tidyTimes_ok {t : Tm} {d : UInt8} (hd : isDig d = true) (h : tmOk t = true) : tmOk (tidyTimes d t) = true ∧ (tmText (tidyTimes d t)).length ≤ (tmText t).length + 1 := by
  unfold tidyTimes
  split
  · exact ⟨h, by omega⟩
  · exact ⟨by rw [tmOk, hd, h]; rfl, by simp [tmText]⟩
theorem tidyPair_ok {a b : Tm} {s : UInt8} (hs : isMid s = true) (ha : tmOk a = true) (hb : tmOk b = true) : tmOk (tidyPair a s b) = true ∧ (tmText (tidyPair a s b)).length ≤ (tmText a).length + (tmText b).length + 3 := by
  unfold tidyPair
  split
  · exact ⟨rfl, by simp [tmText]⟩
  · split
    · exact ⟨hb, by omega⟩
    · split
      · exact ⟨ha, by omega⟩
      · split
        · exact ⟨ha, by omega⟩
        · exact ⟨by rw [tmOk, hs, ha, hb]; rfl, by simp [tmText]; omega⟩
theorem tidy_ok : ∀ {t : Tm}, tmOk t = true → tmOk (tidy t) = true ∧ (tmText (tidy t)).length ≤ (tmText t).length := by
  intro t
  induction t with
  | sign c => intro h; exact ⟨h, Nat.le_refl _⟩
  | star t ih =>
    intro h
    have h1 := ih h
    have h2 := tidyStar_ok h1.1
    refine ⟨h2.1, ?_⟩
    show (tmText (tidyStar (tidy t))).length ≤ (tmText t).length + 1
    omega
  | times d t ih =>
    intro h
    rw [tmOk, Bool.and_eq_true] at h
    have h1 := ih h.2
    have h2 := tidyTimes_ok h.1 h1.1
    refine ⟨h2.1, ?_⟩
    show (tmText (tidyTimes d (tidy t))).length ≤ (tmText t).length + 1
    omega
  | pair l s r ihl ihr =>
    intro h
    rw [tmOk, Bool.and_eq_true, Bool.and_eq_true] at h
    have h1 := ihl h.1
    have h3 := ihr h.2.2
    have h2 := tidyPair_ok h.2.1 h1.1 h3.1
    refine ⟨h2.1, ?_⟩
    have e : (tmText (.pair l s r)).length = (tmText l).length + (tmText r).length + 3 := by simp [tmText]; omega
    show (tmText (tidyPair (tidy l) s (tidy r))).length ≤ _
    omega

/-- The number of signs that are no brackets. -/
def tmSigns (l : List UInt8) : Nat := (l.filter fun c => !(c == 40 || c == 41)).length

/-- A term, behind a bracket that opens it: what cutPair cuts off. -/
def cutP (k : Nat) (l : List UInt8) : Option (Tm × List UInt8) := match cutT k l with | some (a, l2) => cutMid (cutT k) a l2 | none => none
theorem cutP_none {k : Nat} {l : List UInt8} (h : cutT k l = none) : cutP k l = none := by unfold cutP; rw [h]
theorem cutP_end {k : Nat} {l : List UInt8} {a : Tm} (h : cutT k l = some (a, [])) : cutP k l = none := by unfold cutP; rw [h]; rfl
theorem cutP_mid {k : Nat} {l l3 : List UInt8} {a : Tm} {m : UInt8} (h : cutT k l = some (a, m :: l3)) (hm : isMid m = false) : cutP k l = none := by unfold cutP; rw [h]; show cutMid _ _ _ = _; rw [cutMid_cons, if_neg (by rw [hm]; decide)]
theorem cutP_second {k : Nat} {l l3 : List UInt8} {a : Tm} {m : UInt8} (h : cutT k l = some (a, m :: l3)) (hm : isMid m = true) : cutP k l = (match cutT k l3 with | some (b, 41 :: r) => some (.pair a m b, r) | _ => none) := by unfold cutP; rw [h]; show cutMid _ _ _ = _; rw [cutMid_cons, if_pos hm]
theorem cutP_none2 {k : Nat} {l l3 : List UInt8} {a : Tm} {m : UInt8} (h : cutT k l = some (a, m :: l3)) (hm : isMid m = true) (h2 : cutT k l3 = none) : cutP k l = none := by rw [cutP_second h hm, h2]
theorem cutP_end2 {k : Nat} {l l3 : List UInt8} {a b : Tm} {m : UInt8} (h : cutT k l = some (a, m :: l3)) (hm : isMid m = true) (h2 : cutT k l3 = some (b, [])) : cutP k l = none := by rw [cutP_second h hm, h2]
theorem cutP_shut {k : Nat} {l l3 r : List UInt8} {a b : Tm} {m x : UInt8} (h : cutT k l = some (a, m :: l3)) (hm : isMid m = true) (h2 : cutT k l3 = some (b, x :: r)) (hx : x ≠ 41) : cutP k l = none := by
  rw [cutP_second h hm, h2]
  split
  · rename_i e; simp at e; exact absurd e.2.1 hx
  · rfl
theorem cutP_some {k : Nat} {l l3 r : List UInt8} {a b : Tm} {m : UInt8} (h : cutT k l = some (a, m :: l3)) (hm : isMid m = true) (h2 : cutT k l3 = some (b, 41 :: r)) : cutP k l = some (.pair a m b, r) := by
  rw [cutP_second h hm, h2]; rfl
theorem termOf_long {l : List UInt8} (h : ¬ l.length ≤ 60) : termOf l = none := by unfold termOf; rw [if_neg h]
theorem termOf_none {l : List UInt8} (h : l.length ≤ 60) (h2 : cutT 60 l = none) : termOf l = none := by unfold termOf; rw [if_pos h, h2]
theorem termOf_more {l r : List UInt8} {t : Tm} {c : UInt8} (h : l.length ≤ 60) (h2 : cutT 60 l = some (t, c :: r)) : termOf l = none := by unfold termOf; rw [if_pos h, h2]
theorem termOf_is {l : List UInt8} {t : Tm} (h : l.length ≤ 60) (h2 : cutT 60 l = some (t, [])) : termOf l = some t := by unfold termOf; rw [if_pos h, h2]

theorem byte_is {c : UInt8} {k : Nat} (h : k < 256) : (c.toNat : Int) = (k : Int) ↔ c = UInt8.ofNat k := by
  rw [← UInt8.toNat_inj, UInt8.toNat_ofNat', Nat.mod_eq_of_lt h]; omega
theorem suffix_at {s : ByteArray} {j : Nat} {x r : List UInt8} (h : s.data.toList.drop j = x ++ r) : s.data.toList.drop (s.size - r.length) = r ∧ r.length ≤ s.size := by
  have e : s.data.toList = (s.data.toList.take j ++ x) ++ r := by rw [List.append_assoc, ← h, List.take_append_drop]
  have hl := congrArg List.length e
  rw [size_eq, List.length_append] at hl
  refine ⟨?_, by omega⟩
  conv => lhs; rw [e]
  rw [List.drop_left' (by omega)]
theorem cut_at {n : Nat} {s : ByteArray} {j : Nat} {l r : List UInt8} {t : Tm} (h : s.data.toList.drop j = l) (hc : cutT n l = some (t, r)) :
    s.data.toList.drop (s.size - r.length) = r ∧ r.length ≤ s.size ∧ s.size - r.length ≠ 0 := by
  have h1 := (cutT_text _ _ _ _ hc).1
  have h2 := suffix_at (h.trans h1)
  have h3 := cutT_less hc
  have h4 := congrArg List.length h
  rw [List.length_drop, size_eq] at h4
  exact ⟨h2.1, h2.2, by omega⟩
theorem drop_end {s : ByteArray} {i : Nat} (h : s.data.toList.drop i = []) : s.size ≤ i := by
  have := congrArg List.length h
  rw [List.length_drop, size_eq] at this
  simp at this
  omega

/-- f with itself, k more of it. -/
def sumK (f : Nat → Bool) : Nat → Nat → Bool
  | 0 => f
  | k + 1 => sumG false (sumK f k) f
/-- What a sign between two tells. -/
def midF (s : UInt8) (f g : Nat → Bool) : Nat → Bool :=
  if s = 46 then sumG false f g else if s = 43 then fun n => f n || g n else fun n => f n && g n
/-- What one sign tells. -/
def oneF (c : UInt8) (n : Nat) : Bool := if c = 49 then decide (n = 0) else if c = 97 then decide (n = 1) else false
/-- The numbers that a term tells. -/
noncomputable def tmF : Tm → Nat → Bool
  | .sign c => oneF c
  | .star t => starB (tmF t)
  | .times d t => sumK (tmF t) (d.toNat - 49)
  | .pair l s r => midF s (tmF l) (tmF r)

theorem oneF_zero : oneF 48 = fun _ => false := by funext n; rfl
theorem oneF_one : oneF 49 = zeroOnly := by funext n; rfl
theorem sum_none_left (g : Nat → Bool) : sumG false (fun _ => false) g = fun _ => false := by
  funext n
  apply bool_iff
  rw [sumG_iff]
  constructor
  · rintro ⟨x, y, _, h, _⟩; cases h
  · intro h; cases h
theorem sum_none_right (f : Nat → Bool) : sumG false f (fun _ => false) = fun _ => false := by rw [sumG_comm, sum_none_left]
theorem sum_zero_left (g : Nat → Bool) : sumG false zeroOnly g = g := by
  funext n
  apply bool_iff
  rw [sumG_iff]
  constructor
  · rintro ⟨x, y, h1, h2, h3, _⟩
    have : x = 0 := by simpa [zeroOnly] using h2
    rw [← h1, this, Nat.zero_add]; exact h3
  · intro h
    exact ⟨0, n, by omega, rfl, h, by simp⟩
theorem sum_zero_right (f : Nat → Bool) : sumG false f zeroOnly = f := by rw [sumG_comm, sum_zero_left]
theorem sumK_none (k : Nat) : sumK (fun _ => false) k = fun _ => false := by
  cases k with
  | zero => rfl
  | succ k => exact sum_none_right _
theorem sumK_zero (k : Nat) : sumK zeroOnly k = zeroOnly := by
  induction k with
  | zero => rfl
  | succ k ih => show sumG false (sumK zeroOnly k) zeroOnly = _; rw [ih, sum_zero_left]
theorem star_of_none : starB (fun _ => false) = zeroOnly := by
  funext n
  apply bool_iff
  rw [starB_iff]
  constructor
  · intro h
    rcases Nat.eq_zero_or_pos n with e | e
    · simp [zeroOnly, e]
    · obtain ⟨x, hx, _⟩ := star_split h e; cases hx
  · intro h
    have : n = 0 := by simpa [zeroOnly] using h
    rw [this]; exact star_zero _
theorem star_of_zero : starB zeroOnly = zeroOnly := by
  funext n
  apply bool_iff
  rw [starB_iff]
  constructor
  · intro h
    rcases Nat.eq_zero_or_pos n with e | e
    · simp [zeroOnly, e]
    · obtain ⟨x, hx, h2, _⟩ := star_split h e
      have : x = 0 := by simpa [zeroOnly] using hx
      omega
  · intro h
    have : n = 0 := by simpa [zeroOnly] using h
    rw [this]; exact star_zero _
theorem star_of_star (f : Nat → Bool) : starB (starB f) = starB f := by
  funext n
  apply bool_iff
  rw [starB_iff, starB_iff]
  constructor
  · exact star_star fun x hx => starB_iff.1 hx
  · intro h; exact star_one (starB_iff.2 h)

theorem one_cases {c : UInt8} (h : isOne c = true) : c = 48 ∨ c = 49 ∨ c = 97 := by simpa [isOne, or_assoc] using h
theorem mid_cases {c : UInt8} (h : isMid c = true) : c = 43 ∨ c = 46 ∨ c = 38 := by simpa [isMid, or_assoc] using h
theorem text_none {t : Tm} (h : tmText t = [48]) : tmF t = fun _ => false := by rw [text_single h]; exact oneF_zero
theorem text_zero {t : Tm} (h : tmText t = [49]) : tmF t = zeroOnly := by rw [text_single h]; exact oneF_one

theorem tidyStar_same {t : Tm} (h : tmOk t = true) : tmF (tidyStar t) = starB (tmF t) := by
  cases t with
  | sign c =>
    rcases one_cases h with rfl | rfl | rfl
    · show tmF (.sign 49) = starB (oneF 48); rw [oneF_zero, star_of_none]; exact oneF_one
    · show tmF (.sign 49) = starB (oneF 49); rw [oneF_one, star_of_zero]; exact oneF_one
    · rfl
  | star t => show starB (tmF t) = starB (starB (tmF t)); rw [star_of_star]
  | times d t => rfl
  | pair l s r => rfl
theorem tidyTimes_same {t : Tm} {d : UInt8} : tmF (tidyTimes d t) = sumK (tmF t) (d.toNat - 49) := by
  unfold tidyTimes
  split
  · rename_i h
    rcases h with h | h
    · rw [text_none h, sumK_none]
    · rw [text_zero h, sumK_zero]
  · rfl
theorem tidyPair_same {a b : Tm} {s : UInt8} (hs : isMid s = true) (ha : tmOk a = true) (hb : tmOk b = true) : tmF (tidyPair a s b) = midF s (tmF a) (tmF b) := by
  unfold tidyPair
  split
  · rename_i h
    have e : tmF (.sign 48) = fun _ => false := oneF_zero
    rw [e]
    rcases mid_cases hs with rfl | rfl | rfl
    · exact absurd rfl h.1
    · show _ = sumG false _ _
      rcases h.2 with h | h
      · rw [text_none h, sum_none_left]
      · rw [text_none h, sum_none_right]
    · show _ = fun n => tmF a n && tmF b n
      rcases h.2 with h | h
      · rw [text_none h]; funext n; rfl
      · rw [text_none h]; funext n; rw [Bool.and_false]
  · split
    · rename_i h
      rcases h with ⟨rfl, h⟩ | ⟨rfl, h⟩
      · show _ = fun n => tmF a n || tmF b n
        rw [text_none h]; funext n; rfl
      · show _ = sumG false _ _
        rw [text_zero h, sum_zero_left]
    · split
      · rename_i h
        rcases h with ⟨rfl, h⟩ | ⟨rfl, h⟩
        · show _ = fun n => tmF a n || tmF b n
          rw [text_none h]; funext n; rw [Bool.or_false]
        · show _ = sumG false _ _
          rw [text_zero h, sum_zero_right]
      · split
        · rename_i h
          have e := text_inj ha hb h.2
          subst e
          rcases mid_cases hs with rfl | rfl | rfl
          · show _ = fun n => tmF a n || tmF a n
            funext n; rw [Bool.or_self]
          · exact absurd rfl h.1
          · show _ = fun n => tmF a n && tmF a n
            funext n; rw [Bool.and_self]
        · rfl
/-- What is tidied tells the same. -/
theorem tidy_same : ∀ {t : Tm}, tmOk t = true → tmF (tidy t) = tmF t := by
  intro t
  induction t with
  | sign c => intro _; rfl
  | star t ih => intro h; show tmF (tidyStar (tidy t)) = starB (tmF t); rw [tidyStar_same (tidy_ok (t := t) h).1, ih h]
  | times d t ih =>
    intro h
    rw [tmOk, Bool.and_eq_true] at h
    show tmF (tidyTimes d (tidy t)) = sumK (tmF t) (d.toNat - 49)
    rw [tidyTimes_same, ih h.2]
  | pair l s r ihl ihr =>
    intro h
    rw [tmOk, Bool.and_eq_true, Bool.and_eq_true] at h
    show tmF (tidyPair (tidy l) s (tidy r)) = midF s (tmF l) (tmF r)
    rw [tidyPair_same h.2.1 (tidy_ok h.1).1 (tidy_ok h.2.2).1, ihl h.1, ihr h.2.2]

theorem tidyStar_again {t : Tm} (h : tidy t = t) : tidy (tidyStar t) = tidyStar t := by
  cases t with
  | sign c =>
    by_cases e : c = 97
    · subst e; rfl
    · rw [tidyStar_sign, if_neg e]; rfl
  | star t => exact h
  | times d t => show tidyStar (tidy (.times d t)) = _; rw [h]
  | pair l s r => show tidyStar (tidy (.pair l s r)) = _; rw [h]
theorem tidyTimes_again {t : Tm} {d : UInt8} (h : tidy t = t) : tidy (tidyTimes d t) = tidyTimes d t := by
  by_cases e : tmText t = [48] ∨ tmText t = [49]
  · unfold tidyTimes; rw [if_pos e]; exact h
  · have e2 : tidyTimes d t = .times d t := by unfold tidyTimes; rw [if_neg e]
    rw [e2]; show tidyTimes d (tidy t) = _; rw [h, e2]
theorem tidyPair_again {a b : Tm} {s : UInt8} (ha : tidy a = a) (hb : tidy b = b) : tidy (tidyPair a s b) = tidyPair a s b := by
  have hk : tidyPair a s b = .sign 48 ∨ tidyPair a s b = a ∨ tidyPair a s b = b ∨ tidyPair a s b = .pair a s b := by
    unfold tidyPair
    split
    · exact .inl rfl
    · split
      · exact .inr (.inr (.inl rfl))
      · split
        · exact .inr (.inl rfl)
        · split
          · exact .inr (.inl rfl)
          · exact .inr (.inr (.inr rfl))
  rcases hk with e | e | e | e
  · rw [e]; rfl
  · rw [e]; exact ha
  · rw [e]; exact hb
  · have : tidy (.pair a s b) = tidyPair a s b := by show tidyPair (tidy a) s (tidy b) = _; rw [ha, hb]
    rw [e, this, e]
/-- What is tidied is its own. -/
theorem tidy_again : ∀ (t : Tm), tidy (tidy t) = tidy t := by
  intro t
  induction t with
  | sign c => rfl
  | star t ih => exact tidyStar_again ih
  | times d t ih => exact tidyTimes_again ih
  | pair l s r ihl ihr => exact tidyPair_again ihl ihr

/-- The signs of a term that are no brackets. -/
def tmSize : Tm → Nat
  | .sign _ => 1
  | .star t => tmSize t + 1
  | .times _ t => tmSize t + 1
  | .pair l _ r => tmSize l + tmSize r + 1
theorem tmSigns_cons {c : UInt8} (l : List UInt8) (h : (c == 40 || c == 41) = false) : tmSigns (c :: l) = tmSigns l + 1 := by
  unfold tmSigns; rw [List.filter_cons, if_pos (by rw [h]; rfl)]; rfl
theorem tmSigns_skip {c : UInt8} (l : List UInt8) (h : (c == 40 || c == 41) = true) : tmSigns (c :: l) = tmSigns l := by
  unfold tmSigns; rw [List.filter_cons, if_neg (by rw [h]; decide)]
theorem tmSigns_append (l k : List UInt8) : tmSigns (l ++ k) = tmSigns l + tmSigns k := by unfold tmSigns; rw [List.filter_append, List.length_append]
theorem tmSigns_text : ∀ {t : Tm}, tmOk t = true → tmSigns (tmText t) = tmSize t := by
  intro t
  induction t with
  | sign c => intro h; rcases one_cases h with rfl | rfl | rfl <;> rfl
  | star t ih => intro h; show tmSigns (42 :: tmText t) = _; rw [tmSigns_cons _ (by decide), ih h]; rfl
  | times d t ih =>
    intro h
    rw [tmOk, Bool.and_eq_true] at h
    show tmSigns (d :: tmText t) = _
    rw [tmSigns_cons _ (by rcases dig_cases h.1 with rfl | rfl | rfl | rfl <;> decide), ih h.2]; rfl
  | pair l s r ihl ihr =>
    intro h
    rw [tmOk, Bool.and_eq_true, Bool.and_eq_true] at h
    show tmSigns (40 :: (tmText l ++ s :: (tmText r ++ [41]))) = tmSize l + tmSize r + 1
    rw [tmSigns_skip _ (by decide), tmSigns_append, tmSigns_cons _ (by rcases mid_cases h.2.1 with rfl | rfl | rfl <;> decide), tmSigns_append, ihl h.1, ihr h.2.2]
    have : tmSigns [41] = 0 := rfl
    omega
theorem tmSize_pos (t : Tm) : 0 < tmSize t := by cases t <;> simp [tmSize]
theorem tidy_size : ∀ (t : Tm), tmSize (tidy t) ≤ tmSize t := by
  intro t
  induction t with
  | sign c => exact Nat.le_refl _
  | star t ih =>
    show tmSize (tidyStar (tidy t)) ≤ tmSize t + 1
    have h : tmSize (tidyStar (tidy t)) ≤ tmSize (tidy t) + 1 := by
      cases tidy t with
      | sign c => rw [tidyStar_sign]; split <;> simp [tmSize]
      | star u => simp [tidyStar]
      | times d u => simp [tidyStar, tmSize]
      | pair l s r => simp [tidyStar, tmSize]
    omega
  | times d t ih =>
    show tmSize (tidyTimes d (tidy t)) ≤ tmSize t + 1
    unfold tidyTimes
    split
    · omega
    · show tmSize (tidy t) + 1 ≤ _; omega
  | pair l s r ihl ihr =>
    show tmSize (tidyPair (tidy l) s (tidy r)) ≤ tmSize l + tmSize r + 1
    unfold tidyPair
    split
    · show 1 ≤ _; omega
    · split
      · omega
      · split
        · omega
        · split
          · omega
          · show tmSize (tidy l) + tmSize (tidy r) + 1 ≤ _; omega

/-- The text of the set that one sign tells. -/
def signT (c : UInt8) : ByteArray := if c = 49 then ⟨#[49, 40, 48, 41]⟩ else if c = 97 then ⟨#[48, 49, 40, 48, 41]⟩ else ⟨#[40, 48, 41]⟩
/-- What a sign between two texts makes. -/
def MidIs (s : UInt8) (U V T : ByteArray) (b : Bool) : Prop :=
  if s = 46 then MakeIs (smallS U && smallS V) (sumG false (fS U) (fS V)) T b
  else if s = 43 then MakeIs (okS U && okS V) (fun n => fS U n || fS V n) T b
  else MakeIs (okS U && okS V) (fun n => fS U n && fS V n) T b
/-- The set text that is made of a term. -/
def TermText : Tm → ByteArray → Bool → Prop
  | .sign c, T, b => T = signT c ∧ b = true
  | .star t, T, b => ∃ U c, TermText t U c ∧ MakeIs (smallS U) (starB (fS U)) T b
  | .times d t, T, b => ∃ U c, TermText t U c ∧ TimesIs U ((d.toNat : Int) - 48) T b
  | .pair l s r, T, b => ∃ U c, TermText l U c ∧ ((c = false ∧ T = ⟨#[]⟩ ∧ b = false) ∨ (c = true ∧ ∃ V d, TermText r V d ∧ MidIs s U V T b))
theorem midIs_unique {s : UInt8} {U V T T2 : ByteArray} {b b2 : Bool} (h : MidIs s U V T b) (k : MidIs s U V T2 b2) : T = T2 ∧ b = b2 := by
  unfold MidIs at h k
  split at h
  · rename_i e; rw [if_pos e] at k; exact makeIs_unique h k
  · rename_i e
    rw [if_neg e] at k
    split at h
    · rename_i e; rw [if_pos e] at k; exact makeIs_unique h k
    · rename_i e; rw [if_neg e] at k; exact makeIs_unique h k
theorem termText_unique : ∀ {t : Tm} {T T2 : ByteArray} {b b2 : Bool}, TermText t T b → TermText t T2 b2 → T = T2 ∧ b = b2 := by
  intro t
  induction t with
  | sign c => rintro T T2 b b2 ⟨rfl, rfl⟩ ⟨rfl, rfl⟩; exact ⟨rfl, rfl⟩
  | star t ih =>
    rintro T T2 b b2 ⟨U, c, h1, h2⟩ ⟨V, d, k1, k2⟩
    obtain ⟨rfl, _⟩ := ih h1 k1
    exact makeIs_unique h2 k2
  | times d t ih =>
    rintro T T2 b b2 ⟨U, c, h1, h2⟩ ⟨V, d, k1, k2⟩
    obtain ⟨rfl, _⟩ := ih h1 k1
    exact times_unique h2 k2
  | pair l s r ihl ihr =>
    rintro T T2 b b2 ⟨U, c, h1, h3⟩ ⟨U', c', k1, k3⟩
    obtain ⟨rfl, rfl⟩ := ihl h1 k1
    rcases h3 with ⟨rfl, rfl, rfl⟩ | ⟨rfl, V, d, h2, h3⟩
    · rcases k3 with ⟨_, rfl, rfl⟩ | ⟨x, _⟩
      · exact ⟨rfl, rfl⟩
      · cases x
    · rcases k3 with ⟨x, _⟩ | ⟨_, V', d', k2, k3⟩
      · cases x
      · obtain ⟨rfl, _⟩ := ihr h2 k2
        exact midIs_unique h3 k3
theorem makeIs_false {ok : Bool} {f : Nat → Bool} {T : ByteArray} (h : MakeIs ok f T false) : T = ⟨#[]⟩ := by
  cases ok
  · exact (h.2 rfl).1
  · rcases h.1 rfl with ⟨h2, _⟩ | ⟨_, h2, _⟩
    · cases h2
    · exact h2
theorem midIs_false {s : UInt8} {U V T : ByteArray} (h : MidIs s U V T false) : T = ⟨#[]⟩ := by
  unfold MidIs at h
  split at h
  · exact makeIs_false h
  · split at h <;> exact makeIs_false h
theorem timesIs_false {s T : ByteArray} {k : Int} (h : TimesIs s k T false) : T = ⟨#[]⟩ := by
  cases e : (smallS s && inR k 0 6)
  · exact (h.2 e).2
  · rcases h.1 e with ⟨h2, _⟩ | ⟨_, h2, _⟩
    · cases h2
    · exact h2
theorem termText_false {t : Tm} {T : ByteArray} (h : TermText t T false) : T = ⟨#[]⟩ := by
  cases t with
  | sign c => cases h.2
  | star t => obtain ⟨U, c, _, h⟩ := h; exact makeIs_false h
  | times d t => obtain ⟨U, c, _, h⟩ := h; exact timesIs_false h
  | pair l s r =>
    obtain ⟨U, c, _, h⟩ := h
    rcases h with ⟨_, h, _⟩ | ⟨_, V, d, _, h⟩
    · exact h
    · exact midIs_false h
theorem ok_none : okS ⟨#[]⟩ = false := by decide
theorem small_none : smallS ⟨#[]⟩ = false := smallS_off ok_none
theorem midIs_left {s : UInt8} {V : ByteArray} : MidIs s ⟨#[]⟩ V ⟨#[]⟩ false := by
  unfold MidIs
  split
  · exact makeIs_off (by rw [small_none]; rfl)
  · split <;> exact makeIs_off (by rw [ok_none]; rfl)
theorem midIs_right {s : UInt8} {V : ByteArray} : MidIs s V ⟨#[]⟩ ⟨#[]⟩ false := by
  unfold MidIs
  split
  · exact makeIs_off (by rw [small_none, Bool.and_false])
  · split <;> exact makeIs_off (by rw [ok_none, Bool.and_false])

theorem tidy_aOnly : Tidy (oneF 97) 2 1 := by
  refine ⟨by decide, fun n hn => ?_, fun d hd => hd.1, .inr ?_⟩
  · show decide (n + 1 = 1) = decide (n = 1)
    rw [decide_eq_false (by omega), decide_eq_false (by omega)]
  · decide
theorem tidy_noneF : Tidy (oneF 48) 0 1 := ⟨by decide, fun n hn => rfl, fun d hd => hd.1, .inl rfl⟩
theorem signT_tells {c : UInt8} (h : isOne c = true) : TidyText (oneF c) (signT c) := by
  rcases one_cases h with rfl | rfl | rfl
  · exact ⟨0, 1, tidy_noneF, by decide, by decide, by decide⟩
  · rw [oneF_one]; exact tidyText_zeroOnly
  · exact ⟨2, 1, tidy_aOnly, by decide, by decide, by decide⟩
theorem chain_told {s : ByteArray} : ∀ {k : Nat} {T : ByteArray}, ChainIs s (k + 1) T → TidyText (sumK (fS s) k) T := by
  intro k
  induction k with
  | zero =>
    rintro T ⟨U, hU, h⟩
    rw [show U = _ from hU] at h
    have h2 := (makeIs_told h).2
    rw [tidyText_zeroOnly.told.set, sum_zero_left] at h2
    exact h2
  | succ k ih =>
    rintro T ⟨U, hU, h⟩
    have h2 := (makeIs_told h).2
    rw [(ih hU).told.set] at h2
    exact h2
theorem timesIs_told {s T : ByteArray} {d : UInt8} (hd : isDig d = true) (h : TimesIs s ((d.toNat : Int) - 48) T true) : smallS s = true ∧ TidyText (sumK (fS s) (d.toNat - 49)) T := by
  cases e : (smallS s && inR ((d.toNat : Int) - 48) 0 6)
  · cases (h.2 e).1
  · rcases h.1 e with ⟨_, h2⟩ | ⟨h2, _⟩
    · rw [Bool.and_eq_true] at e
      have e2 : ((d.toNat : Int) - 48).toNat = (d.toNat - 49) + 1 := by rcases dig_cases hd with rfl | rfl | rfl | rfl <;> rfl
      rw [e2] at h2
      exact ⟨e.1, chain_told h2⟩
    · cases h2
theorem midIs_told {s : UInt8} {U V T : ByteArray} (h : MidIs s U V T true) : okS U = true ∧ okS V = true ∧ TidyText (midF s (fS U) (fS V)) T := by
  unfold MidIs at h
  unfold midF
  split at h
  · rename_i e
    rw [if_pos e]
    have h2 := makeIs_told h
    rw [Bool.and_eq_true] at h2
    exact ⟨(smallS_iff.1 h2.1.1).1, (smallS_iff.1 h2.1.2).1, h2.2⟩
  · rename_i e
    rw [if_neg e]
    split at h
    · rename_i e
      rw [if_pos e]
      have h2 := makeIs_told h
      rw [Bool.and_eq_true] at h2
      exact ⟨h2.1.1, h2.1.2, h2.2⟩
    · rename_i e
      rw [if_neg e]
      have h2 := makeIs_told h
      rw [Bool.and_eq_true] at h2
      exact ⟨h2.1.1, h2.1.2, h2.2⟩
theorem ok_made {t : Tm} {U : ByteArray} {c : Bool} (h : TermText t U c) (ho : okS U = true) : c = true := by
  cases c
  · rw [termText_false h, ok_none] at ho; cases ho
  · rfl
/-- The set text that is made of a term tells what the term tells. -/
theorem termText_told : ∀ {t : Tm} {T : ByteArray}, tmOk t = true → TermText t T true → TidyText (tmF t) T := by
  intro t
  induction t with
  | sign c => rintro T ho ⟨rfl, _⟩; exact signT_tells ho
  | star t ih =>
    rintro T ho ⟨U, c, h1, h2⟩
    have h3 := makeIs_told h2
    obtain rfl := ok_made h1 (smallS_iff.1 h3.1).1
    rw [(ih ho h1).told.set] at h3
    exact h3.2
  | times d t ih =>
    rintro T ho ⟨U, c, h1, h2⟩
    rw [tmOk, Bool.and_eq_true] at ho
    have h3 := timesIs_told ho.1 h2
    obtain rfl := ok_made h1 (smallS_iff.1 h3.1).1
    rw [(ih ho.2 h1).told.set] at h3
    exact h3.2
  | pair l s r ihl ihr =>
    rintro T ho ⟨U, c, h1, h3⟩
    rw [tmOk, Bool.and_eq_true, Bool.and_eq_true] at ho
    obtain ⟨rfl, V, d, h2, h3⟩ : c = true ∧ ∃ V d, TermText r V d ∧ MidIs s U V T true := by
      rcases h3 with ⟨_, _, x⟩ | h3
      · cases x
      · exact h3
    have h4 := midIs_told h3
    obtain rfl := ok_made h2 h4.2.1
    rw [(ihl ho.1 h1).told.set, (ihr ho.2.2 h2).told.set] at h4
    exact h4.2.2
/-- What is made of two parts, whether or not the first one fails. -/
theorem termText_pair {l r : Tm} {s : UInt8} {U V T : ByteArray} {c d b : Bool} (h1 : TermText l U c) (h2 : TermText r V d) (h3 : MidIs s U V T b) : TermText (.pair l s r) T b := by
  cases c
  · have e := termText_false h1
    subst e
    obtain ⟨rfl, rfl⟩ := midIs_unique h3 midIs_left
    exact ⟨_, _, h1, .inl ⟨rfl, rfl, rfl⟩⟩
  · exact ⟨_, _, h1, .inr ⟨rfl, V, d, h2, h3⟩⟩
/-- Each term has an answer. -/
theorem termText_size {t : Tm} {T : ByteArray} {b : Bool} (ho : tmOk t = true) (h : TermText t T b) : T.size ≤ 1048576 := by
  cases b
  · rw [termText_false h]; decide
  · have h3 := (termText_told ho h).told.ok
    have h4 := setT_le h3
    have h5 := setR_le h3
    rw [set_size h3]; omega

/-- What is answered where the set text of a term is made. -/
def TermEnd (t : Tm) (e : Ending) : Prop := ∃ T b, e = .returned (.tuple #[.string T, .bool b]) ∧ TermText t T b
theorem times_none {k : Int} : TimesIs ⟨#[]⟩ k ⟨#[]⟩ false := ⟨(fun x => by rw [small_none] at x; cases x), fun _ => ⟨rfl, rfl⟩⟩
theorem star_none' {f : Nat → Bool} : MakeIs (smallS ⟨#[]⟩) f ⟨#[]⟩ false := makeIs_off small_none
/-- What TermSet answers. -/
def TextOf (s T : ByteArray) (b : Bool) : Prop := match termOf s.data.toList with | some t => TermText t T b | none => T = ⟨#[]⟩ ∧ b = false
theorem textOf_none {s : ByteArray} (h : termOf s.data.toList = none) : TextOf s ⟨#[]⟩ false := by unfold TextOf; rw [h]; exact ⟨rfl, rfl⟩
theorem textOf_some {s T : ByteArray} {b : Bool} {t : Tm} (h : termOf s.data.toList = some t) : TextOf s T b ↔ TermText t T b := by unfold TextOf; rw [h]
theorem textOf_unique {s T U : ByteArray} {b c : Bool} (h : TextOf s T b) (k : TextOf s U c) : T = U ∧ b = c := by
  unfold TextOf at h k
  split at h
  · rename_i t ht
    rw [ht] at k
    exact termText_unique h k
  · rename_i ht
    rw [ht] at k
    obtain ⟨rfl, rfl⟩ := h
    obtain ⟨rfl, rfl⟩ := k
    exact ⟨rfl, rfl⟩

end Go.Proofs.Ytiphooodijbhiaa
