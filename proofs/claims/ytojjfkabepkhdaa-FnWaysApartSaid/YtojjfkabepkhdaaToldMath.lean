/-
  A tidy text is a set text, and tells what it is made of; each set text has a tidy one: plain facts.
-/
import Derived.Test.YtojjfkabepkhdaaTidyText
import Derived.Test.YtojjfkabepkhdaaSetDef
namespace Go.Proofs.Ytojjfkabepkhdaa
open Go.RowKit

theorem signOf_sign (b : Bool) : isSign (signOf b) = true := by cases b <;> rfl
theorem sb_signsOf (bs : List Bool) : sb (signsOf bs) = bs := by
  unfold sb signsOf
  rw [List.map_map]
  have : ((fun c : UInt8 => c == 49) ∘ signOf) = id := by funext b; cases b <;> rfl
  rw [this, List.map_id]
theorem partB_signsOf (bs : List Bool) (h : bs.length ≤ 60) : partB (signsOf bs) = true := by
  unfold partB
  rw [Bool.and_eq_true]
  refine ⟨by rw [signsOf_length]; exact decide_eq_true h, ?_⟩
  unfold allSigns signsOf
  rw [List.all_map, List.all_eq_true]
  intro b _
  exact signOf_sign b
theorem textOf_isText (t r : List Bool) (ht : t.length ≤ 60) (hr : r.length ≤ 60) (h0 : 0 < r.length) : IsText (textOf t r) (signsOf t) (signsOf r) :=
  ⟨rfl, partB_signsOf t ht, partB_signsOf r hr, by
    intro e
    have h2 := signsOf_length r
    rw [e] at h2
    rw [← h2] at h0
    exact absurd h0 (by decide)⟩

theorem fS_part {f : Nat → Bool} {m q : Nat} (h : Tidy f m q) : hasB (part f 0 m) (part f m q) = f := by
  funext n
  rcases Nat.lt_or_ge n m with k | k
  · rw [hasB_tail _ _ _ (by rw [part_length]; exact k), part_getD _ _ _ _ k, Nat.zero_add]
  · obtain ⟨j, rfl⟩ : ∃ j, n = m + j := ⟨n - m, by omega⟩
    have e := hasB_ring (part f 0 m) (part f m q) j
    rw [part_length, part_length] at e
    rw [e, part_getD _ _ _ _ (Nat.mod_lt _ h.pos)]
    have h2 := per_rounds h.per (j / q) (m + j % q) (by omega)
    rw [← h2]
    congr 1
    have : j % q + j / q * q = j := by rw [Nat.mul_comm]; exact Nat.mod_add_div j q
    omega

/-- What is known of a tidy text. -/
structure Told (f : Nat → Bool) (T : ByteArray) : Prop where
  ok : okS T = true
  set : fS T = f
  size : ∃ m q, Tidy f m q ∧ T.size = m + q + 2
theorem TidyText.told {f : Nat → Bool} {T : ByteArray} (h : TidyText f T) : Told f T := by
  obtain ⟨m, q, ht, hm, hq, rfl⟩ := h
  have hT := textOf_isText (part f 0 m) (part f m q) (by rw [part_length]; exact hm) (by rw [part_length]; exact hq) (by rw [part_length]; exact ht.pos)
  refine ⟨text_ok hT, ?_, m, q, ht, ?_⟩
  · funext n
    unfold fS setT setR
    have e1 : setTail (textOf (part f 0 m) (part f m q)) = signsOf (part f 0 m) := text_tail hT
    have e2 : setRing (textOf (part f 0 m) (part f m q)) = signsOf (part f m q) := text_ring hT
    show hasB (sb (setTail (textOf (part f 0 m) (part f m q)))) (sb (setRing (textOf (part f 0 m) (part f m q)))) n = f n
    rw [e1, e2, sb_signsOf, sb_signsOf, fS_part ht]
  · show (textOf (part f 0 m) (part f m q)).length = _
    rw [text_length hT, signsOf_length, signsOf_length, part_length, part_length]
theorem tidyText_same {f : Nat → Bool} {T U : ByteArray} (h : TidyText f T) (k : TidyText f U) : T = U := by
  obtain ⟨m, q, ht, _, _, rfl⟩ := h
  obtain ⟨m', q', ht', _, _, rfl⟩ := k
  obtain ⟨rfl, rfl⟩ := tidy_unique ht ht'
  rfl
theorem set_size {s : ByteArray} (h : okS s = true) : s.size = (setT s).length + (setR s).length + 2 := by
  have := text_length (ok_text h)
  unfold setT setR
  rw [sb_length, sb_length, ← this, size_eq]
/-- No set text is shorter than the tidy one. -/
theorem tidy_short {s : ByteArray} {m q : Nat} (hs : okS s = true) (h : Tidy (fS s) m q) : m ≤ (setT s).length ∧ q ≤ (setR s).length := by
  have hper : ∀ n, (setT s).length ≤ n → fS s (n + (setR s).length) = fS s n := fun n hn => hasB_round _ _ n hn
  have hq : q ≤ (setR s).length := h.ring _ ⟨setR_pos hs, _, hper⟩
  refine ⟨?_, hq⟩
  obtain ⟨_, h2⟩ := least_divides (setR_pos hs) hper h.isPer h.ring
  rcases Nat.lt_or_ge (setT s).length m with k | k
  · rcases h.tail with e | e
    · omega
    · exact absurd (h2 (m - 1) (by omega)).symm e
  · exact k
theorem tidyText_short {s T : ByteArray} (hs : okS s = true) (h : TidyText (fS s) T) : T.size ≤ s.size := by
  obtain ⟨_, _, m, q, ht, hz⟩ := h.told
  have := tidy_short hs ht
  rw [hz, set_size hs]; omega
theorem tidy_there {s : ByteArray} (hs : okS s = true) : ∃ m q, Tidy (fS s) m q ∧ m ≤ 60 ∧ q ≤ 60 := by
  have hper : ∀ n, (setT s).length ≤ n → fS s (n + (setR s).length) = fS s n := fun n hn => hasB_round _ _ n hn
  obtain ⟨q, hq, hl⟩ := least_per _ (show Per (fS s) (setR s).length from ⟨setR_pos hs, _, hper⟩)
  obtain ⟨_, h2⟩ := least_divides (setR_pos hs) hper hq hl
  have key : ∀ k, (∀ n, k ≤ n → fS s (n + q) = fS s n) → ∃ m, m ≤ k ∧ Tidy (fS s) m q := by
    intro k
    induction k with
    | zero => intro h; exact ⟨0, Nat.le_refl _, hq.1, h, hl, .inl rfl⟩
    | succ k ih =>
      intro h
      by_cases hk : fS s k = fS s (k + q)
      · obtain ⟨m, hm, ht⟩ := ih (fun n hn => by
          rcases Nat.eq_or_lt_of_le hn with e | e
          · rw [← e]; exact hk.symm
          · exact h n e)
        exact ⟨m, by omega, ht⟩
      · exact ⟨k + 1, Nat.le_refl _, hq.1, h, hl, .inr hk⟩
  obtain ⟨m, hm, ht⟩ := key _ h2
  have h60 := setT_le hs
  have r60 := setR_le hs
  have := tidy_short hs ht
  exact ⟨m, q, ht, by omega, by omega⟩

theorem below_step {w w1 w2 : World} (h : Below w.heap.size w w1) (k : Below w1.heap.size w1 w2) : Below w.heap.size w w2 := h.trans (k.mono h.size)
end Go.Proofs.Ytojjfkabepkhdaa
