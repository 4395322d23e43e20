/-
  Lists of lists of integers that the call itself has made: each row lies in a block of its own, later rows behind earlier ones.
-/
import Derived.Test.YtdcedkjoligekaaLawRows
namespace Go.Proofs.Ytdcedkjoligekaa
open Go.RowKit
set_option linter.unusedVariables false

/-- Row i lies in block G i. -/
def RowsIn (w : World) (B : Nat) (G : Nat → Nat) (xs : List Value) (rs : List (List Int)) : Prop :=
  ∀ i, i < rs.length → xs[i]? = some (.slice (some ⟨G i, 0, none⟩) (rs.getD i []).length (rs.getD i []).length) ∧
    w.ownsRow B 3 1 (.slice (some ⟨G i, 0, none⟩) (rs.getD i []).length (rs.getD i []).length) (rs.getD i []).length (ints (rs.getD i [])) ∧ ∀ j, j < i → G j < G i

def OwnRows (w : World) (B : Nat) (v : Value) (rs : List (List Int)) : Prop :=
  ∃ xs G, w.ownsRow B 40 1 v rs.length xs ∧ RowsIn w B G xs rs

theorem rowsIn_below {w w' : World} {B : Nat} {G : Nat → Nat} {xs : List Value} {rs : List (List Int)} (h : RowsIn w B G xs rs) (hb : Below w.heap.size w w') : RowsIn w' B G xs rs :=
  fun i hi => ⟨(h i hi).1, own_below (h i hi).2.1 hb (Nat.le_refl _), (h i hi).2.2⟩
theorem OwnRows.below {w w' : World} {B : Nat} {v : Value} {rs : List (List Int)} (h : OwnRows w B v rs) (hb : Below w.heap.size w w') : OwnRows w' B v rs := by
  obtain ⟨xs, G, h1, h2⟩ := h
  exact ⟨xs, G, own_below h1 hb (Nat.le_refl _), rowsIn_below h2 hb⟩
theorem OwnRows.alloc {w : World} {B : Nat} {v : Value} {rs : List (List Int)} (h : OwnRows w B v rs) (o : Obj) : OwnRows (w.alloc o) B v rs := h.below ((Below.refl _ _).alloc (Nat.le_refl _) o)
theorem ownRows_start (w : World) {B : Nat} (hB : B ≤ w.heap.size) : OwnRows (w.alloc (.cells #[] 40)) B (.slice (some ⟨w.heap.size, 0, none⟩) 0 0) [] :=
  ⟨[], fun _ => 0, own_base (World.ownsRow_made (base := w.heap.size) (e := 40) (size := 1) w #[] 0 (Nat.le_refl _) (by decide) rfl) hB, fun i hi => absurd hi (Nat.not_lt_zero _)⟩

theorem rowsIn_lt {w : World} {B : Nat} {G : Nat → Nat} {xs : List Value} {rs : List (List Int)} (h : RowsIn w B G xs rs) {i : Nat} (hi : i < rs.length) : B ≤ G i ∧ G i < w.heap.size := (h i hi).2.1.lt _ rfl

/-- A row of integers and a row of slices lie in blocks apart. -/
theorem blocks_apart {w : World} {B1 B2 g n m c : Nat} {v : Value} {xs ys : List Value} (h1 : w.ownsRow B1 3 1 (.slice (some ⟨g, 0, none⟩) n c) n xs) (h2 : w.ownsRow B2 40 1 v m ys) : v.ownBlock ≠ some g := by
  intro e
  rcases h1.2 with ⟨hv, _⟩ | ⟨g1, c1, cur1, hv1, _, hh1, _⟩
  · cases hv
  · rcases h2.2 with ⟨hv, _⟩ | ⟨g2, c2, cur2, hv2, _, hh2, _⟩
    · subst hv; cases e
    · subst hv2
      injection hv1 with ha _ _
      injection ha with ha
      injection ha with ha _ _
      injection e with e
      have e : g2 = g := e
      subst e
      rw [← ha] at hh1
      rw [hh1] at hh2
      injection hh2 with hh2
      injection hh2 with _ ht _
      exact absurd ht (by decide)

theorem getD_snoc_lt {rs : List (List Int)} {z : List Int} {i : Nat} (h : i < rs.length) : (rs ++ [z]).getD i [] = rs.getD i [] := by
  rw [List.getD_eq_getElem?_getD, List.getElem?_append_left h, List.getD_eq_getElem?_getD]
theorem getD_snoc_eq {rs : List (List Int)} {z : List Int} : (rs ++ [z]).getD rs.length [] = z := by
  rw [List.getD_eq_getElem?_getD, List.getElem?_append_right (Nat.le_refl _)]; simp

/-- One row more, behind an append. -/
theorem ownRows_snoc {W w5 : World} {B g : Nat} {u v' : Value} {rs : List (List Int)} {z : List Int} {xs : List Value} {G : Nat → Nat}
    (hown : W.ownsRow B 40 1 u rs.length xs) (hrows : RowsIn W B G xs rs) (hz : W.ownsRow B 3 1 (.slice (some ⟨g, 0, none⟩) z.length z.length) z.length (ints z)) (hg : ∀ i, i < rs.length → G i < g)
    (hown5 : w5.ownsRow B 40 1 v' (rs.length + 1) (xs ++ [.slice (some ⟨g, 0, none⟩) z.length z.length])) (hgrow : W.grownBy w5 u.ownBlock) : OwnRows w5 B v' (rs ++ [z]) := by
  have hxl : xs.length = rs.length := by have := hown.1; omega
  refine ⟨_, fun i => if i < rs.length then G i else g, by rw [List.length_append]; exact hown5, fun i hi => ?_⟩
  rw [List.length_append] at hi
  have hi : i < rs.length + 1 := hi
  rcases Nat.lt_or_ge i rs.length with k | k
  · obtain ⟨h1, h2, h3⟩ := hrows i k
    simp only [if_pos k]
    rw [getD_snoc_lt k]
    refine ⟨by rw [List.getElem?_append_left (by omega)]; exact h1, h2.kept hgrow (.inr (fun e => blocks_apart h2 hown e.symm)), fun j hj => ?_⟩
    rw [if_pos (by omega)]
    exact h3 j hj
  · obtain rfl : i = rs.length := by omega
    simp only [if_neg (Nat.lt_irrefl _)]
    rw [getD_snoc_eq]
    refine ⟨by rw [List.getElem?_append_right (by omega), hxl]; simp, hz.kept hgrow (.inr (fun e => blocks_apart hz hown e.symm)), fun j hj => ?_⟩
    rw [if_pos hj]
    exact hg j hj

theorem OwnRows.reads {w : World} {B n c : Nat} {a : Option Addr} {rs : List (List Int)} (h : OwnRows w B (.slice a n c) rs) : n = rs.length ∧ ReadsR w a n rs := by
  obtain ⟨xs, G, hown, hrows⟩ := h
  rcases hown.2 with ⟨hv, h0⟩ | ⟨g, cap, cur, hv, _⟩
  · injection hv with ha hn hc
    subst hn
    exact ⟨h0.symm, h0, .inl rfl⟩
  · injection hv with ha hn hc
    subst ha hn hc
    refine ⟨rfl, rfl, .inr ⟨g, 0, rfl, (hown.lt _ rfl).2, fun i hi => ?_⟩⟩
    obtain ⟨h1, h2, _⟩ := hrows i hi
    have hc := hown.cellAt i (by omega)
    rw [h1] at hc
    exact ⟨_, _, by rw [Nat.zero_add]; exact hc, readsI_own h2⟩
end Go.Proofs.Ytdcedkjoligekaa
