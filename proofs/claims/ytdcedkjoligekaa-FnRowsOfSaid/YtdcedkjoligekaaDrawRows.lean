/-
  Lists of lists of integers that the call itself has made: each row lies in a block of its own, later rows behind earlier ones. The walks of the drawing of rows: l91Row, l91Rows.
-/
import Derived.Test.YtdcedkjoligekaaLawRows
import Derived.Test.YtdcedkjoligekaaDrawOpen
import Derived.Test.YtdcedkjoligekaaRowMath
namespace Go.Proofs.Ytdcedkjoligekaa
open Go.RowKit

set_option linter.unusedVariables false

/-- Row i lies in block G i. -/
def RowsIn (w : World) (B : Nat) (G : Nat → Nat) (xs : List Value) (rs : List (List Int)) : Prop :=
  ∀ i, i < rs.length → xs[i]? = some (.slice (some ⟨G i, 0, none⟩) (rs.getD i []).length (rs.getD i []).length) ∧
    w.ownsRow B 3 1 (.slice (some ⟨G i, 0, none⟩) (rs.getD i []).length (rs.getD i []).length) (rs.getD i []).length (ints (rs.getD i [])) ∧ ∀ j, j < i → G j < G i

def OwnRows (w : World) (B : Nat) (v : Value) (rs : List (List Int)) : Prop :=
  ∃ xs G, w.ownsRow B 40 1 v rs.length xs ∧ RowsIn w B G xs rs

theorem rowsIn_below {w w' : World} {B : Nat} {G : Nat → Nat} {xs : List Value} {rs : List (List Int)} (h : RowsIn w B G xs rs) (hb : Below w.heap.size w w') : RowsIn w' B G xs rs :=
  fun i hi => ⟨(h i hi).1, own_below (h i hi).2.1 hb (Nat.le_refl _), (h i hi).2.2⟩
theorem OwnRows.below {w w' : World} {B : Nat} {v : Value} {rs : List (List Int)} (h : OwnRows w B v rs) (hb : Below w.heap.size w w') : OwnRows w' B v rs := by
  obtain ⟨xs, G, h1, h2⟩ := h
  exact ⟨xs, G, own_below h1 hb (Nat.le_refl _), rowsIn_below h2 hb⟩
theorem OwnRows.alloc {w : World} {B : Nat} {v : Value} {rs : List (List Int)} (h : OwnRows w B v rs) (o : Obj) : OwnRows (w.alloc o) B v rs := h.below ((Below.refl _ _).alloc (Nat.le_refl _) o)
theorem ownRows_start (w : World) {B : Nat} (hB : B ≤ w.heap.size) : OwnRows (w.alloc (.cells #[] 40)) B (.slice (some ⟨w.heap.size, 0, none⟩) 0 0) [] :=
  ⟨[], fun _ => 0, own_base (World.ownsRow_made (base := w.heap.size) (e := 40) (size := 1) w #[] 0 (Nat.le_refl _) (by decide) rfl) hB, fun i hi => absurd hi (Nat.not_lt_zero _)⟩

theorem rowsIn_lt {w : World} {B : Nat} {G : Nat → Nat} {xs : List Value} {rs : List (List Int)} (h : RowsIn w B G xs rs) {i : Nat} (hi : i < rs.length) : B ≤ G i ∧ G i < w.heap.size := (h i hi).2.1.lt _ rfl

/-- A row of integers and a row of slices lie in blocks apart. -/
theorem blocks_apart {w : World} {B1 B2 g n m c : Nat} {v : Value} {xs ys : List Value} (h1 : w.ownsRow B1 3 1 (.slice (some ⟨g, 0, none⟩) n c) n xs) (h2 : w.ownsRow B2 40 1 v m ys) : v.ownBlock ≠ some g := by
  intro e
  rcases h1.2 with ⟨hv, _⟩ | ⟨g1, c1, cur1, hv1, _, hh1, _⟩
  · cases hv
  · rcases h2.2 with ⟨hv, _⟩ | ⟨g2, c2, cur2, hv2, _, hh2, _⟩
    · subst hv; cases e
    · subst hv2
      injection hv1 with ha _ _
      injection ha with ha
      injection ha with ha _ _
      injection e with e
      have e : g2 = g := e
      subst e
      rw [← ha] at hh1
      rw [hh1] at hh2
      injection hh2 with hh2
      injection hh2 with _ ht _
      exact absurd ht (by decide)

theorem getD_snoc_lt {rs : List (List Int)} {z : List Int} {i : Nat} (h : i < rs.length) : (rs ++ [z]).getD i [] = rs.getD i [] := by
  rw [List.getD_eq_getElem?_getD, List.getElem?_append_left h, List.getD_eq_getElem?_getD]
theorem getD_snoc_eq {rs : List (List Int)} {z : List Int} : (rs ++ [z]).getD rs.length [] = z := by
  rw [List.getD_eq_getElem?_getD, List.getElem?_append_right (Nat.le_refl _)]; simp

/-- One row more, behind an append. -/
theorem ownRows_snoc {W w5 : World} {B g : Nat} {u v' : Value} {rs : List (List Int)} {z : List Int} {xs : List Value} {G : Nat → Nat}
    (hown : W.ownsRow B 40 1 u rs.length xs) (hrows : RowsIn W B G xs rs) (hz : W.ownsRow B 3 1 (.slice (some ⟨g, 0, none⟩) z.length z.length) z.length (ints z)) (hg : ∀ i, i < rs.length → G i < g)
    (hown5 : w5.ownsRow B 40 1 v' (rs.length + 1) (xs ++ [.slice (some ⟨g, 0, none⟩) z.length z.length])) (hgrow : W.grownBy w5 u.ownBlock) : OwnRows w5 B v' (rs ++ [z]) := by
  have hxl : xs.length = rs.length := by have := hown.1; omega
  refine ⟨_, fun i => if i < rs.length then G i else g, by rw [List.length_append]; exact hown5, fun i hi => ?_⟩
  rw [List.length_append] at hi
  have hi : i < rs.length + 1 := hi
  rcases Nat.lt_or_ge i rs.length with k | k
  · obtain ⟨h1, h2, h3⟩ := hrows i k
    simp only [if_pos k]
    rw [getD_snoc_lt k]
    refine ⟨by rw [List.getElem?_append_left (by omega)]; exact h1, h2.kept hgrow (.inr (fun e => blocks_apart h2 hown e.symm)), fun j hj => ?_⟩
    rw [if_pos (by omega)]
    exact h3 j hj
  · obtain rfl : i = rs.length := by omega
    simp only [if_neg (Nat.lt_irrefl _)]
    rw [getD_snoc_eq]
    refine ⟨by rw [List.getElem?_append_right (by omega), hxl]; simp, hz.kept hgrow (.inr (fun e => blocks_apart hz hown e.symm)), fun j hj => ?_⟩
    rw [if_pos hj]
    exact hg j hj

theorem OwnRows.reads {w : World} {B n c : Nat} {a : Option Addr} {rs : List (List Int)} (h : OwnRows w B (.slice a n c) rs) : n = rs.length ∧ ReadsR w a n rs := by
  obtain ⟨xs, G, hown, hrows⟩ := h
  rcases hown.2 with ⟨hv, h0⟩ | ⟨g, cap, cur, hv, _⟩
  · injection hv with ha hn hc
    subst hn
    exact ⟨h0.symm, h0, .inl rfl⟩
  · injection hv with ha hn hc
    subst ha hn hc
    refine ⟨rfl, rfl, .inr ⟨g, 0, rfl, (hown.lt _ rfl).2, fun i hi => ?_⟩⟩
    obtain ⟨h1, h2, _⟩ := hrows i hi
    have hc := hown.cellAt i (by omega)
    rw [h1] at hc
    exact ⟨_, _, by rw [Nat.zero_add]; exact hc, readsI_own h2⟩

set_option linter.unusedVariables false

theorem rowsIn_apart {R : Nat} {w w' : World} {B : Nat} {G : Nat → Nat} {xs : List Value} {rs : List (List Int)} (h : RowsIn w B G xs rs) (hb : Apart R w w') (hR : R < B) : RowsIn w' B G xs rs :=
  fun i hi => ⟨(h i hi).1, own_apart (h i hi).2.1 hb hR, (h i hi).2.2⟩
theorem OwnRows.apart {R : Nat} {w w' : World} {B : Nat} {v : Value} {rs : List (List Int)} (h : OwnRows w B v rs) (hb : Apart R w w') (hR : R < B) : OwnRows w' B v rs := by
  obtain ⟨xs, G, h1, h2⟩ := h
  exact ⟨xs, G, own_apart h1 hb hR, rowsIn_apart h2 hb hR⟩

/-- A row as it is drawn: short; its step, if it is one, divides 60. -/
def SmallRow (z : List Int) : Prop := z.length ≤ 3 ∧ (goodRow z = true → 0 < (theRow z).s → (theRow z).s ∣ 60)
def Small (rs : List (List Int)) : Prop := ∀ z ∈ rs, SmallRow z
theorem small_nil : Small [] := fun z hz => by cases hz
theorem small_snoc {rs : List (List Int)} {z : List Int} (h : Small rs) (hz : SmallRow z) : Small (rs ++ [z]) := by
  intro x hx
  rcases List.mem_append.1 hx with k | k
  · exact h x k
  · rw [List.mem_singleton.1 k]; exact hz
theorem small_two (b s : Nat) (h : 0 < s → s ∣ 60) : SmallRow [(b : Int), (s : Int)] := by
  refine ⟨by simp, fun _ h0 => ?_⟩
  have e : (theRow [(b : Int), (s : Int)]).s = s := by show ((s : Int)).toNat = s; omega
  rw [e] at h0 ⊢
  exact h h0
theorem own_pairAt (w : World) (x y : Int) : (w.alloc (.cells #[.int .i64 x, .int .i64 y] 3)).ownsRow w.heap.size 3 1 (.slice (some ⟨w.heap.size, 0, none⟩) 2 2) 2 (ints [x, y]) := by
  refine ⟨rfl, .inr ⟨w.heap.size, 2, #[.int .i64 x, .int .i64 y], rfl, Nat.le_refl _, ?_, Nat.le_refl _, by decide, rfl, rfl⟩⟩
  exact heap_alloc_new w (.cells #[.int .i64 x, .int .i64 y] 3)

set_option maxRecDepth 100000 in
set_option maxHeartbeats 2000000 in
theorem drawRow {R : Nat} {a : Option Addr} {n c p : Nat} {w : World} (h : Rd R a n c p w) (hp : p ≤ 1000) :
    Calls Try.prog 76 #[.pointer (some ⟨R, 0, none⟩)] w fun e w' =>
      ∃ b s g : Nat, e = .returned (.slice (some ⟨g, 0, none⟩) 2 2) ∧ b ≤ 8 ∧ s ≤ 12 ∧ (0 < s → s ∣ 60) ∧ Rd R a n c (p + 2) w' ∧ Apart R w w' ∧ w.heap.size ≤ g ∧ w'.ownsRow w.heap.size 3 1 (.slice (some ⟨g, 0, none⟩) 2 2) 2 (ints [(b : Int), (s : Int)]) := by
  have H := Lib.hid h
  have hRw := h.lt
  clear h
  go_enter Try.func76, Try.ntmps76
  go_wp2_with fail
  refine (pick_rd H.out 9 (by omega) (by omega) (by omega)).mono ?_
  rintro e w2 ⟨v, rfl, hv, hrd2, hap2, hsz2⟩
  have hR2 := hrd2.lt
  have HA2 := Lib.hid hap2
  have HSZ := Lib.hid hsz2
  have HR2 := Lib.hid hrd2
  clear hrd2 hap2 hsz2
  go_wp2_with fail
  refine (pick_rd (HR2.out.below ((Below.refl _ _).alloc (Nat.le_refl _) _) hR2) 8 (by omega) (by omega) (by omega)).mono ?_
  rintro e w3 ⟨x, rfl, hx, hrd3, hap3, hsz3⟩
  have hcell := table_cell hap3 hR2 x
  obtain ⟨s, hs, hs12, hs60⟩ : ∃ s : Nat, w3.cell? ⟨w2.heap.size, x, none⟩ = some (.int .i64 s) ∧ s ≤ 12 ∧ (0 < s → s ∣ 60) := by
    have : x = 0 ∨ x = 1 ∨ x = 2 ∨ x = 3 ∨ x = 4 ∨ x = 5 ∨ x = 6 ∨ x = 7 := by omega
    rcases this with rfl | rfl | rfl | rfl | rfl | rfl | rfl | rfl
    · exact ⟨0, hcell, by decide, by decide⟩
    · exact ⟨1, hcell, by decide, by decide⟩
    · exact ⟨2, hcell, by decide, by decide⟩
    · exact ⟨3, hcell, by decide, by decide⟩
    · exact ⟨4, hcell, by decide, by decide⟩
    · exact ⟨6, hcell, by decide, by decide⟩
    · exact ⟨12, hcell, by decide, by decide⟩
    · exact ⟨5, hcell, by decide, by decide⟩
  have hx8 : (x : Int) < 8 := by omega
  have HA3 := Lib.hid (HA2.out.trans ((Apart.of_below (Nat.le_of_lt hR2) ((Below.refl _ _).alloc (Nat.le_refl _) _)).trans hap3))
  have HR3 := Lib.hid hrd3
  have hR3 := hrd3.lt
  have hle : w.heap.size ≤ w3.heap.size := HA3.out.below.size
  clear hcell hap3 hrd3 hsz3
  go_wp2
  go_ret
  exact ⟨v, s, _, rfl, by omega, hs12, hs60, HR3.out.below ((Below.refl _ _).alloc (Nat.le_refl _) _) hR3, HA3.out.trans (Apart.of_below (Nat.le_of_lt hR3) ((Below.refl _ _).alloc (Nat.le_refl _) _)), hle, own_base (own_pairAt _ _ _) hle⟩
theorem own_lits (w : World) (z : List Int) (hz : z.length ≤ maxLen) : (w.alloc (.cells (ints z).toArray 3)).ownsRow w.heap.size 3 1 (.slice (some ⟨w.heap.size, 0, none⟩) z.length z.length) z.length (ints z) := by
  refine ⟨by rw [ints_length]; omega, .inr ⟨w.heap.size, z.length, (ints z).toArray, rfl, Nat.le_refl _, heap_alloc_new w _, Nat.le_refl _, hz, by simp [ints_length], ?_⟩⟩
  rw [List.toList_toArray, List.take_of_length_le (by rw [ints_length]; omega)]
theorem own_lits2 (w : World) (z : List Int) (g B : Nat) (hg : g = w.heap.size) (hB : B ≤ w.heap.size) (hz : z.length ≤ maxLen) : (w.alloc (.cells (ints z).toArray 3)).ownsRow B 3 1 (.slice (some ⟨g, 0, none⟩) z.length z.length) z.length (ints z) := by
  subst hg; exact own_base (own_lits w z hz) hB
theorem own_up {w : World} {B n : Nat} {v : Value} {xs : List Value} (h : w.ownsRow B 3 1 v n xs) (o : Obj) : (w.alloc o).ownsRow B 3 1 v n xs := h.alloc o
theorem below8 (w : World) (o1 o2 o3 o4 o5 o6 o7 o8 : Obj) : Below w.heap.size w ((((((((w.alloc o1).alloc o2).alloc o3).alloc o4).alloc o5).alloc o6).alloc o7).alloc o8) := by
  refine ((((((((Below.refl w.heap.size w).alloc (Nat.le_refl _) _).alloc ?_ _).alloc ?_ _).alloc ?_ _).alloc ?_ _).alloc ?_ _).alloc ?_ _).alloc ?_ _ <;> simp <;> omega
/-- A row among the seven that are seldom drawn. -/
theorem seven {R B : Nat} {w w4 : World} {T : TypeId} (x : Nat) (hx : x < 7) (hR : R < w.heap.size) (hB : B ≤ w.heap.size)
    (hap : Apart R ((((((((w.alloc (.cells (ints [60, 1]).toArray 3)).alloc (.cells (ints [0, 61]).toArray 3)).alloc (.cells (ints [-1, 2]).toArray 3)).alloc (.cells (ints [1, -1]).toArray 3)).alloc (.cells (ints [1]).toArray 3)).alloc (.cells (ints [1, 2, 3]).toArray 3)).alloc (.cells (ints [59, 60]).toArray 3)).alloc
      (.cells #[.slice (some ⟨w.heap.size, 0, none⟩) 2 2, .slice (some ⟨w.heap.size + 1, 0, none⟩) 2 2, .slice (some ⟨w.heap.size + 1 + 1, 0, none⟩) 2 2, .slice (some ⟨w.heap.size + 1 + 1 + 1, 0, none⟩) 2 2, .slice (some ⟨w.heap.size + 1 + 1 + 1 + 1, 0, none⟩) 1 1, .slice (some ⟨w.heap.size + 1 + 1 + 1 + 1 + 1, 0, none⟩) 3 3, .slice (some ⟨w.heap.size + 1 + 1 + 1 + 1 + 1 + 1, 0, none⟩) 2 2] T)) w4) :
    ∃ g z, w4.cell? ⟨w.heap.size + 1 + 1 + 1 + 1 + 1 + 1 + 1, x, none⟩ = some (.slice (some ⟨g, 0, none⟩) z.length z.length) ∧ w4.ownsRow B 3 1 (.slice (some ⟨g, 0, none⟩) z.length z.length) z.length (ints z) ∧ SmallRow z ∧ w.heap.size ≤ g := by
  have hcell := table_cell hap (by simp; omega) x
  simp only [World.size_alloc] at hcell
  have key : ∀ (g : Nat) (z : List Int), ((((((((w.alloc (.cells (ints [60, 1]).toArray 3)).alloc (.cells (ints [0, 61]).toArray 3)).alloc (.cells (ints [-1, 2]).toArray 3)).alloc (.cells (ints [1, -1]).toArray 3)).alloc (.cells (ints [1]).toArray 3)).alloc (.cells (ints [1, 2, 3]).toArray 3)).alloc (.cells (ints [59, 60]).toArray 3)).alloc
      (.cells #[.slice (some ⟨w.heap.size, 0, none⟩) 2 2, .slice (some ⟨w.heap.size + 1, 0, none⟩) 2 2, .slice (some ⟨w.heap.size + 1 + 1, 0, none⟩) 2 2, .slice (some ⟨w.heap.size + 1 + 1 + 1, 0, none⟩) 2 2, .slice (some ⟨w.heap.size + 1 + 1 + 1 + 1, 0, none⟩) 1 1, .slice (some ⟨w.heap.size + 1 + 1 + 1 + 1 + 1, 0, none⟩) 3 3, .slice (some ⟨w.heap.size + 1 + 1 + 1 + 1 + 1 + 1, 0, none⟩) 2 2] T)).ownsRow (R + 1) 3 1 (.slice (some ⟨g, 0, none⟩) z.length z.length) z.length (ints z) → B ≤ g → w4.ownsRow B 3 1 (.slice (some ⟨g, 0, none⟩) z.length z.length) z.length (ints z) := by
    intro g z h hg
    have h2 := own_apart h hap (Nat.lt_succ_self R)
    obtain ⟨h3, h4⟩ := h2
    refine ⟨h3, ?_⟩
    rcases h4 with h4 | ⟨g', cap, cur, hv, hb, hr⟩
    · exact .inl h4
    · refine .inr ⟨g', cap, cur, hv, ?_, hr⟩
      injection hv with ha
      injection ha with ha
      injection ha with ha
      omega
  have : x = 0 ∨ x = 1 ∨ x = 2 ∨ x = 3 ∨ x = 4 ∨ x = 5 ∨ x = 6 := by omega
  rcases this with rfl | rfl | rfl | rfl | rfl | rfl | rfl
  · exact ⟨_, [60, 1], hcell, key _ [60, 1] (own_up (own_up (own_up (own_up (own_up (own_up (own_up (own_lits2 _ [60, 1] _ _ (by first | rfl | simp) (by first | omega | (simp; omega)) (by decide)) _) _) _) _) _) _) _) (by omega), ⟨by decide, fun h => absurd h (by decide)⟩, by omega⟩
  · exact ⟨_, [0, 61], hcell, key _ [0, 61] (own_up (own_up (own_up (own_up (own_up (own_up (own_lits2 _ [0, 61] _ _ (by first | rfl | simp) (by first | omega | (simp; omega)) (by decide)) _) _) _) _) _) _) (by omega), ⟨by decide, fun h => absurd h (by decide)⟩, by omega⟩
  · exact ⟨_, [-1, 2], hcell, key _ [-1, 2] (own_up (own_up (own_up (own_up (own_up (own_lits2 _ [-1, 2] _ _ (by first | rfl | simp) (by first | omega | (simp; omega)) (by decide)) _) _) _) _) _) (by omega), ⟨by decide, fun h => absurd h (by decide)⟩, by omega⟩
  · exact ⟨_, [1, -1], hcell, key _ [1, -1] (own_up (own_up (own_up (own_up (own_lits2 _ [1, -1] _ _ (by first | rfl | simp) (by first | omega | (simp; omega)) (by decide)) _) _) _) _) (by omega), ⟨by decide, fun h => absurd h (by decide)⟩, by omega⟩
  · exact ⟨_, [1], hcell, key _ [1] (own_up (own_up (own_up (own_lits2 _ [1] _ _ (by first | rfl | simp) (by first | omega | (simp; omega)) (by decide)) _) _) _) (by omega), ⟨by decide, fun h => absurd h (by decide)⟩, by omega⟩
  · exact ⟨_, [1, 2, 3], hcell, key _ [1, 2, 3] (own_up (own_up (own_lits2 _ [1, 2, 3] _ _ (by first | rfl | simp) (by first | omega | (simp; omega)) (by decide)) _) _) (by omega), ⟨by decide, fun h => absurd h (by decide)⟩, by omega⟩
  · exact ⟨_, [59, 60], hcell, key _ [59, 60] (own_up (own_lits2 _ [59, 60] _ _ (by first | rfl | simp) (by first | omega | (simp; omega)) (by decide)) _) (by omega), ⟨by decide, fun _ _ => by decide⟩, by omega⟩

end Go.Proofs.Ytdcedkjoligekaa
