/-
  Terms of the model: what a value of a tree is; the walks of spec.l7Read, spec.l7Of and spec.TermIn. The walk of spec.l7Read at a bracket that opens. The walks of spec.l7Read, whatever the text, of spec.l7Of and of spec.TermIn. The walks of spec.l7Of and of spec.TermIn. The parts of a tree, in the cells of its block.
-/
import Derived.Test.YtiphooodijbhiaaTermSem
import Derived.Test.YtiphooodijbhiaaHasMath
import Derived.Test.YtiphooodijbhiaaSetDef
import Derived.Deep.RegionWith
set_option linter.unusedSimpArgs false
set_option linter.unusedVariables false
namespace Go.Proofs.Ytiphooodijbhiaa
open Go.RowKit

/-- The two cells of a tree, at a place of a block. -/
def HasT (w : World) (g i : Nat) (v : Value) : Prop := ∃ p q, v = .agg #[p, q] ∧ w.cell? ⟨g, i, none⟩ = some p ∧ w.cell? ⟨g, i + 1, none⟩ = some q
/-- A value is the tree of a term, all of whose blocks lie behind B. -/
def IsT (B : Nat) (w : World) : Tm → Value → Prop
  | .sign c, v => ∃ a k, v = .agg #[.int .u8 c.toNat, .slice a 0 k]
  | .star t, v => ∃ g k x, v = .agg #[.int .u8 42, .slice (some ⟨g, 0, none⟩) 1 k] ∧ B ≤ g ∧ HasT w g 0 x ∧ IsT B w t x
  | .times d t, v => ∃ g k x, v = .agg #[.int .u8 d.toNat, .slice (some ⟨g, 0, none⟩) 1 k] ∧ B ≤ g ∧ HasT w g 0 x ∧ IsT B w t x
  | .pair l s r, v => ∃ g k x y, v = .agg #[.int .u8 s.toNat, .slice (some ⟨g, 0, none⟩) 2 k] ∧ B ≤ g ∧ HasT w g 0 x ∧ IsT B w l x ∧ HasT w g 2 y ∧ IsT B w r y
theorem HasT.step {w w' : World} {g i : Nat} {v : Value} (h : HasT w g i v) (hb : Below w.heap.size w w') : HasT w' g i v := by
  obtain ⟨p, q, e, h1, h2⟩ := h
  exact ⟨p, q, e, (hb.cell (p := ⟨g, i, none⟩) (lt_of_some h1)).trans h1, (hb.cell (p := ⟨g, i + 1, none⟩) (lt_of_some h1)).trans h2⟩
theorem HasT.set {w : World} {g i : Nat} {v : Value} (h : HasT w g i v) {p : Addr} (hp : p.block ≠ g) (x : Value) : HasT (w.setCell p x) g i v := by
  obtain ⟨a, b, e, h1, h2⟩ := h
  exact ⟨a, b, e, (World.cell?_setCell_other _ _ _ _ (fun e => hp (by rw [e]))).trans h1, (World.cell?_setCell_other _ _ _ _ (fun e => hp (by rw [e]))).trans h2⟩
theorem IsT.step {B : Nat} {w w' : World} (hb : Below w.heap.size w w') : ∀ {t : Tm} {v : Value}, IsT B w t v → IsT B w' t v := by
  intro t
  induction t with
  | sign c => intro v h; exact h
  | star t ih => rintro v ⟨g, k, x, e, h0, h1, h2⟩; exact ⟨g, k, x, e, h0, h1.step hb, ih h2⟩
  | times d t ih => rintro v ⟨g, k, x, e, h0, h1, h2⟩; exact ⟨g, k, x, e, h0, h1.step hb, ih h2⟩
  | pair l s r ihl ihr => rintro v ⟨g, k, x, y, e, h0, h1, h2, h3, h4⟩; exact ⟨g, k, x, y, e, h0, h1.step hb, ihl h2, h3.step hb, ihr h4⟩
theorem IsT.mono {B B' : Nat} {w : World} (hB : B' ≤ B) : ∀ {t : Tm} {v : Value}, IsT B w t v → IsT B' w t v := by
  intro t
  induction t with
  | sign c => intro v h; exact h
  | star t ih => rintro v ⟨g, k, x, e, h0, h1, h2⟩; exact ⟨g, k, x, e, Nat.le_trans hB h0, h1, ih h2⟩
  | times d t ih => rintro v ⟨g, k, x, e, h0, h1, h2⟩; exact ⟨g, k, x, e, Nat.le_trans hB h0, h1, ih h2⟩
  | pair l s r ihl ihr => rintro v ⟨g, k, x, y, e, h0, h1, h2, h3, h4⟩; exact ⟨g, k, x, y, e, Nat.le_trans hB h0, h1, ihl h2, h3, ihr h4⟩
theorem IsT.set {B : Nat} {w : World} {p : Addr} (hp : p.block < B) (u : Value) : ∀ {t : Tm} {v : Value}, IsT B w t v → IsT B (w.setCell p u) t v := by
  intro t
  induction t with
  | sign c => intro v h; exact h
  | star t ih => rintro v ⟨g, k, x, e, h0, h1, h2⟩; exact ⟨g, k, x, e, h0, h1.set (by omega) _, ih h2⟩
  | times d t ih => rintro v ⟨g, k, x, e, h0, h1, h2⟩; exact ⟨g, k, x, e, h0, h1.set (by omega) _, ih h2⟩
  | pair l s r ihl ihr => rintro v ⟨g, k, x, y, e, h0, h1, h2, h3, h4⟩; exact ⟨g, k, x, y, e, h0, h1.set (by omega) _, ihl h2, h3.set (by omega) _, ihr h4⟩
/-- The make of a tree's value. -/
def Ag (v : Value) : Prop := ∃ (c : UInt8) (a : Option Addr) (n k : Nat), v = .agg #[.int .u8 c.toNat, .slice a n k]
theorem IsT.ag {B : Nat} {w : World} {t : Tm} {v : Value} (h : IsT B w t v) : Ag v := by
  cases t with
  | sign c => obtain ⟨a, k, e⟩ := h; exact ⟨_, _, _, _, e⟩
  | star t => obtain ⟨g, k, x, e, _⟩ := h; exact ⟨42, _, _, _, e⟩
  | times d t => obtain ⟨g, k, x, e, _⟩ := h; exact ⟨_, _, _, _, e⟩
  | pair l s r => obtain ⟨g, k, x, y, e, _⟩ := h; exact ⟨_, _, _, _, e⟩

/-- What l7Read answers. -/
def ReadS (B : Nat) (s : ByteArray) (o : Option (Tm × List UInt8)) (e : Ending) (w' : World) : Prop :=
  match o with
  | some (t, r) => ∃ v, e = .returned (.tuple #[v, .int .i64 ((s.size - r.length : Nat) : Int)]) ∧ IsT B w' t v ∧ r.length ≤ s.size
  | none => ∃ v, e = .returned (.tuple #[v, .int .i64 0]) ∧ Ag v

/-- The byte at a place, and what is behind it. -/
structure At (s : ByteArray) (i : Nat) (c : UInt8) (l : List UInt8) : Prop where
  drop : s.data.toList.drop i = c :: l
  lt : i < s.size
  byte : s[i] = c
  rest : s.data.toList.drop (i + 1) = l
theorem at_of {s : ByteArray} {i : Nat} {c : UInt8} {l : List UInt8} (h : s.data.toList.drop i = c :: l) : At s i c l := by
  have h0 : i < s.size := by
    rw [← size_eq]
    apply Nat.lt_of_not_le
    intro hn
    rw [List.drop_eq_nil_of_le hn] at h
    cases h
  have h1 : i < s.data.toList.length := by rw [size_eq]; exact h0
  rw [List.drop_eq_getElem_cons h1] at h
  simp only [List.cons.injEq] at h
  exact ⟨by rw [List.drop_eq_getElem_cons h1, h.1, h.2], h0, h.1, h.2⟩

/-- A block of the two parts of a tree. -/
def BoxT (u v : Value) (R : Nat) (w : World) : Prop := w.heap[R]? = some (.cells #[u, v] 100 (0, 0))
theorem BoxT.lt {u v : Value} {R : Nat} {w : World} (h : BoxT u v R w) : R < w.heap.size := lt_of_block h
theorem BoxT.step {u v : Value} {R : Nat} {w w1 : World} (h : BoxT u v R w) (hb : Below w.heap.size w w1) : BoxT u v R w1 := (hb.block _ h.lt).trans h
theorem BoxT.cells {u v : Value} {R : Nat} {w : World} (h : BoxT u v R w) : w.cell? ⟨R, 0, none⟩ = some u ∧ w.cell? ⟨R, 1, none⟩ = some v ∧ w.frozen? ⟨R, 0, none⟩ = false ∧ w.frozen? ⟨R, 1, none⟩ = false := by
  unfold BoxT at h
  simp [World.cell?, World.frozen?, h]
theorem BoxT.stored {u v : Value} {R : Nat} {w : World} (h : BoxT u v R w) (x y : Value) : BoxT x y R ((w.setCell ⟨R, 0, none⟩ x).setCell ⟨R, 1, none⟩ y) :=
  heap_setCell_same _ R 1 _ _ y (heap_setCell_same w R 0 _ _ x h)
theorem BoxT.other {u v : Value} {R : Nat} {w : World} (h : BoxT u v R w) {p : Addr} (hp : R ≠ p.block) (x : Value) : BoxT u v R (w.setCell p x) := (heap_setCell_other w _ _ _ hp).trans h
theorem BoxT.new (w : World) (u v : Value) : BoxT u v w.heap.size (w.alloc (.cells #[u, v] 100)) := heap_alloc_new w _
/-- The world in which l7Read has its three boxes. -/
def readTW (w : World) : World := ((w.alloc (.cells #[.int .u8 0, .slice none 0 0] 100)).alloc (.cells #[] 100)).alloc (.cells #[.int .u8 48, .slice (some ⟨w.heap.size + 1, 0, none⟩) 0 0] 100)
theorem readTW_below (w : World) : Below w.heap.size w (readTW w) := (((Below.refl w.heap.size w).alloc (Nat.le_refl _) _).alloc (by simp) _).alloc (by simp; omega) _
theorem readTW_size (w : World) : (readTW w).heap.size = w.heap.size + 3 := by simp [readTW]
theorem readTW_boxes (w : World) : BoxT (.int .u8 0) (.slice none 0 0) w.heap.size (readTW w) ∧ BoxT (.int .u8 48) (.slice (some ⟨w.heap.size + 1, 0, none⟩) 0 0) (w.heap.size + 2) (readTW w) := by
  constructor
  · exact ((BoxT.new w _ _).step ((Below.refl _ _).alloc (Nat.le_refl _) _)).step ((Below.refl _ _).alloc (Nat.le_refl _) _)
  · have h := BoxT.new ((w.alloc (.cells #[.int .u8 0, .slice none 0 0] 100)).alloc (.cells #[] 100)) (.int .u8 48) (.slice (some ⟨w.heap.size + 1, 0, none⟩) 0 0)
    simpa [readTW] using h
theorem At.len {s : ByteArray} {i : Nat} {c : UInt8} {l : List UInt8} (h : At s i c l) : s.size - l.length = i + 1 ∧ l.length ≤ s.size := by
  have h1 := congrArg List.length h.drop
  have h2 := h.lt
  rw [List.length_drop, size_eq] at h1
  simp at h1
  omega
set_option maxHeartbeats 1000000 in
theorem readS_sign (s : ByteArray) (i : Nat) (w : World) (c : UInt8) (l : List UInt8) (h : At s i c l) (hs : s.size ≤ 60) (ho : isOne c = true) :
    Calls Try.prog 111 #[.string s, .int .i64 i] w fun e w' => ReadS w.heap.size s (some (.sign c, l)) e w' ∧ Below w.heap.size w w' := by
  have h0 := h.lt
  have hc : (s[i].toNat : Int) = (c.toNat : Int) := by rw [h.byte]
  have hlen : s.size - l.length = i + 1 ∧ l.length ≤ s.size := h.len
  have H := Lib.hid hlen
  clear h hlen
  rcases one_cases ho with rfl | rfl | rfl
  · replace hc : (s[i].toNat : Int) = 48 := hc
    go_enter Try.func111, Try.ntmps111
    go_wp2_with fail
    refine bodyPost_ret (v := .tuple #[.agg #[.int .u8 48, .slice (some ⟨w.heap.size + 1 + 1 + 1, 0, none⟩) 0 0], .int .i64 ((i : Int) + 1)]) (by simp [results, Try.results111, go_sem]) rfl ?_
    refine ⟨⟨.agg #[.int .u8 48, .slice (some ⟨w.heap.size + 1 + 1 + 1, 0, none⟩) 0 0], ?_, ⟨_, _, rfl⟩, H.out.2⟩, ?_⟩
    · rw [H.out.1]; rfl
    · exact ((((Below.refl w.heap.size w).alloc (Nat.le_refl _) _).alloc (by simp) _).alloc (by simp; omega) _).alloc (by simp; omega) _
  · replace hc : (s[i].toNat : Int) = 49 := hc
    go_enter Try.func111, Try.ntmps111
    go_wp2_with fail
    refine bodyPost_ret (v := .tuple #[.agg #[.int .u8 49, .slice (some ⟨w.heap.size + 1 + 1 + 1, 0, none⟩) 0 0], .int .i64 ((i : Int) + 1)]) (by simp [results, Try.results111, go_sem]) rfl ?_
    refine ⟨⟨.agg #[.int .u8 49, .slice (some ⟨w.heap.size + 1 + 1 + 1, 0, none⟩) 0 0], ?_, ⟨_, _, rfl⟩, H.out.2⟩, ?_⟩
    · rw [H.out.1]; rfl
    · exact ((((Below.refl w.heap.size w).alloc (Nat.le_refl _) _).alloc (by simp) _).alloc (by simp; omega) _).alloc (by simp; omega) _
  · replace hc : (s[i].toNat : Int) = 97 := hc
    go_enter Try.func111, Try.ntmps111
    go_wp2_with fail
    refine bodyPost_ret (v := .tuple #[.agg #[.int .u8 97, .slice (some ⟨w.heap.size + 1 + 1 + 1, 0, none⟩) 0 0], .int .i64 ((i : Int) + 1)]) (by simp [results, Try.results111, go_sem]) rfl ?_
    refine ⟨⟨.agg #[.int .u8 97, .slice (some ⟨w.heap.size + 1 + 1 + 1, 0, none⟩) 0 0], ?_, ⟨_, _, rfl⟩, H.out.2⟩, ?_⟩
    · rw [H.out.1]; rfl
    · exact ((((Below.refl w.heap.size w).alloc (Nat.le_refl _) _).alloc (by simp) _).alloc (by simp; omega) _).alloc (by simp; omega) _

/-- What is known of a tree and the place behind it. -/
def ReadE (B : Nat) (s : ByteArray) (v : Value) (en : Nat) (w' : World) (o : Option (Tm × List UInt8)) : Prop :=
  match o with | some (t, r) => IsT B w' t v ∧ en = s.size - r.length ∧ r.length ≤ s.size | none => en = 0
/-- What l7Read answers, as a make of its parts. -/
theorem ReadS.form {B : Nat} {s : ByteArray} {o : Option (Tm × List UInt8)} {e : Ending} {w' : World} (h : ReadS B s o e w') :
    ∃ c : UInt8, ∃ a n k, ∃ en : Nat, e = .returned (.tuple #[.agg #[.int .u8 c.toNat, .slice a n k], .int .i64 en]) ∧
      ReadE B s (.agg #[.int .u8 c.toNat, .slice a n k]) en w' o := by
  cases o with
  | none => obtain ⟨v, rfl, c, a, n, k, rfl⟩ := h; exact ⟨c, a, n, k, 0, rfl, rfl⟩
  | some p =>
    obtain ⟨v, rfl, h1, h2⟩ := h
    obtain ⟨c, a, n, k, rfl⟩ := h1.ag
    exact ⟨c, a, n, k, _, rfl, h1, rfl, h2⟩
/-- What a tree's own block and the box of the result are, at the end. -/
theorem tree_end {w w1 : World} {x p q : Value} (hb : Below (readTW w).heap.size (readTW w) w1) :
    ∃ W, W = ((((w1.setCell ⟨w.heap.size, 0, none⟩ x).setCell ⟨w.heap.size, 1, none⟩ (.slice (some ⟨w1.heap.size + 1, 0, none⟩) 1 1)).alloc (.cells #[p, q] 100)).alloc (.cells #[p, q] 100)) ∧
      BoxT x (.slice (some ⟨w1.heap.size + 1, 0, none⟩) 1 1) w.heap.size W ∧ HasT W (w1.heap.size + 1) 0 (.agg #[p, q]) ∧ Below w.heap.size w W ∧ w.heap.size ≤ w1.heap.size + 1 ∧
      ∀ t v, IsT (readTW w).heap.size w1 t v → IsT w.heap.size W t v := by
  have hs := readTW_size w
  have hb1 := hb.size
  have hR := (readTW_boxes w).1.step hb
  have hlt := hR.lt
  refine ⟨_, rfl, ?_, ?_, ?_, by omega, ?_⟩
  · exact ((hR.stored _ _).step ((Below.refl _ _).alloc (Nat.le_refl _) _)).step ((Below.refl _ _).alloc (Nat.le_refl _) _)
  · refine ⟨p, q, rfl, ?_, ?_⟩
    · rw [World.cell?_alloc_at _ _ _ _ (by simp)]; rfl
    · rw [World.cell?_alloc_at _ _ _ _ (by simp)]; rfl
  · exact (((((readTW_below w).trans (hb.mono (by omega))).setCell (Nat.le_refl _) _).setCell (Nat.le_refl _) _).alloc (by simp; omega) _).alloc (by simp; omega) _
  · intro t v h
    refine IsT.mono (B := (readTW w).heap.size) (by omega) ?_
    exact (((h.set (by show w.heap.size < _; omega) _).set (by show w.heap.size < _; omega) _).step ((Below.refl _ _).alloc (Nat.le_refl _) _)).step ((Below.refl _ _).alloc (Nat.le_refl _) _)
set_option maxHeartbeats 1000000 in
theorem readS_star (k : Nat) (s : ByteArray) (i : Nat) (w : World) (l : List UInt8) (h : At s i 42 l) (hs : s.size ≤ 60)
    (ih : ∀ w, Calls Try.prog 111 #[.string s, .int .i64 ((i : Int) + 1)] w fun e w' => ReadS w.heap.size s (cutT k l) e w' ∧ Below w.heap.size w w') :
    Calls Try.prog 111 #[.string s, .int .i64 i] w fun e w' => ReadS w.heap.size s ((cutT k l).map fun p => (.star p.1, p.2)) e w' ∧ Below w.heap.size w w' := by
  have h0 := h.lt
  have hc : (s[i].toNat : Int) = 42 := by rw [h.byte]; rfl
  have HI := Lib.hid ih
  clear ih h
  go_enter Try.func111, Try.ntmps111
  go_wp2_with fail
  refine (HI.out _).mono ?_
  rintro e w1 ⟨he, hb⟩
  obtain ⟨c, a, n, m, en, rfl, hx⟩ := he.form
  have HE := Lib.hid hx
  have HB := Lib.hid (show Below (readTW w).heap.size (readTW w) w1 from hb)
  have HR := Lib.hid ((readTW_boxes w).1.step HB.out)
  obtain ⟨c0, c1, f0, f1⟩ := HR.out.cells
  have hlt := HR.out.lt
  clear he hx hb
  go_wp2_with fail
  obtain ⟨W, hW, hR, hT, hB, hle, hI⟩ := tree_end (x := .int .u8 42) (p := .int .u8 c.toNat) (q := .slice a n m) HB.out
  rw [← hW]
  clear hW c0 c1 f0 f1
  obtain ⟨q0, q1, _, _⟩ := hR.cells
  refine bodyPost_ret (v := .tuple #[.agg #[.int .u8 42, .slice (some ⟨w1.heap.size + 1, 0, none⟩) 1 1], .int .i64 en]) (by simp [results, Try.results111, go_sem, q0, q1]) rfl ⟨?_, hB⟩
  have hE := HE.out
  cases hcut : cutT k l with
  | none => rw [hcut] at hE; rw [show en = 0 from hE]; exact ⟨_, rfl, 42, _, _, _, rfl⟩
  | some p =>
    rw [hcut] at hE
    obtain ⟨g1, g2, g3⟩ := hE
    rw [g2]
    exact ⟨_, rfl, ⟨w1.heap.size + 1, 1, _, rfl, hle, hT, hI _ _ g1⟩, g3⟩

set_option maxHeartbeats 1000000 in
theorem readS_dig50 (k : Nat) (s : ByteArray) (i : Nat) (w : World) (l : List UInt8) (h : At s i 50 l) (hs : s.size ≤ 60)
    (ih : ∀ w, Calls Try.prog 111 #[.string s, .int .i64 ((i : Int) + 1)] w fun e w' => ReadS w.heap.size s (cutT k l) e w' ∧ Below w.heap.size w w') :
    Calls Try.prog 111 #[.string s, .int .i64 i] w fun e w' => ReadS w.heap.size s ((cutT k l).map fun p => (.times 50 p.1, p.2)) e w' ∧ Below w.heap.size w w' := by
  have h0 := h.lt
  have hc : (s[i].toNat : Int) = 50 := by rw [h.byte]; rfl
  have HI := Lib.hid ih
  clear ih h
  go_enter Try.func111, Try.ntmps111
  go_wp2_with fail
  refine (HI.out _).mono ?_
  rintro e w1 ⟨he, hb⟩
  obtain ⟨c, a, n, m, en, rfl, hx⟩ := he.form
  have HE := Lib.hid hx
  have HB := Lib.hid (show Below (readTW w).heap.size (readTW w) w1 from hb)
  have HR := Lib.hid ((readTW_boxes w).1.step HB.out)
  obtain ⟨c0, c1, f0, f1⟩ := HR.out.cells
  have hlt := HR.out.lt
  clear he hx hb
  go_wp2_with fail
  obtain ⟨W, hW, hR, hT, hB, hle, hI⟩ := tree_end (x := .int .u8 50) (p := .int .u8 c.toNat) (q := .slice a n m) HB.out
  rw [← hW]
  clear hW c0 c1 f0 f1
  obtain ⟨q0, q1, _, _⟩ := hR.cells
  refine bodyPost_ret (v := .tuple #[.agg #[.int .u8 50, .slice (some ⟨w1.heap.size + 1, 0, none⟩) 1 1], .int .i64 en]) (by simp [results, Try.results111, go_sem, q0, q1]) rfl ⟨?_, hB⟩
  have hE := HE.out
  cases hcut : cutT k l with
  | none => rw [hcut] at hE; rw [show en = 0 from hE]; exact ⟨_, rfl, 50, _, _, _, rfl⟩
  | some p =>
    rw [hcut] at hE
    obtain ⟨g1, g2, g3⟩ := hE
    rw [g2]
    exact ⟨_, rfl, ⟨w1.heap.size + 1, 1, _, rfl, hle, hT, hI _ _ g1⟩, g3⟩

set_option maxHeartbeats 1000000 in
theorem readS_dig51 (k : Nat) (s : ByteArray) (i : Nat) (w : World) (l : List UInt8) (h : At s i 51 l) (hs : s.size ≤ 60)
    (ih : ∀ w, Calls Try.prog 111 #[.string s, .int .i64 ((i : Int) + 1)] w fun e w' => ReadS w.heap.size s (cutT k l) e w' ∧ Below w.heap.size w w') :
    Calls Try.prog 111 #[.string s, .int .i64 i] w fun e w' => ReadS w.heap.size s ((cutT k l).map fun p => (.times 51 p.1, p.2)) e w' ∧ Below w.heap.size w w' := by
  have h0 := h.lt
  have hc : (s[i].toNat : Int) = 51 := by rw [h.byte]; rfl
  have HI := Lib.hid ih
  clear ih h
  go_enter Try.func111, Try.ntmps111
  go_wp2_with fail
  refine (HI.out _).mono ?_
  rintro e w1 ⟨he, hb⟩
  obtain ⟨c, a, n, m, en, rfl, hx⟩ := he.form
  have HE := Lib.hid hx
  have HB := Lib.hid (show Below (readTW w).heap.size (readTW w) w1 from hb)
  have HR := Lib.hid ((readTW_boxes w).1.step HB.out)
  obtain ⟨c0, c1, f0, f1⟩ := HR.out.cells
  have hlt := HR.out.lt
  clear he hx hb
  go_wp2_with fail
  obtain ⟨W, hW, hR, hT, hB, hle, hI⟩ := tree_end (x := .int .u8 51) (p := .int .u8 c.toNat) (q := .slice a n m) HB.out
  rw [← hW]
  clear hW c0 c1 f0 f1
  obtain ⟨q0, q1, _, _⟩ := hR.cells
  refine bodyPost_ret (v := .tuple #[.agg #[.int .u8 51, .slice (some ⟨w1.heap.size + 1, 0, none⟩) 1 1], .int .i64 en]) (by simp [results, Try.results111, go_sem, q0, q1]) rfl ⟨?_, hB⟩
  have hE := HE.out
  cases hcut : cutT k l with
  | none => rw [hcut] at hE; rw [show en = 0 from hE]; exact ⟨_, rfl, 51, _, _, _, rfl⟩
  | some p =>
    rw [hcut] at hE
    obtain ⟨g1, g2, g3⟩ := hE
    rw [g2]
    exact ⟨_, rfl, ⟨w1.heap.size + 1, 1, _, rfl, hle, hT, hI _ _ g1⟩, g3⟩

set_option maxHeartbeats 1000000 in
theorem readS_dig52 (k : Nat) (s : ByteArray) (i : Nat) (w : World) (l : List UInt8) (h : At s i 52 l) (hs : s.size ≤ 60)
    (ih : ∀ w, Calls Try.prog 111 #[.string s, .int .i64 ((i : Int) + 1)] w fun e w' => ReadS w.heap.size s (cutT k l) e w' ∧ Below w.heap.size w w') :
    Calls Try.prog 111 #[.string s, .int .i64 i] w fun e w' => ReadS w.heap.size s ((cutT k l).map fun p => (.times 52 p.1, p.2)) e w' ∧ Below w.heap.size w w' := by
  have h0 := h.lt
  have hc : (s[i].toNat : Int) = 52 := by rw [h.byte]; rfl
  have HI := Lib.hid ih
  clear ih h
  go_enter Try.func111, Try.ntmps111
  go_wp2_with fail
  refine (HI.out _).mono ?_
  rintro e w1 ⟨he, hb⟩
  obtain ⟨c, a, n, m, en, rfl, hx⟩ := he.form
  have HE := Lib.hid hx
  have HB := Lib.hid (show Below (readTW w).heap.size (readTW w) w1 from hb)
  have HR := Lib.hid ((readTW_boxes w).1.step HB.out)
  obtain ⟨c0, c1, f0, f1⟩ := HR.out.cells
  have hlt := HR.out.lt
  clear he hx hb
  go_wp2_with fail
  obtain ⟨W, hW, hR, hT, hB, hle, hI⟩ := tree_end (x := .int .u8 52) (p := .int .u8 c.toNat) (q := .slice a n m) HB.out
  rw [← hW]
  clear hW c0 c1 f0 f1
  obtain ⟨q0, q1, _, _⟩ := hR.cells
  refine bodyPost_ret (v := .tuple #[.agg #[.int .u8 52, .slice (some ⟨w1.heap.size + 1, 0, none⟩) 1 1], .int .i64 en]) (by simp [results, Try.results111, go_sem, q0, q1]) rfl ⟨?_, hB⟩
  have hE := HE.out
  cases hcut : cutT k l with
  | none => rw [hcut] at hE; rw [show en = 0 from hE]; exact ⟨_, rfl, 52, _, _, _, rfl⟩
  | some p =>
    rw [hcut] at hE
    obtain ⟨g1, g2, g3⟩ := hE
    rw [g2]
    exact ⟨_, rfl, ⟨w1.heap.size + 1, 1, _, rfl, hle, hT, hI _ _ g1⟩, g3⟩

set_option maxHeartbeats 1000000 in
theorem readS_dig53 (k : Nat) (s : ByteArray) (i : Nat) (w : World) (l : List UInt8) (h : At s i 53 l) (hs : s.size ≤ 60)
    (ih : ∀ w, Calls Try.prog 111 #[.string s, .int .i64 ((i : Int) + 1)] w fun e w' => ReadS w.heap.size s (cutT k l) e w' ∧ Below w.heap.size w w') :
    Calls Try.prog 111 #[.string s, .int .i64 i] w fun e w' => ReadS w.heap.size s ((cutT k l).map fun p => (.times 53 p.1, p.2)) e w' ∧ Below w.heap.size w w' := by
  have h0 := h.lt
  have hc : (s[i].toNat : Int) = 53 := by rw [h.byte]; rfl
  have HI := Lib.hid ih
  clear ih h
  go_enter Try.func111, Try.ntmps111
  go_wp2_with fail
  refine (HI.out _).mono ?_
  rintro e w1 ⟨he, hb⟩
  obtain ⟨c, a, n, m, en, rfl, hx⟩ := he.form
  have HE := Lib.hid hx
  have HB := Lib.hid (show Below (readTW w).heap.size (readTW w) w1 from hb)
  have HR := Lib.hid ((readTW_boxes w).1.step HB.out)
  obtain ⟨c0, c1, f0, f1⟩ := HR.out.cells
  have hlt := HR.out.lt
  clear he hx hb
  go_wp2_with fail
  obtain ⟨W, hW, hR, hT, hB, hle, hI⟩ := tree_end (x := .int .u8 53) (p := .int .u8 c.toNat) (q := .slice a n m) HB.out
  rw [← hW]
  clear hW c0 c1 f0 f1
  obtain ⟨q0, q1, _, _⟩ := hR.cells
  refine bodyPost_ret (v := .tuple #[.agg #[.int .u8 53, .slice (some ⟨w1.heap.size + 1, 0, none⟩) 1 1], .int .i64 en]) (by simp [results, Try.results111, go_sem, q0, q1]) rfl ⟨?_, hB⟩
  have hE := HE.out
  cases hcut : cutT k l with
  | none => rw [hcut] at hE; rw [show en = 0 from hE]; exact ⟨_, rfl, 53, _, _, _, rfl⟩
  | some p =>
    rw [hcut] at hE
    obtain ⟨g1, g2, g3⟩ := hE
    rw [g2]
    exact ⟨_, rfl, ⟨w1.heap.size + 1, 1, _, rfl, hle, hT, hI _ _ g1⟩, g3⟩

/-- What is handed back where nothing is read. -/
theorem none_end {w w1 : World} {u0 v0 x y p q : Value} (hR : BoxT u0 v0 w.heap.size w1) (hb : Below w.heap.size w w1) :
    ∃ W, W = (((w1.setCell ⟨w.heap.size, 0, none⟩ x).setCell ⟨w.heap.size, 1, none⟩ y).alloc (.cells #[p, q] 100)) ∧ BoxT x y w.heap.size W ∧ Below w.heap.size w W :=
  ⟨_, rfl, (hR.stored _ _).step ((Below.refl _ _).alloc (Nat.le_refl _) _), ((hb.setCell (Nat.le_refl _) _).setCell (Nat.le_refl _) _).alloc (by have := hR.lt; simp; omega) _⟩
theorem half_start {w w1 : World} (hb : Below (readTW w).heap.size (readTW w) w1) :
    BoxT (.int .u8 0) (.slice none 0 0) w.heap.size w1 ∧ BoxT (.int .u8 48) (.slice (some ⟨w.heap.size + 1, 0, none⟩) 0 0) (w.heap.size + 1 + 1) w1 ∧ Below w.heap.size w w1 ∧ w.heap.size + 3 ≤ w1.heap.size := by
  have h := readTW_boxes w
  have hs := readTW_size w
  have hb1 := hb.size
  exact ⟨h.1.step hb, h.2.step hb, (readTW_below w).trans (hb.mono (by omega)), by omega⟩
/-- The same behind the second part. -/
theorem half_more {w w1 w2 : World} {p q : Value} (h : BoxT (.int .u8 0) (.slice none 0 0) w.heap.size w1 ∧ BoxT (.int .u8 48) (.slice (some ⟨w.heap.size + 1, 0, none⟩) 0 0) (w.heap.size + 1 + 1) w1 ∧ Below w.heap.size w w1 ∧ w.heap.size + 3 ≤ w1.heap.size)
    (hb : Below (w1.alloc (.cells #[p, q] 100)).heap.size (w1.alloc (.cells #[p, q] 100)) w2) :
    BoxT (.int .u8 0) (.slice none 0 0) w.heap.size w2 ∧ BoxT (.int .u8 48) (.slice (some ⟨w.heap.size + 1, 0, none⟩) 0 0) (w.heap.size + 1 + 1) w2 ∧ Below w.heap.size w w2 ∧ BoxT p q w1.heap.size w2 ∧ Below w1.heap.size w1 w2 ∧ w1.heap.size + 1 ≤ w2.heap.size := by
  obtain ⟨h1, h2, h3, h4⟩ := h
  have hx : Below w1.heap.size w1 w2 := ((Below.refl w1.heap.size w1).alloc (Nat.le_refl _) _).trans (hb.mono (by simp))
  have hsz := hb.size
  simp at hsz
  exact ⟨h1.step hx, h2.step hx, h3.trans (hx.mono (by omega)), (BoxT.new w1 p q).step hb, hx, hsz⟩

/-- What the two parts' own block and the box of the result are, at the end. -/
theorem pair_end {w w2 : World} {x p q p2 q2 : Value} (hH : BoxT (.int .u8 0) (.slice none 0 0) w.heap.size w2) (h3 : Below w.heap.size w w2) (hw : w.heap.size + 3 ≤ w2.heap.size) :
    ∃ W, W = ((((w2.setCell ⟨w.heap.size, 0, none⟩ x).setCell ⟨w.heap.size, 1, none⟩ (.slice (some ⟨w2.heap.size + 1, 0, none⟩) 2 2)).alloc (.cells #[p2, q2] 100)).alloc (.cells #[p, q, p2, q2] 100)) ∧
      BoxT x (.slice (some ⟨w2.heap.size + 1, 0, none⟩) 2 2) w.heap.size W ∧ HasT W (w2.heap.size + 1) 0 (.agg #[p, q]) ∧ HasT W (w2.heap.size + 1) 2 (.agg #[p2, q2]) ∧ Below w.heap.size w W ∧ w.heap.size ≤ w2.heap.size + 1 ∧
      ∀ B t v, w.heap.size < B → IsT B w2 t v → IsT w.heap.size W t v := by
  refine ⟨_, rfl, ?_, ?_, ?_, ?_, by omega, ?_⟩
  · exact ((hH.stored _ _).step ((Below.refl _ _).alloc (Nat.le_refl _) _)).step ((Below.refl _ _).alloc (Nat.le_refl _) _)
  · refine ⟨p, q, rfl, ?_, ?_⟩
    · rw [World.cell?_alloc_at _ _ _ _ (by simp)]; rfl
    · rw [World.cell?_alloc_at _ _ _ _ (by simp)]; rfl
  · refine ⟨p2, q2, rfl, ?_, ?_⟩
    · rw [World.cell?_alloc_at _ _ _ _ (by simp)]; rfl
    · rw [World.cell?_alloc_at _ _ _ _ (by simp)]; rfl
  · exact (((h3.setCell (Nat.le_refl _) _).setCell (Nat.le_refl _) _).alloc (by simp; omega) _).alloc (by simp; omega) _
  · intro B t v hB h
    refine IsT.mono (B := B) (by omega) ?_
    exact (((h.set hB _).set hB _).step ((Below.refl _ _).alloc (Nat.le_refl _) _)).step ((Below.refl _ _).alloc (Nat.le_refl _) _)

theorem mid_tests {s : ByteArray} {i : Nat} {m : UInt8} {l : List UInt8} (h : At s i m l) :
    ∃ a b c, (((s[i]'h.lt).toNat : Int) != 43) = a ∧ (((s[i]'h.lt).toNat : Int) != 46) = b ∧ (((s[i]'h.lt).toNat : Int) != 38) = c ∧ (a && (b && c)) = !isMid m := by
  refine ⟨_, _, _, rfl, rfl, rfl, ?_⟩
  rw [h.byte]
  have e : ∀ k : Nat, k < 256 → ((m.toNat : Int) != (k : Int)) = !(m == UInt8.ofNat k) := fun k hk => by
    have : ((m.toNat : Int) == (k : Int)) = (m == UInt8.ofNat k) := by rw [Bool.eq_iff_iff, beq_iff_eq, beq_iff_eq]; exact byte_is hk
    show (!((m.toNat : Int) == (k : Int))) = _
    rw [this]
  rw [show ((m.toNat : Int) != 43) = !(m == 43) from e 43 (by decide), show ((m.toNat : Int) != 46) = !(m == 46) from e 46 (by decide), show ((m.toNat : Int) != 38) = !(m == 38) from e 38 (by decide)]
  unfold isMid
  cases (m == 43) <;> cases (m == 46) <;> cases (m == 38) <;> rfl

set_option maxRecDepth 100000 in
set_option maxHeartbeats 4000000 in
theorem readS_open (k : Nat) (s : ByteArray) (i : Nat) (w : World) (l : List UInt8) (h : At s i 40 l) (hs : s.size ≤ 60)
    (ih : ∀ (j : Nat) (w : World), s.size ≤ j + k → Calls Try.prog 111 #[.string s, .int .i64 j] w fun e w' => ReadS w.heap.size s (cutT k (s.data.toList.drop j)) e w' ∧ Below w.heap.size w w') (hk : s.size ≤ i + 1 + k) :
    Calls Try.prog 111 #[.string s, .int .i64 i] w fun e w' => ReadS w.heap.size s (cutP k l) e w' ∧ Below w.heap.size w w' := by
  have h0 := h.lt
  have hc : (s[i].toNat : Int) = 40 := by rw [h.byte]; rfl
  have IH := Lib.hid ih
  have HI := Lib.hid (ih (i + 1) · hk)
  have hrest := h.rest
  rw [hrest] at HI
  have HREST := Lib.hid hrest
  clear ih h hrest
  go_enter Try.func111, Try.ntmps111
  go_wp2_with fail
  refine (HI.out _).mono ?_
  rintro e w1 ⟨he, hb⟩
  obtain ⟨c, a, n, m, en, rfl, hx⟩ := he.form
  have HB := Lib.hid (show Below (readTW w).heap.size (readTW w) w1 from hb)
  have HH := Lib.hid (half_start HB.out)
  obtain ⟨c0, c1, f0, f1⟩ := HH.out.1.cells
  obtain ⟨d0, d1, _, _⟩ := HH.out.2.1.cells
  have hlt := HH.out.1.lt
  have hlt2 := HH.out.2.1.lt
  clear he hb
  cases hcut : cutT k l with
  | none =>
    have HP := Lib.hid (cutP_none hcut)
    rw [hcut] at hx
    obtain rfl : en = 0 := hx
    clear hcut
    go_wp2_with fail
    obtain ⟨W, hW, hR, hB⟩ := none_end (x := .int .u8 48) (y := .slice (some ⟨w.heap.size + 1, 0, none⟩) 0 0) (p := .int .u8 c.toNat) (q := .slice a n m) HH.out.1 HH.out.2.2.1
    rw [← hW]
    clear hW c0 c1 f0 f1
    obtain ⟨q0, q1, _, _⟩ := hR.cells
    refine bodyPost_ret (v := .tuple #[.agg #[.int .u8 48, .slice (some ⟨w.heap.size + 1, 0, none⟩) 0 0], .int .i64 0]) (by simp [results, Try.results111, go_sem, q0, q1]) rfl ⟨?_, hB⟩
    rw [HP.out]
    exact ⟨_, rfl, 48, _, _, _, rfl⟩
  | some p =>
    obtain ⟨t1, l2⟩ := p
    rw [hcut] at hx
    obtain ⟨hT1, hen, _⟩ := hx
    have HT1 := Lib.hid hT1
    have hat := cut_at HREST.out hcut
    rw [← hen] at hat
    have HC := Lib.hid hcut
    have hz : (((en : Int)) == 0) = false := by simpa using hat.2.2
    have HAT := Lib.hid hat
    clear hT1 hcut hen
    cases l2 with
    | nil =>
      have hge : s.size ≤ en := drop_end hat.1
      have HP := Lib.hid (cutP_end HC.out)
      clear hat
      go_wp2_with fail
      obtain ⟨W, hW, hR, hB⟩ := none_end (x := .int .u8 48) (y := .slice (some ⟨w.heap.size + 1, 0, none⟩) 0 0) (p := .int .u8 c.toNat) (q := .slice a n m) HH.out.1 HH.out.2.2.1
      rw [← hW]
      clear hW c0 c1 f0 f1
      obtain ⟨q0, q1, _, _⟩ := hR.cells
      refine bodyPost_ret (v := .tuple #[.agg #[.int .u8 48, .slice (some ⟨w.heap.size + 1, 0, none⟩) 0 0], .int .i64 0]) (by simp [results, Try.results111, go_sem, q0, q1]) rfl ⟨?_, hB⟩
      rw [HP.out]
      exact ⟨_, rfl, 48, _, _, _, rfl⟩
    | cons mm l3 =>
      have HA := Lib.hid (at_of hat.1)
      obtain ⟨ta, tb, tc, e1, e2, e3, e4⟩ := mid_tests HA.out
      have h2 := HA.out.lt
      have hrest2 := HA.out.rest
      clear hat
      cases hmid : isMid mm
      · have HP := Lib.hid (cutP_mid HC.out hmid)
        rw [hmid] at e4
        obtain ⟨rfl, rfl, rfl⟩ : ta = true ∧ tb = true ∧ tc = true := by revert e4; cases ta <;> cases tb <;> cases tc <;> decide
        clear hmid e4
        go_wp2_with fail
        obtain ⟨W, hW, hR, hB⟩ := none_end (x := .int .u8 48) (y := .slice (some ⟨w.heap.size + 1, 0, none⟩) 0 0) (p := .int .u8 c.toNat) (q := .slice a n m) HH.out.1 HH.out.2.2.1
        rw [← hW]
        clear hW c0 c1 f0 f1
        obtain ⟨q0, q1, _, _⟩ := hR.cells
        refine bodyPost_ret (v := .tuple #[.agg #[.int .u8 48, .slice (some ⟨w.heap.size + 1, 0, none⟩) 0 0], .int .i64 0]) (by simp [results, Try.results111, go_sem, q0, q1]) rfl ⟨?_, hB⟩
        rw [HP.out]
        exact ⟨_, rfl, 48, _, _, _, rfl⟩
      · have HI2 := Lib.hid (IH.out (en + 1) · (by have h1 := cutT_less HC.out; have h2 := HAT.out.2.1; have h3 := congrArg List.length HREST.out; rw [List.length_drop, size_eq] at h3; have h4 := congrArg List.length HAT.out.1; rw [List.length_drop, size_eq] at h4; simp at h1 h4; omega))
        rw [hrest2] at HI2
        have HM := Lib.hid hmid
        have HR2 := Lib.hid hrest2
        rw [hmid] at e4
        clear hmid hrest2 IH HI
        have hor : ta = false ∨ (ta = true ∧ tb = false) ∨ (ta = true ∧ tb = true ∧ tc = false) := by revert e4; cases ta <;> cases tb <;> cases tc <;> decide
        clear e4
        rcases hor with rfl | ⟨rfl, rfl⟩ | ⟨rfl, rfl, rfl⟩
        all_goals
          go_wp2_with fail
          refine (HI2.out _).mono ?_
          rintro e w2 ⟨he, hb⟩
          obtain ⟨c2, a2, n2, m2, en2, rfl, hx⟩ := he.form
          have HX := Lib.hid hx
          have HK := Lib.hid (half_more (p := .int .u8 c.toNat) (q := .slice a n m) HH.out hb)
          have HRB := Lib.hid hb.size
          obtain ⟨c0, c1, f0, f1⟩ := HK.out.1.cells
          obtain ⟨d0, d1, _, _⟩ := HK.out.2.1.cells
          obtain ⟨g0, g1, _, _⟩ := HK.out.2.2.2.1.cells
          have hlt := HK.out.1.lt
          have hlt2 := HK.out.2.1.lt
          have hlt3 := HK.out.2.2.2.1.lt
          clear he hb hx
          cases hcut : cutT k l3 with
          | none =>
            have HP := Lib.hid (cutP_none2 HC.out HM.out hcut)
            have hx := HX.out
            rw [hcut] at hx
            obtain rfl : en2 = 0 := hx
            clear hcut HX
            go_wp2_with fail
            obtain ⟨W, hW, hR, hB⟩ := none_end (x := .int .u8 48) (y := .slice (some ⟨w.heap.size + 1, 0, none⟩) 0 0) (p := .int .u8 c2.toNat) (q := .slice a2 n2 m2) HK.out.1 HK.out.2.2.1
            rw [← hW]
            clear hW c0 c1 f0 f1
            obtain ⟨q0, q1, _, _⟩ := hR.cells
            refine bodyPost_ret (v := .tuple #[.agg #[.int .u8 48, .slice (some ⟨w.heap.size + 1, 0, none⟩) 0 0], .int .i64 0]) (by simp [results, Try.results111, go_sem, q0, q1]) rfl ⟨?_, hB⟩
            rw [HP.out]
            exact ⟨_, rfl, 48, _, _, _, rfl⟩
          | some p =>
            obtain ⟨t2, l4⟩ := p
            have hx := HX.out
            rw [hcut] at hx
            obtain ⟨hT2, hen2, _⟩ := hx
            have HT2 := Lib.hid hT2
            have hat := cut_at HR2.out hcut
            rw [← hen2] at hat
            have HC2 := Lib.hid hcut
            have hz2 : (((en2 : Int)) == 0) = false := by simpa using hat.2.2
            have HAT2 := Lib.hid hat
            clear hT2 hcut hen2 HX
            cases l4 with
            | nil =>
              have hge : s.size ≤ en2 := drop_end hat.1
              have HP := Lib.hid (cutP_end2 HC.out HM.out HC2.out)
              clear hat
              go_wp2_with fail
              obtain ⟨W, hW, hR, hB⟩ := none_end (x := .int .u8 48) (y := .slice (some ⟨w.heap.size + 1, 0, none⟩) 0 0) (p := .int .u8 c2.toNat) (q := .slice a2 n2 m2) HK.out.1 HK.out.2.2.1
              rw [← hW]
              clear hW c0 c1 f0 f1
              obtain ⟨q0, q1, _, _⟩ := hR.cells
              refine bodyPost_ret (v := .tuple #[.agg #[.int .u8 48, .slice (some ⟨w.heap.size + 1, 0, none⟩) 0 0], .int .i64 0]) (by simp [results, Try.results111, go_sem, q0, q1]) rfl ⟨?_, hB⟩
              rw [HP.out]
              exact ⟨_, rfl, 48, _, _, _, rfl⟩
            | cons xx l5 =>
              have HA2 := Lib.hid (at_of hat.1)
              have h3 := HA2.out.lt
              clear hat
              by_cases hx41 : xx = 41
              · subst hx41
                have kf : (((s[en2]'h3).toNat : Int) != 41) = false := by rw [HA2.out.byte]; rfl
                have HP := Lib.hid (cutP_some HC.out HM.out HC2.out)
                have HLEN := Lib.hid HA2.out.len
                go_wp2_with fail
                go_region
                obtain ⟨W, hW, hR, hX1, hX2, hB, hle, hI⟩ := pair_end (x := .int .u8 (s[en]'h2).toNat) (p := .int .u8 c.toNat) (q := .slice a n m) (p2 := .int .u8 c2.toNat) (q2 := .slice a2 n2 m2) HK.out.1 HK.out.2.2.1 (by have := HH.out.2.2.2; have := HK.out.2.2.2.2.2; omega)
                rw [← hW]
                clear hW c0 c1 f0 f1 d0 d1 g0 g1
                obtain ⟨q0, q1, _, _⟩ := hR.cells
                have hD : Below W.heap.size W W.drew := (Below.refl _ _).drew
                go_wp2_with fail
                refine bodyPost_ret (v := .tuple #[.agg #[.int .u8 (s[en]'h2).toNat, .slice (some ⟨w2.heap.size + 1, 0, none⟩) 2 2], .int .i64 ((en2 : Int) + 1)]) (by simp [results, Try.results111, go_sem, q0, q1]) rfl ⟨?_, hB.drew⟩
                rw [HP.out]
                refine ⟨.agg #[.int .u8 (s[en]'h2).toNat, .slice (some ⟨w2.heap.size + 1, 0, none⟩) 2 2], ?_, ⟨w2.heap.size + 1, 2, _, _, ?_, hle, hX1.step hD, (hI _ _ _ ?_ (HT1.out.step HK.out.2.2.2.2.1)).step hD, hX2.step hD, (hI _ _ _ ?_ HT2.out).step hD⟩, HLEN.out.2⟩
                · rw [HLEN.out.1]; rfl
                · rw [HA.out.byte]
                · have := readTW_size w; show w.heap.size < (readTW w).heap.size; omega
                · have := HH.out.2.2.2; simp; omega
              · have kf : (((s[en2]'h3).toNat : Int) != 41) = true := by
                  have : ¬ (xx.toNat : Int) = 41 := fun e => hx41 ((byte_is (k := 41) (by decide)).1 e)
                  rw [HA2.out.byte]; simpa using this
                have HP := Lib.hid (cutP_shut HC.out HM.out HC2.out hx41)
                clear hx41
                go_wp2_with fail
                obtain ⟨W, hW, hR, hB⟩ := none_end (x := .int .u8 48) (y := .slice (some ⟨w.heap.size + 1, 0, none⟩) 0 0) (p := .int .u8 c2.toNat) (q := .slice a2 n2 m2) HK.out.1 HK.out.2.2.1
                rw [← hW]
                clear hW c0 c1 f0 f1
                obtain ⟨q0, q1, _, _⟩ := hR.cells
                refine bodyPost_ret (v := .tuple #[.agg #[.int .u8 48, .slice (some ⟨w.heap.size + 1, 0, none⟩) 0 0], .int .i64 0]) (by simp [results, Try.results111, go_sem, q0, q1]) rfl ⟨?_, hB⟩
                rw [HP.out]
                exact ⟨_, rfl, 48, _, _, _, rfl⟩

set_option maxRecDepth 100000 in
set_option maxHeartbeats 1000000 in
theorem readS_no (s : ByteArray) (i : Nat) (w : World) (c : UInt8) (l : List UInt8) (h : At s i c l) (hs : s.size ≤ 60) (h1 : isOne c = false) (h2 : c ≠ 42) (h3 : isDig c = false) (h4 : c ≠ 40) :
    Calls Try.prog 111 #[.string s, .int .i64 i] w fun e w' => ReadS w.heap.size s none e w' ∧ Below w.heap.size w w' := by
  have h0 := h.lt
  simp [isOne] at h1
  simp [isDig] at h3
  have ne : ∀ k : Nat, k < 256 → c ≠ UInt8.ofNat k → ¬ (s[i].toNat : Int) = (k : Int) := fun k hk hn e => hn ((byte_is hk).1 (by rw [← h.byte]; exact e))
  have b48 : ¬ (s[i].toNat : Int) = 48 := ne 48 (by decide) h1.1.1
  have b49 : ¬ (s[i].toNat : Int) = 49 := ne 49 (by decide) h1.1.2
  have b97 : ¬ (s[i].toNat : Int) = 97 := ne 97 (by decide) h1.2
  have b42 : ¬ (s[i].toNat : Int) = 42 := ne 42 (by decide) h2
  have b50 : ¬ (s[i].toNat : Int) = 50 := ne 50 (by decide) h3.1.1.1
  have b51 : ¬ (s[i].toNat : Int) = 51 := ne 51 (by decide) h3.1.1.2
  have b52 : ¬ (s[i].toNat : Int) = 52 := ne 52 (by decide) h3.1.2
  have b53 : ¬ (s[i].toNat : Int) = 53 := ne 53 (by decide) h3.2
  have b40 : ((s[i].toNat : Int) != 40) = true := by simpa using ne 40 (by decide) h4
  have q1 : ((s[i].toNat : Int) == 48) = false := by simpa using b48
  have q2 : ((s[i].toNat : Int) == 49) = false := by simpa using b49
  have q3 : ((s[i].toNat : Int) == 97) = false := by simpa using b97
  have q4 : ((s[i].toNat : Int) == 42) = false := by simpa using b42
  have hor : (s[i].toNat : Int) < 50 ∨ 53 < (s[i].toNat : Int) := by omega
  clear ne h1 h2 h3 h4 h b48 b49 b97 b42 b50 b51 b52 b53
  obtain ⟨x, hx⟩ : ∃ x : Int, x = (s[i].toNat : Int) := ⟨_, rfl⟩
  rw [← hx] at b40 q1 q2 q3 q4 hor
  rcases hor with hlo | hhi
  · have l1 : ¬ (50 : Int) ≤ s[i].toNat := by omega
    go_enter Try.func111, Try.ntmps111
    rw [hx] at b40 q1 q2 q3 q4 hlo
    go_wp2_with fail
    refine bodyPost_ret (v := .tuple #[.agg #[.int .u8 48, .slice (some ⟨w.heap.size + 1, 0, none⟩) 0 0], .int .i64 0]) (by simp [results, Try.results111, go_sem]) rfl ⟨⟨_, rfl, 48, _, _, _, rfl⟩, ?_⟩
    exact (((Below.refl w.heap.size w).alloc (Nat.le_refl _) _).alloc (by simp) _).alloc (by simp; omega) _
  · have l1 : ¬ (s[i].toNat : Int) ≤ 53 := by omega
    go_enter Try.func111, Try.ntmps111
    rw [hx] at b40 q1 q2 q3 q4 hhi
    go_wp2_with fail
    refine bodyPost_ret (v := .tuple #[.agg #[.int .u8 48, .slice (some ⟨w.heap.size + 1, 0, none⟩) 0 0], .int .i64 0]) (by simp [results, Try.results111, go_sem]) rfl ⟨⟨_, rfl, 48, _, _, _, rfl⟩, ?_⟩
    exact (((Below.refl w.heap.size w).alloc (Nat.le_refl _) _).alloc (by simp) _).alloc (by simp; omega) _
set_option maxHeartbeats 1000000 in
theorem readS_end (s : ByteArray) (i : Nat) (w : World) (h : s.size ≤ i) :
    Calls Try.prog 111 #[.string s, .int .i64 i] w fun e w' => ReadS w.heap.size s none e w' ∧ Below w.heap.size w w' := by
  go_enter Try.func111, Try.ntmps111
  go_wp2_with fail
  refine bodyPost_ret (v := .tuple #[.agg #[.int .u8 48, .slice (some ⟨w.heap.size + 1, 0, none⟩) 0 0], .int .i64 0]) (by simp [results, Try.results111, go_sem]) rfl ⟨⟨_, rfl, 48, _, _, _, rfl⟩, ?_⟩
  exact (((Below.refl w.heap.size w).alloc (Nat.le_refl _) _).alloc (by simp) _).alloc (by simp; omega) _

theorem ReadS.mono {B B' : Nat} {s : ByteArray} {o : Option (Tm × List UInt8)} {e : Ending} {w : World} (h : ReadS B s o e w) (hB : B' ≤ B) : ReadS B' s o e w := by
  cases o with
  | none => exact h
  | some p => obtain ⟨v, h1, h2, h3⟩ := h; exact ⟨v, h1, h2.mono hB, h3⟩
/-- The walk of spec.l7Read, whatever the text and the place. -/
theorem readS_any : ∀ (k : Nat) (s : ByteArray) (i : Nat) (w : World), s.size ≤ i + k → s.size ≤ 60 →
    Calls Try.prog 111 #[.string s, .int .i64 i] w fun e w' => ReadS w.heap.size s (cutT k (s.data.toList.drop i)) e w' ∧ Below w.heap.size w w' := by
  intro k
  induction k with
  | zero => intro s i w hk hs; exact readS_end s i w (by omega)
  | succ k ih =>
    intro s i w hk hs
    cases hl : s.data.toList.drop i with
    | nil => rw [cutT_nil]; exact readS_end s i w (drop_end hl)
    | cons c l =>
      have H := at_of hl
      have ih' : ∀ w, Calls Try.prog 111 #[.string s, .int .i64 ((i : Int) + 1)] w fun e w' => ReadS w.heap.size s (cutT k l) e w' ∧ Below w.heap.size w w' := fun w => by
        have := ih s (i + 1) w (by omega) hs
        rw [H.rest] at this
        exact this
      cases h1 : isOne c
      · by_cases h2 : c = 42
        · subst h2; rw [cutT_star]; exact readS_star k s i w l H hs ih'
        · cases h3 : isDig c
          · by_cases h4 : c = 40
            · subst h4; rw [cutT_open]; exact readS_open k s i w l H hs (fun j w hj => ih s j w hj hs) (by omega)
            · rw [cutT_other h1 h2 h3 h4]; exact readS_no s i w c l H hs h1 h2 h3 h4
          · rw [cutT_dig h3]
            rcases dig_cases h3 with rfl | rfl | rfl | rfl
            · exact readS_dig50 k s i w l H hs ih'
            · exact readS_dig51 k s i w l H hs ih'
            · exact readS_dig52 k s i w l H hs ih'
            · exact readS_dig53 k s i w l H hs ih'
      · rw [cutT_one h1]; exact readS_sign s i w c l H hs h1

/-- What l7Of answers. -/
def OfTree (B : Nat) (o : Option Tm) (e : Ending) (w' : World) : Prop :=
  match o with
  | some t => ∃ v, e = .returned (.tuple #[v, .bool true]) ∧ IsT B w' t v
  | none => ∃ v, e = .returned (.tuple #[v, .bool false]) ∧ Ag v
theorem ofTW_boxes {w w1 : World} (hb : Below (readTW w).heap.size (readTW w) w1) :
    BoxT (.int .u8 0) (.slice none 0 0) w.heap.size w1 ∧ BoxT (.int .u8 48) (.slice (some ⟨w.heap.size + 1, 0, none⟩) 0 0) (w.heap.size + 1 + 1) w1 ∧ Below w.heap.size w w1 ∧ w.heap.size + 3 ≤ w1.heap.size := half_start hb
/-- The result's box, at the end. -/
theorem of_end {w w1 : World} {u0 v0 x y p q : Value} (hR : BoxT u0 v0 w.heap.size w1) (hb : Below w.heap.size w w1) :
    ∃ W, W = (((w1.setCell ⟨w.heap.size, 0, none⟩ x).setCell ⟨w.heap.size, 1, none⟩ y).alloc (.cells #[p, q] 100)) ∧ BoxT x y w.heap.size W ∧ Below w.heap.size w W ∧ ∀ B t v, w.heap.size < B → IsT B w1 t v → IsT w.heap.size W t v := by
  obtain ⟨W, e, h1, h2⟩ := none_end (x := x) (y := y) (p := p) (q := q) hR hb
  refine ⟨W, e, h1, h2, fun B t v hB h => ?_⟩
  subst e
  exact IsT.mono (B := B) (by omega) (((h.set hB _).set hB _).step ((Below.refl _ _).alloc (Nat.le_refl _) _))

set_option maxRecDepth 100000 in
set_option maxHeartbeats 1000000 in
theorem l7Of_any (s : ByteArray) (w : World) : Calls Try.prog 85 #[.string s] w fun e w' => OfTree w.heap.size (termOf s.data.toList) e w' ∧ Below w.heap.size w w' := by
  have hsz := size_eq s
  by_cases hk : s.size ≤ 60
  · have hl : s.data.toList.length ≤ 60 := by omega
    have HI := Lib.hid (fun w => readS_any 60 s 0 w (by omega) hk)
    rw [List.drop_zero] at HI
    have HL := Lib.hid hl
    clear hsz hl
    go_enter Try.func85, Try.ntmps85
    go_wp2_with fail
    refine (HI.out _).mono ?_
    rintro e w1 ⟨he, hb⟩
    obtain ⟨c, a, n, m, en, rfl, hx⟩ := he.form
    have HB := Lib.hid (show Below (readTW w).heap.size (readTW w) w1 from hb)
    have HH := Lib.hid (half_start HB.out)
    obtain ⟨c0, c1, f0, f1⟩ := HH.out.1.cells
    obtain ⟨d0, d1, _, _⟩ := HH.out.2.1.cells
    have hlt := HH.out.1.lt
    have hlt2 := HH.out.2.1.lt
    clear he hb
    cases hcut : cutT 60 s.data.toList with
    | none =>
      have HP := Lib.hid (termOf_none HL.out hcut)
      rw [hcut] at hx
      obtain rfl : en = 0 := hx
      clear hcut
      go_wp2_with fail
      obtain ⟨W, hW, hR, hB, _⟩ := of_end (x := .int .u8 48) (y := .slice (some ⟨w.heap.size + 1, 0, none⟩) 0 0) (p := .int .u8 c.toNat) (q := .slice a n m) HH.out.1 HH.out.2.2.1
      rw [← hW]
      clear hW c0 c1 f0 f1
      obtain ⟨q0, q1, _, _⟩ := hR.cells
      refine bodyPost_ret (v := .tuple #[.agg #[.int .u8 48, .slice (some ⟨w.heap.size + 1, 0, none⟩) 0 0], .bool false]) (by simp [results, Try.results85, go_sem, q0, q1]) rfl ⟨?_, hB⟩
      rw [HP.out]
      exact ⟨_, rfl, 48, _, _, _, rfl⟩
    | some p =>
      obtain ⟨t, r⟩ := p
      rw [hcut] at hx
      obtain ⟨hT, hen, hr⟩ := hx
      have HT := Lib.hid hT
      cases r with
      | nil =>
        have HP := Lib.hid (termOf_is HL.out hcut)
        obtain rfl : en = s.size := by simpa using hen
        have hz : ((s.size : Int) == 0) = false := by
          have h1 := (cutT_text _ _ _ _ hcut).1
          have h2 := text_pos t
          have h3 := congrArg List.length h1
          rw [size_eq, List.append_nil] at h3
          have : ¬ (s.size : Int) = 0 := by omega
          simpa using this
        clear hcut hen hr hT
        go_wp2_with fail
        obtain ⟨W, hW, hR, hB, hI⟩ := of_end (x := .int .u8 c.toNat) (y := .slice a n m) (p := .int .u8 c.toNat) (q := .slice a n m) HH.out.1 HH.out.2.2.1
        rw [← hW]
        clear hW c0 c1 f0 f1
        obtain ⟨q0, q1, _, _⟩ := hR.cells
        refine bodyPost_ret (v := .tuple #[.agg #[.int .u8 c.toNat, .slice a n m], .bool true]) (by simp [results, Try.results85, go_sem, q0, q1]) rfl ⟨?_, hB⟩
        rw [HP.out]
        exact ⟨_, rfl, hI _ _ _ (by have := readTW_size w; show w.heap.size < (readTW w).heap.size; omega) HT.out⟩
      | cons x r =>
        have HP := Lib.hid (termOf_more HL.out hcut)
        have hz : ((en : Int) == 0) = false := by
          have h1 := cut_at (s := s) (j := 0) rfl hcut
          have h2 := h1.2.2
          have : ¬ (en : Int) = 0 := by omega
          simpa using this
        have hz2 : ((en : Int) != (s.size : Int)) = true := by
          have : ¬ (en : Int) = s.size := by simp at hen hr; omega
          simpa using this
        clear hcut hen hr hT
        go_wp2_with fail
        obtain ⟨W, hW, hR, hB, _⟩ := of_end (x := .int .u8 48) (y := .slice (some ⟨w.heap.size + 1, 0, none⟩) 0 0) (p := .int .u8 c.toNat) (q := .slice a n m) HH.out.1 HH.out.2.2.1
        rw [← hW]
        clear hW c0 c1 f0 f1
        obtain ⟨q0, q1, _, _⟩ := hR.cells
        refine bodyPost_ret (v := .tuple #[.agg #[.int .u8 48, .slice (some ⟨w.heap.size + 1, 0, none⟩) 0 0], .bool false]) (by simp [results, Try.results85, go_sem, q0, q1]) rfl ⟨?_, hB⟩
        rw [HP.out]
        exact ⟨_, rfl, 48, _, _, _, rfl⟩
  · have HP := Lib.hid (termOf_long (l := s.data.toList) (by omega))
    have hd : (60 : Int) < (s.size : Int) := by omega
    clear hsz
    go_enter Try.func85, Try.ntmps85
    go_wp2_with fail
    refine bodyPost_ret (v := .tuple #[.agg #[.int .u8 48, .slice (some ⟨w.heap.size + 1, 0, none⟩) 0 0], .bool false]) (by simp [results, Try.results85, go_sem]) rfl ⟨?_, ?_⟩
    · rw [HP.out]; exact ⟨_, rfl, 48, _, _, _, rfl⟩
    · exact (((Below.refl w.heap.size w).alloc (Nat.le_refl _) _).alloc (by simp) _).alloc (by simp; omega) _

theorem OfTree.form {B : Nat} {o : Option Tm} {e : Ending} {w' : World} (h : OfTree B o e w') : ∃ c : UInt8, ∃ a n k, e = .returned (.tuple #[.agg #[.int .u8 c.toNat, .slice a n k], .bool o.isSome]) ∧ ∀ t, o = some t → IsT B w' t (.agg #[.int .u8 c.toNat, .slice a n k]) := by
  cases o with
  | none => obtain ⟨v, rfl, c, a, n, k, rfl⟩ := h; exact ⟨c, a, n, k, rfl, fun t ht => by cases ht⟩
  | some t =>
    obtain ⟨v, rfl, h1⟩ := h
    obtain ⟨c, a, n, k, rfl⟩ := h1.ag
    exact ⟨c, a, n, k, rfl, fun u hu => by cases hu; exact h1⟩
set_option maxHeartbeats 400000 in
theorem specTermIn (s : ByteArray) (w : World) : Calls Try.prog 36 #[.string s] w fun e w' => e = .returned (.bool (termOf s.data.toList).isSome) ∧ Below w.heap.size w w' := by
  go_enter Try.func36, Try.ntmps36
  go_wp2_with fail
  refine (l7Of_any s _).mono ?_
  rintro e w1 ⟨he, hb⟩
  obtain ⟨c, a, n, k, rfl, _⟩ := he.form
  clear he
  have HB := Lib.hid (hb.alloc hb.size (.cells #[.int .u8 c.toNat, .slice a n k] 100))
  go_wp2_with fail
  go_ret
  exact ⟨rfl, HB.out⟩

/-- What a part of a tree is, in the cells of its block. -/
structure PartT (w : World) (g i : Nat) (c : UInt8) (a : Option Addr) (n k : Nat) : Prop where
  p : w.cell? ⟨g, i, none⟩ = some (.int .u8 c.toNat)
  q : w.cell? ⟨g, i + 1, none⟩ = some (.slice a n k)
  lt : g < w.heap.size
theorem part_of {B : Nat} {w : World} {g i : Nat} {x : Value} {t : Tm} (h : HasT w g i x) (hx : IsT B w t x) : ∃ c a n k, x = .agg #[.int .u8 (c : UInt8).toNat, .slice a n k] ∧ PartT w g i c a n k := by
  obtain ⟨c, a, n, k, rfl⟩ := hx.ag
  obtain ⟨p, q, e, h1, h2⟩ := h
  simp only [Value.agg.injEq, Array.mk.injEq, List.cons.injEq, and_true] at e
  obtain ⟨rfl, rfl⟩ := e
  exact ⟨c, a, n, k, rfl, h1, h2, lt_of_some h1⟩
theorem PartT.alloc {w : World} {g i : Nat} {c : UInt8} {a : Option Addr} {n k : Nat} (h : PartT w g i c a n k) (o : Obj) : PartT (w.alloc o) g i c a n k :=
  ⟨(World.cell?_alloc_past _ _ _ (by exact h.lt)).trans h.p, (World.cell?_alloc_past _ _ _ (by exact h.lt)).trans h.q, by have := h.lt; simp; omega⟩
theorem PartT.step {w w' : World} {g i : Nat} {c : UInt8} {a : Option Addr} {n k : Nat} (h : PartT w g i c a n k) (hb : Below w.heap.size w w') : PartT w' g i c a n k :=
  ⟨(hb.cell (p := ⟨g, i, none⟩) h.lt).trans h.p, (hb.cell (p := ⟨g, i + 1, none⟩) h.lt).trans h.q, Nat.lt_of_lt_of_le h.lt hb.size⟩

end Go.Proofs.Ytiphooodijbhiaa
