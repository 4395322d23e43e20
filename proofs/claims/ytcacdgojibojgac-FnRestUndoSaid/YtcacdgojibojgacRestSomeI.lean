/-
  The walks of the program's RestSome and RestAll.
-/
import Derived.Test.YtcacdgojibojgacByNumI
import Derived.Test.YtcacdgojibojgacFirst
import Derived.Test.YtcacdgojibojgacText
import Derived.Test.YtcacdgojibojgacOtherI
set_option linter.unusedVariables false
set_option linter.unusedSimpArgs false
namespace Go.Proofs.Ytcacdgojibojgac
open Go.RowKit

theorem firstRow_put {w : World} {g : Nat} {c : Nat → Bool} (h : Row180 w g (firstV c)) (k : Nat) (b : Bool) : Row180 (w.setCell ⟨g, k, none⟩ (.bool b)) g (firstV (put c k b)) := by
  unfold Row180
  rw [heap_setCell_same w _ _ _ _ _ h]
  congr 2
  refine firstV_of _ _ (by simpa using firstV_size c) fun i hi => ?_
  unfold put
  rw [Array.getElem?_setIfInBounds]
  have hs := firstV_size c
  by_cases e : k = i
  · subst e; rw [if_pos rfl, if_pos (by omega), if_pos rfl]
  · rw [if_neg e, if_neg (fun x => e x.symm)]; exact firstV_at c i hi
theorem firstRow_cell {w : World} {g : Nat} {c : Nat → Bool} (h : Row180 w g (firstV c)) {k : Nat} (hk : k < 180) : w.cell? ⟨g, k, none⟩ = some (.bool (c k)) := by
  rw [cell_of_row w _ _ _ _ _ h]; exact firstV_at c k hk
theorem firstRow_free {w : World} {g : Nat} {c : Nat → Bool} (h : Row180 w g (firstV c)) (k : Nat) : w.frozen? ⟨g, k, none⟩ = false := frozen_of_row w _ _ _ _ h
theorem firstRow_lt {w : World} {g : Nat} {c : Nat → Bool} (h : Row180 w g (firstV c)) : g < w.heap.size := lt_of_some (firstRow_cell h (k := 0) (by decide))
theorem firstRow_congr {w : World} {g : Nat} {c d : Nat → Bool} (h : Row180 w g (firstV c)) (e : ∀ i, i < 180 → c i = d i) : Row180 w g (firstV d) := by
  rw [← firstV_of d (firstV c) (firstV_size c) fun i hi => by rw [firstV_at c i hi, e i hi]]
  exact h
theorem firstRow_new (w : World) : Row180 (w.alloc (.cells Try.zeroCells82 82)) w.heap.size (firstV fun _ => false) := by
  rw [← firstV_of (fun _ => false) Try.zeroCells82 zeroFirst_size zeroFirst_at]
  exact heap_alloc_new w _

/-- The numbers of the first j rests. -/
def accL (f : Nat → Bool) (l : List Nat) (j n : Nat) : Bool := (l.take j).any fun i => downF f i n
theorem accL_next {f : Nat → Bool} {l : List Nat} {j : Nat} (h : j < l.length) (n : Nat) : accL f l (j + 1) n = (accL f l j n || downF f (l.getD j 0) n) := by
  unfold accL
  rw [List.take_succ_eq_append_getElem h, List.any_append, List.getD_eq_getElem?_getD, List.getElem?_eq_getElem h]
  simp
theorem accL_all {f g : Nat → Bool} {m q m2 q2 : Nat} (hf : Tidy f m q) (hg : Tidy g m2 q2) : accL f (metL g m q (max m m2 + q * q2) (m + q)) (metL g m q (max m m2 + q * q2) (m + q)).length = someQ f g := by
  funext x
  have hP : 0 < q * q2 := Nat.mul_pos hf.pos hg.pos
  have h1 : ∀ k, max m m2 ≤ k → f (k + q * q2) = f k := fun k hk => by rw [Nat.mul_comm]; exact per_rounds hf.per q2 k (by omega)
  have h2 : ∀ k, max m m2 ≤ k → g (k + q * q2) = g k := fun k hk => per_rounds hg.per q k (by omega)
  have key : accL f (metL g m q (max m m2 + q * q2) (m + q)) (metL g m q (max m m2 + q * q2) (m + q)).length x = true ↔ someQ f g x = true := by
    rw [someQ_early hP h1 h2 x]
    unfold accL
    rw [List.take_length, List.any_eq_true]
    constructor
    · rintro ⟨i, hi, hx⟩
      unfold metL at hi
      rw [List.mem_filter] at hi
      obtain ⟨k, hk, hgk, hp⟩ := metF_iff.1 hi.2
      refine ⟨k, hk, hgk, ?_⟩
      have : downF f i x = true := hx
      rw [← hp, down_place hf] at this
      exact this
    · rintro ⟨k, hk, hgk, hx⟩
      refine ⟨placeF m q k, ?_, ?_⟩
      · unfold metL
        rw [List.mem_filter]
        exact ⟨List.mem_range.2 (place_lt hf.pos k), metF_iff.2 ⟨k, hk, hgk, rfl⟩⟩
      · show downF f (placeF m q k) x = true
        rw [down_place hf]; exact hx
  cases e : someQ f g x
  · cases e2 : accL f (metL g m q (max m m2 + q * q2) (m + q)) (metL g m q (max m m2 + q * q2) (m + q)).length x
    · rfl
    · rw [key.1 e2] at e; cases e
  · exact key.2 e

/-- The worlds of RestSome's loops. -/
structure SomeAt (f : Nat → Bool) (m q : Nat) (a : Option Addr) (n : Nat) (l : List Nat) (GA : Nat) (c : Nat → Bool) (w wr : World) : Prop where
  list : ParList wr a n f m q l
  row : Row180 wr GA (firstV c)
  below : Below w.heap.size w wr
  ga : w.heap.size ≤ GA
  notL : ∀ b, a = some b → b.block ≠ GA
section
variable {f : Nat → Bool} {m q : Nat} {a : Option Addr} {n : Nat} {l : List Nat} {GA : Nat} {c d : Nat → Bool} {w wr w' : World}
theorem SomeAt.step (h : SomeAt f m q a n l GA c w wr) (hb : Below wr.heap.size wr w') : SomeAt f m q a n l GA c w w' :=
  ⟨h.list.step hb, (hb.block GA (firstRow_lt h.row)).trans h.row, h.below.trans (hb.mono h.below.size), h.ga, h.notL⟩
theorem SomeAt.congr (h : SomeAt f m q a n l GA c w wr) (e : ∀ i, i < 180 → c i = d i) : SomeAt f m q a n l GA d w wr := { h with row := firstRow_congr h.row e }
theorem SomeAt.put (h : SomeAt f m q a n l GA c w wr) (k : Nat) (b : Bool) (e : ∀ i, i < 180 → Proofs.Ytcacdgojibojgac.put c k b i = d i) : SomeAt f m q a n l GA d w (wr.setCell ⟨GA, k, none⟩ (.bool b)) :=
  ⟨parList_other h.list (fun b hb => h.notL b hb) _, firstRow_congr (firstRow_put h.row k b) e, h.below.setCell h.ga _, h.ga, h.notL⟩
end
/-- .. with a box of a rest. -/
structure SomeIn (f : Nat → Bool) (m q : Nat) (a : Option Addr) (n : Nat) (l : List Nat) (GA PB i : Nat) (c : Nat → Bool) (w wr : World) : Prop where
  at_ : SomeAt f m q a n l GA c w wr
  p0 : wr.cell? ⟨PB, 0, none⟩ = some (.string (tailT f m i))
  p1 : wr.cell? ⟨PB, 1, none⟩ = some (.string (ringT f m q i))
  pb : PB ≠ GA
section
variable {f : Nat → Bool} {m q : Nat} {a : Option Addr} {n : Nat} {l : List Nat} {GA PB i : Nat} {c d : Nat → Bool} {w wr w' : World}
theorem someIn_start (h : SomeAt f m q a n l GA c w wr) (i : Nat) : SomeIn f m q a n l GA wr.heap.size i c w (wr.alloc (.cells #[.string (tailT f m i), .string (ringT f m q i)] 84)) :=
  ⟨h.step ((Below.refl _ _).alloc (Nat.le_refl _) _), by rw [World.cell?_alloc_at _ _ _ _ rfl]; rfl, by rw [World.cell?_alloc_at _ _ _ _ rfl]; rfl, fun e => by have := firstRow_lt h.row; omega⟩
theorem SomeIn.step (h : SomeIn f m q a n l GA PB i c w wr) (hb : Below wr.heap.size wr w') : SomeIn f m q a n l GA PB i c w w' :=
  ⟨h.at_.step hb, (hb.cell (p := ⟨PB, 0, none⟩) (lt_of_some h.p0)).trans h.p0, (hb.cell (p := ⟨PB, 1, none⟩) (lt_of_some h.p0)).trans h.p1, h.pb⟩
theorem SomeIn.congr (h : SomeIn f m q a n l GA PB i c w wr) (e : ∀ i, i < 180 → c i = d i) : SomeIn f m q a n l GA PB i d w wr := ⟨h.at_.congr e, h.p0, h.p1, h.pb⟩
theorem SomeIn.put (h : SomeIn f m q a n l GA PB i c w wr) (k : Nat) (b : Bool) (e : ∀ i, i < 180 → Proofs.Ytcacdgojibojgac.put c k b i = d i) : SomeIn f m q a n l GA PB i d w (wr.setCell ⟨GA, k, none⟩ (.bool b)) :=
  ⟨h.at_.put k b e, (World.cell?_of_block (heap_setCell_other wr _ PB _ h.pb)).trans h.p0, (World.cell?_of_block (heap_setCell_other wr _ PB _ h.pb)).trans h.p1, h.pb⟩
end

/-- What fill does, whatever the text. -/
theorem fill_gen (s : ByteArray) (b : Nat) (m0 : Int) (w : World) (hs : s.size ≤ 1048576) (hL : LibAt m0 w) (hb : IsMapAt w b) :
    Calls Try.prog 85 #[.map (some b), .string s] w fun e w' =>
      ∃ a n c x, e = .returned (.tuple #[.agg #[.slice a n c, .int .i64 x], .bool (okS s)]) ∧ IsMapAt w' b ∧ Else b w w' := by
  cases ho : okS s
  · exact (fill_off s b 0 0 (fun _ => false) m0 w hs hL ho hb).mono fun e w' ⟨he, ht, hel⟩ => ⟨none, 0, 0, 0, he, ht.isMap, hel⟩
  · obtain ⟨m, q, ht, hm, hq⟩ := tidy_there ho
    exact (fill_on s b m q m0 w hs hL ho ht hm hq hb).mono fun e w' ⟨a, c, he, _, htab, hel⟩ => ⟨a, _, c, _, he, htab.isMap, hel⟩

set_option maxHeartbeats 1000000 in
theorem implSome_off (s t : ByteArray) (m0 : Int) (w : World) (hs : s.size ≤ 1048576) (ht : t.size ≤ 1048576) (hL : LibAt m0 w) (h : (okS s && okS t) = false) :
    Calls Try.prog 39 #[.string s, .string t] w fun e w' => e = .returned (.tuple #[.string ⟨#[]⟩, .bool false]) ∧ Below w.heap.size w w' := by
  have hmm := @run_makeMap Try.prog
  have hcall := fill_gen s w.heap.size m0 (w.alloc (.map #[] 0)) hs (hL.alloc _) (isMap_made w)
  have HL := Lib.hid hL
  have HO := Lib.hid h
  clear hL h
  go_enter Try.func39, Try.ntmps39
  go_wp2_with fail
  refine hcall.mono ?_
  rintro e w1 ⟨a, n, c, x, rfl, htab, hels⟩
  have HB := Lib.hid ((below_made hels).alloc (below_made hels).size (.cells #[.slice a n c, .int .i64 x] 105))
  have hcall2 := fill_gen t w.heap.size m0 (w1.alloc (.cells #[.slice a n c, .int .i64 x] 105)) ht (HL.out.below HB.out) (htab.step ((Below.refl _ _).alloc (Nat.le_refl _) _))
  have hlt := htab.lt
  clear htab hels hcall
  go_wp2_with fail
  refine hcall2.mono ?_
  rintro e w2 ⟨a2, n2, c2, x2, rfl, htab2, hels2⟩
  have HB2 := Lib.hid (hels2.below HB.out (Nat.le_refl _) (by simp; omega))
  have HB3 := Lib.hid (HB2.out.alloc HB2.out.size (.cells #[.slice a2 n2 c2, .int .i64 x2] 105))
  clear htab2 hels2 hcall2
  cases h1 : okS s
  · go_wp2
    go_ret2
    exact ⟨rfl, HB3.out⟩
  · have h2 : okS t = false := by have := HO.out; rw [h1] at this; exact this
    rw [h2]
    go_wp2
    go_ret2
    exact ⟨rfl, HB3.out⟩

set_option maxRecDepth 100000 in
set_option maxHeartbeats 2000000 in
theorem implSome_on (s t : ByteArray) (m0 : Int) (w : World) (hs : s.size ≤ 1048576) (ht : t.size ≤ 1048576) (hL : LibAt m0 w) (h1 : okS s = true) (h2 : okS t = true) :
    Calls Try.prog 39 #[.string s, .string t] w fun e w' => MakeEnd true (someQ (fS s) (fS t)) e ∧ Below w.heap.size w w' := by
  obtain ⟨m, q, hf, hm, hq⟩ := tidy_there h1
  obtain ⟨m2, q2, hg, hm2, hq2⟩ := tidy_there h2
  have hmm := @run_makeMap Try.prog
  have hcall := fill_on s w.heap.size m q m0 (w.alloc (.map #[] 0)) hs (hL.alloc _) h1 hf hm hq (isMap_made w)
  have HL := Lib.hid hL
  have HF := Lib.hid hf
  have HG := Lib.hid hg
  clear hL hf hg
  go_enter Try.func39, Try.ntmps39
  go_wp2_with fail
  refine hcall.mono ?_
  rintro e w1 ⟨a, c, rfl, hown, htab, hels⟩
  have HB := Lib.hid ((below_made hels).alloc (below_made hels).size (.cells #[.slice a (m + q : Nat) c, .int .i64 m] 105))
  have hcall2 := fill_on t w.heap.size m2 q2 m0 (w1.alloc (.cells #[.slice a (m + q : Nat) c, .int .i64 m] 105)) ht (HL.out.below HB.out) h2 HG.out hm2 hq2 (htab.isMap.step ((Below.refl _ _).alloc (Nat.le_refl _) _))
  have hlt := htab.isMap.lt
  have HO := Lib.hid (hown.alloc (.cells #[.slice a (m + q : Nat) c, .int .i64 m] 105))
  clear htab hels hcall hown
  go_wp2_with fail
  refine hcall2.mono ?_
  rintro e w2 ⟨a2, c2, rfl, hown2, htab2, hels2⟩
  have HB2 := Lib.hid (hels2.below HB.out (Nat.le_refl _) (by simp; omega))
  have hO2 := hels2.own HO.out (fun e => by have := (HO.out.lt _ e).1; rw [World.size_alloc] at this; omega)
  have hsz2 : w1.heap.size + 1 ≤ w2.heap.size := by have := hels2.size; rw [World.size_alloc] at this; exact this
  have k0 : w2.cell? ⟨w1.heap.size, 0, none⟩ = some (.slice a (m + q : Nat) c) := by
    rw [hels2.cell (p := ⟨w1.heap.size, 0, none⟩) (show w1.heap.size ≠ w.heap.size by omega) (by simp), World.cell?_alloc_at _ _ _ _ rfl]; rfl
  have k1 : w2.cell? ⟨w1.heap.size, 1, none⟩ = some (.int .i64 m) := by
    rw [hels2.cell (p := ⟨w1.heap.size, 1, none⟩) (show w1.heap.size ≠ w.heap.size by omega) (by simp), World.cell?_alloc_at _ _ _ _ rfl]; rfl
  have b1 := (Below.refl w2.heap.size w2).alloc (Nat.le_refl _) (.cells #[.slice a2 (m2 + q2 : Nat) c2, .int .i64 m2] 105)
  have b2 := b1.alloc b1.size (.cells Try.zeroCells82 82)
  have hr := firstRow_new (w2.alloc (.cells #[.slice a2 (m2 + q2 : Nat) c2, .int .i64 m2] 105))
  rw [World.size_alloc] at hr
  have x0 := (b2.cell (p := ⟨w1.heap.size, 0, none⟩) (show w1.heap.size < w2.heap.size by omega)).trans k0
  have x1 := (b2.cell (p := ⟨w1.heap.size, 1, none⟩) (show w1.heap.size < w2.heap.size by omega)).trans k1
  have y0 : ((w2.alloc (.cells #[.slice a2 (m2 + q2 : Nat) c2, .int .i64 m2] 105)).alloc (.cells Try.zeroCells82 82)).cell? ⟨w2.heap.size, 0, none⟩ = some (.slice a2 (m2 + q2 : Nat) c2) := by
    rw [World.cell?_alloc_past _ _ _ (by simp), World.cell?_alloc_at _ _ _ _ rfl]; rfl
  have y1 : ((w2.alloc (.cells #[.slice a2 (m2 + q2 : Nat) c2, .int .i64 m2] 105)).alloc (.cells Try.zeroCells82 82)).cell? ⟨w2.heap.size, 1, none⟩ = some (.int .i64 m2) := by
    rw [World.cell?_alloc_past _ _ _ (by simp), World.cell?_alloc_at _ _ _ _ rfl]; rfl
  have HP1 := Lib.hid ((parList_own (f := fS s) (l := List.range (m + q)) hO2).step b2)
  have HP2 := Lib.hid ((parList_own (f := fS t) (l := List.range (m2 + q2)) hown2).step b2)
  have HB3 := Lib.hid (HB2.out.trans (b2.mono HB2.out.size))
  have HR := Lib.hid hr
  have hgs : w2.heap.size + 1 < ((w2.alloc (.cells #[.slice a2 (m2 + q2 : Nat) c2, .int .i64 m2] 105)).alloc (.cells Try.zeroCells82 82)).heap.size := by simp
  have hga : w.heap.size ≤ w2.heap.size + 1 := by have := HB2.out.size; omega
  clear hown2 htab2 hels2 hcall2 hO2 k0 k1 b1 b2 hr hlt
  go_wp2_with fail
  generalize (w2.alloc (.cells #[.slice a2 (m2 + q2 : Nat) c2, .int .i64 m2] 105)).alloc (.cells Try.zeroCells82 82) = w3 at *
  refine (byNumbers_any (fS s) (fS t) m q m2 q2 c c2 a a2 w3 HF.out HG.out hm hq hm2 hq2 HP1.out HP2.out).mono ?_
  rintro e w4 ⟨a', n, c', rfl, hlist, hblk, hb4⟩
  have hn : n ≤ 120 := by have := hlist.len; have h3 := metL_le (fS t) m q (max m m2 + q * q2) (m + q); omega
  have HS := Lib.hid (SomeAt.mk hlist ((hb4.block _ hgs).trans HR.out) (HB3.out.trans (hb4.mono HB3.out.size)) hga (fun b hb => by have := hblk b hb; omega))
  have HACC := Lib.hid (accL_all HF.out HG.out)
  obtain ⟨L, hL⟩ : ∃ L, L = metL (fS t) m q (max m m2 + q * q2) (m + q) := ⟨_, rfl⟩
  rw [← hL] at HS HACC
  have hlen : L.length = n := by rw [hL]; exact hlist.len
  rw [hlen] at HACC
  have HLEN := Lib.hid hlen
  clear hlist hblk hb4 hL hlen x0 x1 y0 y1
  go_wp2
  go_loopw [38] (fun i wr => ∃ j : Nat, j ≤ n ∧ i = .int .i64 j ∧ SomeAt (fS s) m q a' n L (w2.heap.size + 1) (accL (fS s) L j) w wr) (fun i _ => n - (intOf i).toNat)
  case atStart => exact ⟨0, Nat.zero_le _, rfl, HS.out.congr fun _ _ => rfl⟩
  case round =>
    obtain ⟨j, hj, rfl, hA⟩ := hrel
    by_cases hlt : j < n
    · obtain ⟨G, rfl, hG, s0, s1⟩ := hA.list.at hlt
      have hltI : (j : Int) < (n : Int) := by omega
      have hlI : decide ((j : Int) < (n : Int)) = true := decide_eq_true hltI
      obtain ⟨i, hi⟩ : ∃ i, i = L.getD j 0 := ⟨_, rfl⟩
      rw [← hi] at s0 s1
      have HN := Lib.hid (fun x => accL_next (f := fS s) (l := L) (j := j) (by rw [HLEN.out]; exact hlt) x)
      rw [← hi] at HN
      have HI0 := Lib.hid (someIn_start hA i)
      clear hA hi
      go_wp2
      go_loopw [42] (fun v wr2 => ∃ k : Nat, k ≤ 180 ∧ v = .int .i64 k ∧ SomeIn (fS s) m q (some ⟨G, 0, none⟩) n L (w2.heap.size + 1) wr.heap.size i (mix (accL (fS s) L j) (accL (fS s) L (j + 1)) 0 k) w wr2) (fun v _ => 180 - (intOf v).toNat)
      case atStart => exact ⟨0, Nat.zero_le _, rfl, HI0.out.congr fun x _ => mix_zero (fun y hy => absurd hy (Nat.not_lt_zero _)) x⟩
      case round =>
        obtain ⟨k, hk, rfl, hI⟩ := hrel
        by_cases hkl : k < 180
        · have r0 := firstRow_cell hI.at_.row hkl
          have rf := firstRow_free hI.at_.row k
          have em : mix (accL (fS s) L j) (accL (fS s) L (j + 1)) 0 k k = accL (fS s) L j k := by unfold mix; rw [if_neg (by omega)]
          rw [em] at r0
          cases hc : accL (fS s) L j k
          · rw [hc] at r0
            have q0 := hI.p0
            have q1 := hI.p1
            obtain ⟨b, hb⟩ : ∃ b, downF (fS s) i k = b := ⟨_, rfl⟩
            have hcall : ∀ W : World, Calls Try.prog 87 #[.agg #[.string (tailT (fS s) m i), .string (ringT (fS s) m q i)], .int .i64 k] W fun e w' => e = .returned (.bool b) ∧ Below W.heap.size W w' := fun W => by
              have := has_any (tailT (fS s) m i) (ringT (fS s) m q i) k W (by rw [tailT_size]; omega) (by rw [ringT_size]; exact hq) (by rw [ringT_size]; exact HF.out.pos) (by omega)
              rw [hasI_nat, rest_has HF.out, hb] at this
              exact this
            have HPUT : Hid (∀ x, x < 180 → put (mix (accL (fS s) L j) (accL (fS s) L (j + 1)) 0 k) k b x = mix (accL (fS s) L j) (accL (fS s) L (j + 1)) 0 (k + 1) x) := Lib.hid fun x _ => by
              have := mix_put (c := accL (fS s) L j) (d := accL (fS s) L (j + 1)) (o := 0) (k := k) b (by rw [Nat.zero_add, HN.out, hc, hb]; rfl) x
              rw [Nat.zero_add] at this
              exact this
            have HC := Lib.hid hcall
            have HI := Lib.hid hI
            clear hI hc hb hcall em
            go_wp2_with fail
            refine (HC.out _).mono ?_
            rintro e w6 ⟨rfl, hb6⟩
            have HI6 := Lib.hid (HI.out.step hb6)
            have r1 := firstRow_cell (HI.out.step hb6).at_.row hkl
            have rf1 := firstRow_free (HI.out.step hb6).at_.row k
            clear hb6 r0 rf q0 q1
            go_wp2
            go_roundw
            case rel => exact ⟨k + 1, by omega, by go_num, HI6.out.put k b HPUT.out⟩
            case measure => simp [intOf]; omega
          · rw [hc] at r0
            have HPUT : Hid (∀ x, x < 180 → put (mix (accL (fS s) L j) (accL (fS s) L (j + 1)) 0 k) k true x = mix (accL (fS s) L j) (accL (fS s) L (j + 1)) 0 (k + 1) x) := Lib.hid fun x _ => by
              have := mix_put (c := accL (fS s) L j) (d := accL (fS s) L (j + 1)) (o := 0) (k := k) true (by rw [Nat.zero_add, HN.out, hc]; rfl) x
              rw [Nat.zero_add] at this
              exact this
            have HI := Lib.hid hI
            clear hI hc em
            go_wp2
            go_roundw
            case rel => exact ⟨k + 1, by omega, by go_num, HI.out.put k true HPUT.out⟩
            case measure => simp [intOf]; omega
        · obtain rfl : k = 180 := by omega
          have HI : Hid (SomeAt (fS s) m q (some ⟨G, 0, none⟩) n L (w2.heap.size + 1) (accL (fS s) L (j + 1)) w _) := Lib.hid (hI.at_.congr fun x hx => by unfold mix; rw [if_pos (by omega)])
          clear hI
          go_wp2
          go_roundw
          case rel => exact ⟨j + 1, by omega, by go_num, HI.out⟩
          case measure => simp [intOf]; omega
    · obtain rfl : j = n := by omega
      obtain ⟨m3, q3, hT, hm3, hq3⟩ := tidy_per (g := someQ (fS s) (fS t)) HF.out.pos (fun x hx => someQ_round HF.out.per x hx)
      have HT := Lib.hid hT
      have hrow := hA.row
      rw [HACC.out] at hrow
      have HR2 := Lib.hid hrow
      have HB4 := Lib.hid hA.below
      clear hA hT hrow
      go_wp2_with (first
        | (refine wpList_load_row rfl 82 _ rfl (w2.heap.size + 1) rfl 82 (firstV (someQ (fS s) (fS t))) (0, 0) _ HR2.out Try.underlying82 rfl (by rw [firstV_size]; exact Try.infoFirst) ?_)
        | fail)
      refine (text_any (someQ (fS s) (fS t)) m3 q3 _ HT.out (by omega) (by omega)).mono ?_
      rintro e w7 ⟨rfl, hb7⟩
      have HB7 := Lib.hid (below_step HB4.out hb7)
      clear hb7
      go_wp2
      go_ret2
      exact ⟨⟨_, true, rfl, And.intro (fun _ => .inl ⟨rfl, m3, q3, HT.out, by omega, by omega, rfl⟩) (fun h => by cases h)⟩, HB7.out⟩

theorem implSome (s t : ByteArray) (m0 : Int) (w : World) (hs : s.size ≤ 1048576) (ht : t.size ≤ 1048576) (hL : LibAt m0 w) :
    Calls Try.prog 39 #[.string s, .string t] w fun e w' => MakeEnd (okS s && okS t) (someQ (fS s) (fS t)) e ∧ Below w.heap.size w w' := by
  cases h : (okS s && okS t)
  · exact (implSome_off s t m0 w hs ht hL h).mono fun e w' ⟨he, hb⟩ => ⟨by rw [he]; exact makeEnd_off rfl, hb⟩
  · rw [Bool.and_eq_true] at h
    exact implSome_on s t m0 w hs ht hL h.1 h.2

theorem made_told {ok : Bool} {f : Nat → Bool} {T : ByteArray} {b : Bool} {m q : Nat} (h : MakeIs ok f T b) (ht : ok = true → Tidy f m q ∧ m ≤ 60 ∧ q ≤ 60) : T.size ≤ 1048576 ∧ okS T = ok ∧ b = ok ∧ (ok = true → fS T = f) := by
  cases ok
  · obtain ⟨rfl, rfl⟩ := h.2 rfl
    exact ⟨by decide, by kernel_rfl, rfl, fun h => by cases h⟩
  · obtain ⟨h1, h2, h3⟩ := ht rfl
    obtain ⟨rfl, rfl⟩ := made_tidy h1 h2 h3 (h.1 rfl)
    have hT : TidyText f ⟨(textOf (part f 0 m) (part f m q)).toArray⟩ := ⟨m, q, h1, h2, h3, rfl⟩
    refine ⟨?_, hT.told.ok, rfl, fun _ => hT.told.set⟩
    rw [set_size hT.told.ok]
    have := setT_le hT.told.ok
    have := setR_le hT.told.ok
    omega
theorem not_tidy {f : Nat → Bool} {m q : Nat} (h : Tidy f m q) : Tidy (fun n => !f n) m q := by
  refine ⟨h.pos, fun n hn => by show (!f (n + q)) = !f n; rw [h.per n hn], fun d hd => h.ring d ⟨hd.1, ?_⟩, ?_⟩
  · obtain ⟨_, N, hN⟩ := hd
    exact ⟨N, fun n hn => by have : (!f (n + d)) = !f n := hN n hn; cases h1 : f (n + d) <;> cases h2 : f n <;> rw [h1, h2] at this <;> first | rfl | cases this⟩
  · rcases h.tail with h0 | h0
    · exact .inl h0
    · exact .inr fun e => h0 (by have : (!f (m - 1)) = !f (m - 1 + q) := e; cases h1 : f (m - 1) <;> cases h2 : f (m - 1 + q) <;> rw [h1, h2] at this <;> first | rfl | cases this)

set_option maxHeartbeats 1000000 in
theorem implAll (s t : ByteArray) (m0 : Int) (w : World) (hs : s.size ≤ 1048576) (ht : t.size ≤ 1048576) (hL : LibAt m0 w) :
    Calls Try.prog 40 #[.string s, .string t] w fun e w' => MakeEnd (okS s && okS t) (allQ (fS s) (fS t)) e ∧ Below w.heap.size w w' := by
  have HL := Lib.hid hL
  clear hL
  have hcall := implOther s m0 w hs HL.out
  go_enter Try.func40, Try.ntmps40
  go_wp2_with fail
  refine hcall.mono ?_
  rintro e w1 ⟨⟨T, b, rfl, hm⟩, hb1⟩
  obtain ⟨m, q, hmq⟩ : ∃ m q, okS s = true → Tidy (fS s) m q ∧ m ≤ 60 ∧ q ≤ 60 := by
    cases h : okS s
    · exact ⟨0, 0, fun h => by cases h⟩
    · obtain ⟨m, q, h1, h2, h3⟩ := tidy_there h
      exact ⟨m, q, fun _ => ⟨h1, h2, h3⟩⟩
  obtain ⟨hTs, hTo, rfl, hTf⟩ := made_told hm (fun h => ⟨not_tidy (hmq h).1, (hmq h).2⟩)
  have hcall2 := implSome T t m0 w1 hTs ht (HL.out.below hb1)
  have HB1 := Lib.hid hb1
  have HTF := Lib.hid hTf
  have HMQ := Lib.hid hmq
  rw [hTo] at hcall2
  clear hb1 hm hcall hTf hmq
  go_wp2_with fail
  refine hcall2.mono ?_
  rintro e w2 ⟨⟨U, b2, rfl, hm2⟩, hb2⟩
  have HB2 := Lib.hid (below_step HB1.out hb2)
  obtain ⟨m3, q3, h3⟩ : ∃ m3 q3, (okS s && okS t) = true → Tidy (someQ (fS T) (fS t)) m3 q3 ∧ m3 ≤ 60 ∧ q3 ≤ 60 := by
    cases h : (okS s && okS t)
    · exact ⟨0, 0, fun h => by cases h⟩
    · rw [Bool.and_eq_true] at h
      have hk := HMQ.out h.1
      have hn := not_tidy hk.1
      rw [← HTF.out h.1] at hn
      obtain ⟨m3, q3, k1, k2, k3⟩ := tidy_per (g := someQ (fS T) (fS t)) hn.pos (fun x hx => someQ_round hn.per x hx)
      exact ⟨m3, q3, fun _ => ⟨k1, by omega, by omega⟩⟩
  obtain ⟨hUs, hUo, rfl, hUf⟩ := made_told hm2 h3
  have hcall3 := implOther U m0 w2 hUs (HL.out.below HB2.out)
  rw [hUo] at hcall3
  have HALL : Hid ((okS s && okS t) = true → (fun n => !fS U n) = allQ (fS s) (fS t)) := Lib.hid fun h => by
    have hsok : okS s = true := by rw [Bool.and_eq_true] at h; exact h.1
    funext n
    show (!fS U n) = allQ (fS s) (fS t) n
    unfold allQ
    rw [hUf h, HTF.out hsok]
  clear hb2 hm2 hcall2 h3 hUf
  go_wp2_with fail
  refine hcall3.mono ?_
  rintro e w3 ⟨⟨V, b3, rfl, hm3⟩, hb3⟩
  have HB3 := Lib.hid (below_step HB2.out hb3)
  have HV : Hid (MakeIs (okS s && okS t) (allQ (fS s) (fS t)) V b3) := Lib.hid (by
    cases h : (okS s && okS t)
    · rw [h] at hm3
      exact And.intro (fun h => by cases h) hm3.2
    · rw [← HALL.out h, ← h]; exact hm3)
  clear hb3 hm3 hcall3
  go_wp2
  go_ret2
  exact ⟨⟨V, b3, rfl, HV.out⟩, HB3.out⟩
end Go.Proofs.Ytcacdgojibojgac
