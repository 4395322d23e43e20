/-
  The iterator over the numbers of numbers, each with how many such ways lead to each number (byLength), of the program.
-/
import Derived.Test.YtojjfkabepkhdaaWayTabI
import Derived.Test.YtojjfkabepkhdaaWayVal
import Derived.Test.YtojjfkabepkhdaaRangeQ
set_option linter.unusedVariables false
set_option linter.unusedSimpArgs false
namespace Go.Proofs.Ytojjfkabepkhdaa
open Go.RowKit

theorem part_cut (f : Nat → Bool) (k : Nat) {n M : Nat} (h : n < M) : sumP f (cutF (partF f k) M) n n = partF f (k + 1) n := by
  show _ = sumP f (partF f k) n n
  exact sumP_congr n (fun y a b => by unfold cutF; rw [if_pos (by omega)])

/-- Cells at or beyond H lie as they lay. -/
def KeepsHi (H : Nat) (W V : World) : Prop := ∀ (k : Nat) (cur : Array Value) (t : TypeId) (z : Nat × Nat), H ≤ k → W.heap[k]? = some (.cells cur t z) → V.heap[k]? = some (.cells cur t z)
theorem KeepsHi.refl (H : Nat) (W : World) : KeepsHi H W W := fun _ _ _ _ _ h => h
theorem keepsHi_t {H : Nat} {A B C : World} (h : KeepsHi H A B) (k : KeepsHi H B C) : KeepsHi H A C := fun j c t z hj e => k j c t z hj (h j c t z hj e)
theorem keepsHi_b {H : Nat} (W : World) (l : Nat) (r : Loop) (o' : Obj) (hl : W.heap[l]? = some (.loop r)) : KeepsHi H W (W.putObj l o') := fun k cur t z _ e => by
  by_cases h : l = k
  · subst h; rw [hl] at e; cases e
  · exact (World.putObj_heap_other (by omega)).trans e
theorem KeepsHi.below {H : Nat} {W V : World} (h : Below W.heap.size W V) : KeepsHi H W V := fun k cur t z _ e => (h.block k (Array.getElem?_eq_some_iff.1 e).1).trans e
theorem KeepsHi.set {H b i : Nat} (W : World) (v : Value) (hb : b < H) : KeepsHi H W (W.setCell ⟨b, i, none⟩ v) := fun k cur t z hk e => (Below.heap_setCell _ _ _ k (by show k ≠ b; omega)).trans e
theorem KeepsHi.setDrew {H b i : Nat} (W : World) (v : Value) (hb : b < H) : KeepsHi H W (W.setCell ⟨b, i, none⟩ v).drew := KeepsHi.set W v hb
theorem PBox.hi {T R : ByteArray} {n Bp Bn H : Nat} {w w' : World} (h : PBox T R n Bp Bn w) (k : KeepsHi H w w') (hp : H ≤ Bp) (hn : H ≤ Bn) : PBox T R n Bp Bn w' := ⟨k _ _ _ _ hp h.p, k _ _ _ _ hn h.n⟩
/-- A table that lies at or beyond H. -/
structure ReadsHi (H : Nat) (W : World) (a : Option Addr) (n : Nat) (zs : List Int) : Prop where
  reads : ReadsI W a n zs
  hi : ∀ p, a = some p → H ≤ p.block
theorem cells_of_cellI {W : World} {p : Addr} {v : Value} (h : W.cell? p = some v) : ∃ cur t z, W.heap[p.block]? = some (.cells cur t z) := by
  obtain ⟨o, ho, hc⟩ := cells_of_cell h
  cases o <;> first | exact ⟨_, _, _, ho⟩ | cases hc
theorem ReadsHi.keep {H n : Nat} {W V : World} {a : Option Addr} {zs : List Int} (h : ReadsHi H W a n zs) (k : KeepsHi H W V) : ReadsHi H V a n zs := by
  rcases Nat.eq_zero_or_pos n with hn | hn
  · exact ⟨⟨h.reads.len, .inl hn⟩, h.hi⟩
  · obtain ⟨g, o, e, hg, hc⟩ := h.reads.cells.resolve_left (by omega)
    have hH := h.hi _ e
    have e2 : ∀ i, i < n → V.cell? ⟨g, o + i, none⟩ = W.cell? ⟨g, o + i, none⟩ := fun i hi => by
      obtain ⟨cur, t, z, hh⟩ := cells_of_cellI (hc i hi)
      exact World.cell?_of_block ((k _ _ _ _ hH hh).trans hh.symm)
    have h0 := (e2 0 hn).trans (hc 0 hn)
    exact ⟨⟨h.reads.len, .inr ⟨g, o, e, (show g < V.heap.size from lt_of_some h0), fun i hi => (e2 i hi).trans (hc i hi)⟩⟩, h.hi⟩
theorem ReadsHi.below {H n : Nat} {W V : World} {a : Option Addr} {zs : List Int} (h : ReadsHi H W a n zs) (k : Below W.heap.size W V) : ReadsHi H V a n zs := ⟨h.reads.below k (Nat.le_refl _), h.hi⟩

set_option maxRecDepth 100000 in
set_option maxHeartbeats 1000000 in
theorem partNext (f : Nat → Bool) (T R : ByteArray) (Bp Bs n M k c c2 : Nat) (a a2 : Option Addr) (W : World) (hf : Tells f T R) (hn : n < M) (hM : M ≤ 41) (hp : W.heap[Bp]? = some (.cells #[.string T, .string R] 41 (0, 0)))
    (hs : W.heap[Bs]? = some (.cells #[.slice a2 M c2] 44 (0, 0))) (hr2 : ReadsI W a2 M (intsOf (partI f k) M)) :
    Calls Try.prog 70 #[.slice a n c, .pointer (some ⟨Bp, 0, none⟩), .pointer (some ⟨Bs, 0, none⟩)] W fun e w' => e = .returned (.int .i64 (partI f (k + 1) n)) ∧ Below W.heap.size W w' := by
  have p0 : W.cell? ⟨Bp, 0, none⟩ = some (.string T) := by rw [cell_of_row W _ _ _ _ _ hp]; rfl
  have p1 : W.cell? ⟨Bp, 1, none⟩ = some (.string R) := by rw [cell_of_row W _ _ _ _ _ hp]; rfl
  have s0 : W.cell? ⟨Bs, 0, none⟩ = some (.slice a2 M c2) := by rw [cell_of_row W _ _ _ _ _ hs]; rfl
  have hr3 : ReadsI W a2 M (natsOf (cutF (partF f k) M) M) := by
    rw [← natsOf_cut, ← intsOf_nats]; exact hr2
  have HS := Lib.hid (sumOfLeft_any f T R n M c2 a2 (cutF (partF f k) M) W hf (by omega) (by omega) hr3 (fun i => by
    unfold cutF
    split
    · exact partF_le40 f k (by omega)
    · exact Nat.zero_le _))
  have HV : Hid (partI f (k + 1) n = (sumP f (cutF (partF f k) M) n n : Nat)) := Lib.hid (by unfold partI; rw [part_cut f k hn])
  clear hp hs hr2 hr3 hf
  go_enter Try.func70, Try.ntmps70
  go_wp2_with fail
  refine HS.out.mono ?_
  rintro e w1 ⟨rfl, hb1⟩
  have HB := Lib.hid hb1
  clear hb1
  go_wp2
  go_ret
  exact ⟨by rw [HV.out]; rfl, HB.out⟩

set_option maxHeartbeats 400000 in
theorem byLength_call (T R : ByteArray) (n : Nat) (w : World) :
    Calls Try.prog 49 #[.agg #[.string T, .string R], .int .i64 n] w fun e w' =>
      e = .returned (.func (.func 68) #[] #[.pointer (some ⟨w.heap.size + 1, 0, none⟩), .pointer (some ⟨w.heap.size, 0, none⟩)]) ∧
      w' = (w.alloc (.cells #[.string T, .string R] 41)).alloc (.cells #[.int .i64 n] 3) := by
  go_enter Try.func49, Try.ntmps49
  go_wp2
  go_ret
  exact ⟨rfl, rfl⟩

/-- What a round is handed: a number of numbers, and a table. -/
abbrev LenX := { k : Nat // k ≤ 40 } × (Option Addr × Nat)
abbrev lens (n : Nat) (x : LenX) : Array Value := #[.int .i64 (x.1.1 : Int), .slice x.2.1 (n + 1 : Nat) x.2.2]
/-- The number is how many rounds there were, and the table is right. -/
def LenKn (f : Nat → Bool) (n H : Nat) (pre : List LenX) (x : LenX) (W : World) : Prop := x.1.1 = pre.length ∧ ReadsHi H W x.2.1 (n + 1) (intsOf (partI f x.1.1) (n + 1))

theorem lenKn_own (f : Nat → Bool) (n H B : Nat) (x : LenX) : OwnFrom B (fun pre W => LenKn f n H pre x W) := fun s W W' row hs hg hr => by
  refine ⟨hs.1, ⟨⟨hs.2.reads.len, hs.2.reads.cells.imp id ?_⟩, hs.2.hi⟩⟩
  rintro ⟨g, o, e, hb, hc⟩
  exact ⟨g, o, e, Nat.lt_of_lt_of_le hb hg.size, fun i hi => cell_kept (hc i hi) hg (fun r e => (hr r e).2)⟩
set_option maxRecDepth 100000 in
set_option maxHeartbeats 2000000 in
theorem byLength_stops (f : Nat → Bool) (T R : ByteArray) (n H Bp Bn j : Nat) (hf : Tells f T R) (hn : n ≤ 40) (hp : H ≤ Bp) (hq : H ≤ Bn) (w : World) (hH : H ≤ w.heap.size) (hB : PBox T R n Bp Bn w) :
    SeqQ Fence.wide j Try.prog 68 #[.pointer (some ⟨Bn, 0, none⟩), .pointer (some ⟨Bp, 0, none⟩)] (lens n) (KeepsHi H) (LenKn f n H)
      (fun xs => xs.length = 41) (fun _ => True) w := fun l J Jx W hW hJ hJx hY h0 => by
  have hBW := hB.below hW
  have hHW : H ≤ W.heap.size := Nat.le_trans hH hW.size
  have HF := Lib.hid hf
  clear hB hW hH hf
  have HJ := Lib.hid hJ
  have HY := Lib.hid hY
  clear hJ hJx hY
  obtain ⟨N, hN⟩ : ∃ N, N = n + 1 := ⟨_, rfl⟩
  have hNi : (n : Int) + 1 = (N : Int) := by omega
  have hNle : N ≤ 41 := by omega
  have hN0 : 0 < N := by omega
  have HN := Lib.hid hN
  clear hN
  refine callsIn_of_wp Try.func68 rfl trivial ?_ rfl
  simp only [Try.ntmps68, List.size_toArray, List.length_cons, List.length_nil, Nat.reduceAdd, Nat.reduceSub, Array.replicate_succ, Array.replicate_zero, List.push_toArray, List.append_toArray, List.nil_append, List.cons_append]
  have hdd : ∀ k : Nat, (Fence.wide.depth.isSome = true → 1 ≤ k) := fun k h => by cases h
  obtain ⟨p0, p1, n0⟩ := hBW.cells
  gi_wp2_with fail
  refine ⟨trivial, hdd _, (callsIn_wide.2 (noNumbers_any n W (by omega))).mono ?_⟩
  rintro e W1 ⟨rfl, hrow, hb1⟩
  have hj1 := abides_below HJ.out hb1 h0
  have hB1 := hBW.below hb1
  have hr1 : ReadsHi H W1 (some ⟨W.heap.size, 0, none⟩) N (intsOf (partI f 0) N) := ⟨by rw [← oneAt0_part, HN.out]; exact hrow.reads, fun p e => by cases e; exact hHW⟩
  have hs1 : H ≤ W1.heap.size := Nat.le_trans hHW hb1.size
  rw [← HN.out]
  clear hb1 hrow hBW p0 p1 n0 h0
  gi_wp2
  gi_loopw [4, 5] (fun v i wr => ∃ (k : Nat) (a : Option Addr) (c : Nat) (pre : List LenX), k ≤ 41 ∧ i = .int .i64 k ∧ v = .slice a N c ∧ pre.length = k ∧ J pre wr ∧ PBox T R n Bp Bn wr ∧ ReadsHi H wr a N (intsOf (partI f k) N) ∧ H ≤ wr.heap.size) (fun _ i _ => 42 - (intOf i).toNat)
  case atStart => exact ⟨0, _, _, [], Nat.zero_le _, rfl, rfl, rfl, hj1, hB1, hr1, hs1⟩
  case round =>
    obtain ⟨k, a, c, pre, hk, rfl, rfl, hpre, hj, hb, hr, hsz⟩ := hrel
    clear hj1 hB1 hr1
    by_cases hlt : k ≤ 40
    · have hki : (k : Int) ≤ 40 := by omega
      have hkn : LenKn f n H pre (⟨k, hlt⟩, (a, c)) wr := ⟨hpre.symm, by rw [← HN.out]; exact hr⟩
      obtain ⟨fn, tmps, assign, body, hy, hR⟩ := HY.out pre (⟨k, hlt⟩, (a, c)) wr hj hkn
      dsimp only [lens] at hy
      rw [← HN.out] at hy
      clear hkn hj
      gi_wp2
      refine ⟨hdd _, hR.mono ?_⟩
      rintro e W3 (⟨rfl, hJ3, hk3⟩ | ⟨rfl, hJx3⟩)
      · have hB3 := hb.hi hk3 hp hq
        have hr3 := hr.keep hk3
        have hb4 : Below W3.heap.size W3 (W3.alloc (.cells #[.slice a N c] 44)) := (Below.refl _ _).alloc (Nat.le_refl _) _
        have hB4 := hB3.below hb4
        have hr4 := hr3.below hb4
        have hj4 := abides_below HJ.out hb4 hJ3
        have hs4 := heap_alloc_new W3 (.cells #[.slice a N c] 44)
        have hH3 : H ≤ W3.heap.size := by
          have := (Array.getElem?_eq_some_iff.1 hB3.p).1
          omega
        have HG : Hid (NextI 70 #[.pointer (some ⟨Bp, 0, none⟩), .pointer (some ⟨W3.heap.size, 0, none⟩)] (partI f (k + 1)) N (W3.alloc (.cells #[.slice a N c] 44))) :=
          Lib.hid ⟨fun _ _ => rfl, fun W' a' n' c' hbW hn' hrW => partNext f T R Bp W3.heap.size n' N k c' c a' a W' HF.out hn' hNle ((hbW.block Bp (Array.getElem?_eq_some_iff.1 hB4.p).1).trans hB4.p) ((hbW.block W3.heap.size (Array.getElem?_eq_some_iff.1 hs4).1).trans hs4) (hr4.reads.below hbW (Nat.le_refl _))⟩
        obtain ⟨p0, p1, n0⟩ := hB4.cells
        have HJ4 := Lib.hid hj4
        have HB4 := Lib.hid hB4
        clear hb4 hB4 hr4 hj4 hs4 hr3 hB3 hk3 hJ3 hb hr
        gi_wp2_with fail
        refine ⟨trivial, hdd _, (callsIn_wide.2 (tableOfI_any _ _ (partI f (k + 1)) N _ HG.out (by omega))).mono ?_⟩
        rintro e W5 ⟨a5, c5, rfl, hr5, hb5, hhi⟩
        have HJ5 := Lib.hid (abides_below HJ.out hb5 HJ4.out)
        have HB5 := Lib.hid (HB4.out.below hb5)
        have hs5 := hb5.size
        rw [World.size_alloc] at hs5
        have HR5 : Hid (ReadsHi H W5 a5 N (intsOf (partI f (k + 1)) N)) := Lib.hid ⟨hr5, fun p e => by have := hhi p e; rw [World.size_alloc] at this; omega⟩
        clear hr5 hb5 hhi p0 p1 n0
        gi_wp2
        go_roundw
        case rel => exact ⟨k + 1, a5, c5, _, by omega, by go_num, rfl, by rw [List.length_append, hpre]; rfl, HJ5.out, HB5.out, HR5.out, by omega⟩
        case measure => simp [intOf]; omega
      · gi_wp2
        go_end0
        exact ⟨⟨_, rfl⟩, .inr ⟨_, trivial, hJx3⟩⟩
    · obtain rfl : k = 41 := by omega
      gi_wp2
      refine ⟨fun _ h => (by cases h), ?_⟩
      gi_wp2
      go_end0
      exact ⟨⟨_, rfl⟩, .inl ⟨pre, hpre, hj⟩⟩

end Go.Proofs.Ytojjfkabepkhdaa
