/-
  Ways, of the program: what may be asked, and the numbers with which a way may begin, as an iterator.
-/
import Derived.RangeFuncNested
import Derived.RangeFuncBound
import Derived.RangeFuncCalls
import Derived.RangeFuncLeaves
import Derived.RangeFuncBox
import Derived.Shelf.RegionOpen
import Derived.OwnWalkIn
import Derived.TacticsInMore
import Derived.LoopNIn
import Derived.LoopIn
import Derived.Test.YtojjfkabepkhdaaNumTextI
import Derived.Test.YtojjfkabepkhdaaWayMath
set_option linter.unusedVariables false
set_option linter.unusedSimpArgs false
namespace Go.Proofs.Ytojjfkabepkhdaa
open Go.RowKit

def WayEnd (s : ByteArray) (n N : Int) (e : Ending) : Prop := ∃ T R, e = .returned (.tuple #[.agg #[.string T, .string R], .bool (smallS s && inR n 0 N)]) ∧ (smallS s = true → SmallParts (fS s) T R)

theorem between_is (k a b : Int) (w : World) :
    Calls Try.prog 53 #[.int .i64 k, .int .i64 a, .int .i64 b] w fun e w' => e = .returned (.bool (inR k a b)) ∧ w' = w := by
  cases h : inR k a b
  · exact between_out k a b w h
  · exact between_in k a b w h

set_option maxRecDepth 100000 in
set_option maxHeartbeats 1000000 in
theorem waySet_any (s : ByteArray) (n N m : Int) (w : World) (hs : s.size ≤ 1048576) (hL : LibAt m w) :
    Calls Try.prog 45 #[.string s, .int .i64 n, .int .i64 N] w fun e w' => WayEnd s n N e ∧ Below w.heap.size w w' := by
  go_enter Try.func45, Try.ntmps45
  go_wp2_with fail
  refine (smallSet_any s m _ hs (hL.alloc _)).mono ?_
  rintro e w1 ⟨⟨T, R, rfl, h1⟩, hb1⟩
  have H1 := Lib.hid h1
  obtain ⟨⟨q0, q1, hf⟩, hB2, hF⟩ := small_set (ty2 := 41) T R T R hb1 (Below.refl _ _)
  have HB2 := Lib.hid hB2
  have HF := Lib.hid hF
  obtain ⟨y0, y1⟩ := box_later (w1 := w1) (u := .string T) (v := .string R) (T := 41) (Below.refl _ _)
  obtain ⟨b, hb⟩ : ∃ b, b = inR n 0 N := ⟨_, rfl⟩
  have HN : ∀ W, Hid (Calls Try.prog 53 #[.int .i64 n, .int .i64 0, .int .i64 N] W fun e w' => e = .returned (.bool b) ∧ w' = W) := fun W => by rw [hb]; exact Lib.hid (between_is n 0 N W)
  have HQ := Lib.hid hb
  clear h1 hb1 hB2 hF hb
  cases hp : smallS s
  · have HP := Lib.hid hp
    clear hp
    go_wp2
    go_region
    go_wp2
    generalize ((w1.alloc _).setCell ⟨w.heap.size, 0, none⟩ _).setCell ⟨w.heap.size, 1, none⟩ _ = wF at HB2 HF ⊢
    obtain ⟨f0, f1⟩ := HF.out
    have g0 : wF.drew.cell? ⟨w.heap.size, 0, none⟩ = some (.string T) := f0
    have g1 : wF.drew.cell? ⟨w.heap.size, 1, none⟩ = some (.string R) := f1
    exact bodyPost_ret (v := .tuple #[.agg #[.string T, .string R], .bool false]) (by simp [results, Try.results45, go_sem, g0, g1]) rfl ⟨⟨T, R, by rw [HP.out, Bool.false_and], H1.out⟩, HB2.out.drew⟩
  · have HP := Lib.hid hp
    clear hp
    go_wp2
    go_region_with (go_at_call 53; refine (HN _).out.mono ?_; rintro e w3 ⟨rfl, rfl⟩)
    all_goals
      go_wp2
      generalize ((w1.alloc _).setCell ⟨w.heap.size, 0, none⟩ _).setCell ⟨w.heap.size, 1, none⟩ _ = wF at HB2 HF ⊢
      obtain ⟨f0, f1⟩ := HF.out
      have g0 : wF.drew.cell? ⟨w.heap.size, 0, none⟩ = some (.string T) := f0
      have g1 : wF.drew.cell? ⟨w.heap.size, 1, none⟩ = some (.string R) := f1
      exact bodyPost_ret (v := .tuple #[.agg #[.string T, .string R], .bool b]) (by simp [results, Try.results45, go_sem, g0, g1]) rfl ⟨⟨T, R, by rw [HP.out, Bool.true_and, ← HQ.out], H1.out⟩, HB2.out.drew⟩

/-- A number with which a way to n may begin. -/
abbrev Pc (n : Nat) := { y : Nat // 1 ≤ y ∧ y ≤ n }
abbrev pcs (n : Nat) (y : Pc n) : Array Value := #[.int .i64 (y.1 : Int), .int .i64 ((n - y.1 : Nat) : Int)]
/-- The first of them that a set has. -/
def pcL (f : Nat → Bool) (n : Nat) : (k : Nat) → k ≤ n → List (Pc n)
  | 0, _ => []
  | k + 1, h => pcL f n k (Nat.le_of_succ_le h) ++ (if f (k + 1) then [⟨k + 1, by omega, h⟩] else [])
theorem pcL_yes {f : Nat → Bool} {n k : Nat} (h : k + 1 ≤ n) (hf : f (k + 1) = true) : pcL f n (k + 1) h = pcL f n k (Nat.le_of_succ_le h) ++ [⟨k + 1, by omega, h⟩] := by rw [pcL, if_pos hf]
theorem pcL_no {f : Nat → Bool} {n k : Nat} (h : k + 1 ≤ n) (hf : f (k + 1) = false) : pcL f n (k + 1) h = pcL f n k (Nat.le_of_succ_le h) := by rw [pcL, if_neg (by simp [hf]), List.append_nil]
theorem pcL_length (f : Nat → Bool) (n : Nat) : ∀ k h, (pcL f n k h).length ≤ k
  | 0, _ => Nat.le_refl _
  | k + 1, h => by
    have := pcL_length f n k (Nat.le_of_succ_le h)
    rw [pcL, List.length_append]
    split <;> simp <;> omega

/-- What an iterator reads between two rounds lies as it lay: two blocks. -/
structure KeepsB (p q : Nat) (W W' : World) : Prop where
  one : ∀ o, W.heap[p]? = some o → W'.heap[p]? = some o
  two : ∀ o, W.heap[q]? = some o → W'.heap[q]? = some o
theorem KeepsB.refl (p q : Nat) (W : World) : KeepsB p q W W := ⟨fun _ h => h, fun _ h => h⟩
theorem keepsB_t {p q : Nat} {A B C : World} (h : KeepsB p q A B) (k : KeepsB p q B C) : KeepsB p q A C := ⟨fun o x => k.one o (h.one o x), fun o x => k.two o (h.two o x)⟩
theorem keepsB_b {p q : Nat} {w : World} (hp : p < w.heap.size) (hq : q < w.heap.size) (W : World) (l : Nat) (o o' : Obj) (hl : w.heap.size ≤ l) (_ : W.heap[l]? = some o) (_ : o.isCells = false) (_ : o.isWalk = false) : KeepsB p q W (W.putObj l o') :=
  ⟨fun _ x => (World.putObj_heap_other (by omega)).trans x, fun _ x => (World.putObj_heap_other (by omega)).trans x⟩
theorem KeepsB.below {p q B : Nat} {W W' : World} (h : Below B W W') (hp : p < B) (hq : q < B) : KeepsB p q W W' := ⟨fun _ x => (h.block p hp).trans x, fun _ x => (h.block q hq).trans x⟩
theorem KeepsB.set {p q b : Nat} (W : World) (v : Value) (hp : b ≠ p) (hq : b ≠ q) : KeepsB p q W (W.setCell ⟨b, 0, none⟩ v) :=
  ⟨fun _ x => (Below.heap_setCell _ _ _ p (fun e => hp e.symm)).trans x, fun _ x => (Below.heap_setCell _ _ _ q (fun e => hq e.symm)).trans x⟩
theorem KeepsB.setDrew {p q b : Nat} (W : World) (v : Value) (hp : b ≠ p) (hq : b ≠ q) : KeepsB p q W (W.setCell ⟨b, 0, none⟩ v).drew := ⟨(KeepsB.set W v hp hq).one, (KeepsB.set W v hp hq).two⟩
theorem grownBy_below {w w' : World} (h : Below w.heap.size w w') : w.grownBy w' none := ⟨h.os, h.tape, h.output, h.size, fun k hk _ => h.block k hk⟩
theorem abides_below {β : Type} {B : Nat} {J : β → World → Prop} (h : AbidesFrom B J) {s : β} {W W' : World} (hb : Below W.heap.size W W') (hs : J s W) : J s W' :=
  h s W W' none hs (grownBy_below hb) (fun r e => by cases e)

/-- The two boxes of such an iterator. -/
structure PBox (T R : ByteArray) (n Bp Bn : Nat) (w : World) : Prop where
  p : w.heap[Bp]? = some (.cells #[.string T, .string R] 41 (0, 0))
  n : w.heap[Bn]? = some (.cells #[.int .i64 n] 3 (0, 0))
theorem PBox.keeps {T R : ByteArray} {n Bp Bn : Nat} {w w' : World} (h : PBox T R n Bp Bn w) (k : KeepsB Bp Bn w w') : PBox T R n Bp Bn w' := ⟨k.one _ h.p, k.two _ h.n⟩
theorem PBox.below {T R : ByteArray} {n Bp Bn : Nat} {w w' : World} (h : PBox T R n Bp Bn w) (k : Below w.heap.size w w') : PBox T R n Bp Bn w' :=
  ⟨(k.block Bp (Array.getElem?_eq_some_iff.1 h.p).1).trans h.p, (k.block Bn (Array.getElem?_eq_some_iff.1 h.n).1).trans h.n⟩
theorem PBox.cells {T R : ByteArray} {n Bp Bn : Nat} {w : World} (h : PBox T R n Bp Bn w) :
    w.cell? ⟨Bp, 0, none⟩ = some (.string T) ∧ w.cell? ⟨Bp, 1, none⟩ = some (.string R) ∧ w.cell? ⟨Bn, 0, none⟩ = some (.int .i64 n) := by
  refine ⟨?_, ?_, ?_⟩
  · rw [cell_of_row w _ _ _ _ _ h.p]; rfl
  · rw [cell_of_row w _ _ _ _ _ h.p]; rfl
  · rw [cell_of_row w _ _ _ _ _ h.n]; rfl
theorem pBox_new (T R : ByteArray) (n : Nat) (w : World) : PBox T R n w.heap.size (w.heap.size + 1) ((w.alloc (.cells #[.string T, .string R] 41)).alloc (.cells #[.int .i64 n] 3)) := by
  constructor
  · exact (((Below.refl _ (w.alloc (.cells #[.string T, .string R] 41))).alloc (Nat.le_refl _) _).block w.heap.size (by simp)).trans (heap_alloc_new w _)
  · have := heap_alloc_new (w.alloc (.cells #[.string T, .string R] 41)) (.cells #[.int .i64 n] 3)
    rw [World.size_alloc] at this
    exact this

set_option maxHeartbeats 400000 in
theorem pieces_call (T R : ByteArray) (n : Nat) (w : World) :
    Calls Try.prog 61 #[.agg #[.string T, .string R], .int .i64 n] w fun e w' =>
      e = .returned (.func (.func 79) #[] #[.pointer (some ⟨w.heap.size + 1, 0, none⟩), .pointer (some ⟨w.heap.size, 0, none⟩)]) ∧
      w' = (w.alloc (.cells #[.string T, .string R] 41)).alloc (.cells #[.int .i64 n] 3) := by
  go_enter Try.func61, Try.ntmps61
  go_wp2
  go_ret
  exact ⟨rfl, rfl⟩

set_option maxRecDepth 100000 in
set_option maxHeartbeats 2000000 in
/-- The iterator: the numbers of the set from 1 to n, each with what it leaves. -/
theorem pieces_stops (f : Nat → Bool) (T R : ByteArray) (n Bp Bn j : Nat) (hf : Tells f T R) (hn : n ≤ 1000) (w : World) (hB : PBox T R n Bp Bn w) :
    SeqStopsK Fence.wide j Try.prog 79 #[.pointer (some ⟨Bn, 0, none⟩), .pointer (some ⟨Bp, 0, none⟩)] (pcs n) (KeepsB Bp Bn)
      (fun xs => xs = pcL f n n (Nat.le_refl _)) (fun pre => ∃ k h, pre = pcL f n (k + 1) h ∧ f (k + 1) = true) n w := fun l J Jx W hW hJ hJx hY h0 => by
  have hBW := hB.below hW
  have HF := Lib.hid hf
  clear hB hW w hf
  have HJ := Lib.hid hJ
  have HY := Lib.hid hY
  clear hJ hJx hY
  refine callsIn_of_wp Try.func79 rfl trivial ?_ rfl
  simp only [Try.ntmps79, List.size_toArray, List.length_cons, List.length_nil, Nat.reduceAdd, Nat.reduceSub, Array.replicate_succ, Array.replicate_zero, List.push_toArray, List.append_toArray, List.nil_append, List.cons_append]
  have hdd : ∀ k : Nat, (Fence.wide.depth.isSome = true → 1 ≤ k) := fun k h => by cases h
  gi_wp2
  gi_loopw [4] (fun i wr => ∃ (k : Nat) (hk : k ≤ n), i = .int .i64 (k + 1 : Nat) ∧ J (pcL f n k hk) wr ∧ PBox T R n Bp Bn wr) (fun i _ => n + 1 - (intOf i).toNat)
  case atStart => exact ⟨0, Nat.zero_le _, rfl, h0, hBW⟩
  case round =>
    obtain ⟨k, hk, rfl, hj, hb⟩ := hrel
    obtain ⟨p0, p1, n0⟩ := hb.cells
    by_cases hlt : k < n
    · have hki : ((k + 1 : Nat) : Int) ≤ (n : Int) := by omega
      obtain ⟨z, hz⟩ : ∃ z, z = n - (k + 1) := ⟨_, rfl⟩
      have hzi : (n : Int) - ((k : Int) + 1) = (z : Int) := by omega
      have hk1 : ((k + 1 : Nat) : Int) = (k : Int) + 1 := by omega
      have hcall := fun W => callsIn_wide (n := j - 1).2 (tells_has HF.out (k + 1) W (by omega))
      rw [hk1] at hcall
      cases hv : f (k + 1)
      · rw [hv] at hcall
        gi_wp2_with fail
        refine ⟨trivial, hdd _, (hcall _).mono ?_⟩
        rintro e W1 ⟨rfl, hb1⟩
        have hj1 := abides_below HJ.out hb1 hj
        have hB1 := hb.below hb1
        clear hb1 hj hb hcall
        gi_wp2
        refine ⟨fun _ h => (by cases h), ?_⟩
        gi_wp2
        go_roundw
        case rel => exact ⟨k + 1, by omega, by go_num, by rw [pcL_no (by omega) hv]; exact hj1, hB1⟩
        case measure => simp [intOf]; omega
      · rw [hv] at hcall
        gi_wp2_with fail
        refine ⟨trivial, hdd _, (hcall _).mono ?_⟩
        rintro e W1 ⟨rfl, hb1⟩
        have hj1 := abides_below HJ.out hb1 hj
        have hB1 := hb.below hb1
        obtain ⟨p0, p1, n0⟩ := hB1.cells
        obtain ⟨fn, tmps, assign, body, hy, hR⟩ := HY.out (pcL f n k hk) ⟨k + 1, by omega, by omega⟩ W1 hj1 (by have := pcL_length f n k hk; omega)
        dsimp only [pcs] at hy
        rw [hk1] at hy
        clear hb1 hj hb hcall
        gi_wp2
        refine ⟨hdd _, hR.mono ?_⟩
        rintro e W3 (⟨rfl, hJ3, hk3⟩ | ⟨rfl, hJx3⟩)
        · have hB3 := hB1.keeps hk3
          gi_wp2
          go_roundw
          case rel => exact ⟨k + 1, by omega, by go_num, by rw [pcL_yes (by omega) hv]; exact hJ3, hB3⟩
          case measure => simp [intOf]; omega
        · gi_wp2
          refine bodyPost_ret (results_none rfl _ _ _) rfl ?_
          exact ⟨⟨_, rfl⟩, .inr ⟨_, ⟨k, by omega, (pcL_yes (by omega) hv).symm, hv⟩, hJx3⟩⟩
    · obtain rfl : k = n := by omega
      gi_wp2
      go_end0
      exact ⟨⟨_, rfl⟩, .inl ⟨_, rfl, hj⟩⟩

end Go.Proofs.Ytojjfkabepkhdaa
