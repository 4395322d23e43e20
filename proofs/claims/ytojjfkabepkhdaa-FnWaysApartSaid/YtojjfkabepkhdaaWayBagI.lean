/-
  Bags, of the program (slices.Clone at tables, countBags): a loop over the iterator, whose rounds know what has come.
-/
import Derived.Test.YtojjfkabepkhdaaWayTabI
import Derived.Test.YtojjfkabepkhdaaWayBagMath
import Derived.Test.YtojjfkabepkhdaaRangeQ
import Derived.Maps.AppendAt
import Derived.Lib.SliceRun
import Derived.Test.YtojjfkabepkhdaaRoundReg
set_option linter.unusedVariables false
set_option linter.unusedSimpArgs false
namespace Go.Proofs.Ytojjfkabepkhdaa
open Go.RowKit

set_option maxRecDepth 100000 in
set_option maxHeartbeats 2000000 in
/-- The iterator: the numbers of the set from 1 to n, each with what it leaves. -/
theorem pieces_q (f : Nat → Bool) (T R : ByteArray) (n Bp Bn j : Nat) (hf : Tells f T R) (hn : n ≤ 1000) (w : World) (hB : PBox T R n Bp Bn w) :
    SeqQ Fence.wide j Try.prog 79 #[.pointer (some ⟨Bn, 0, none⟩), .pointer (some ⟨Bp, 0, none⟩)] (pcs n) (KeepsB Bp Bn) (fun pre x _ => ∃ (k : Nat) (h : k ≤ n), x.1 = k + 1 ∧ pre = pcL f n k h ∧ f (k + 1) = true)
      (fun xs => xs = pcL f n n (Nat.le_refl _)) (fun pre => ∃ k h, pre = pcL f n (k + 1) h ∧ f (k + 1) = true) w := fun l J Jx W hW hJ hJx hY h0 => by
  have hBW := hB.below hW
  have HF := Lib.hid hf
  clear hB hW w hf
  have HJ := Lib.hid hJ
  have HY := Lib.hid hY
  clear hJ hJx hY
  refine callsIn_of_wp Try.func79 rfl trivial ?_ rfl
  simp only [Try.ntmps79, List.size_toArray, List.length_cons, List.length_nil, Nat.reduceAdd, Nat.reduceSub, Array.replicate_succ, Array.replicate_zero, List.push_toArray, List.append_toArray, List.nil_append, List.cons_append]
  have hdd : ∀ k : Nat, (Fence.wide.depth.isSome = true → 1 ≤ k) := fun k h => by cases h
  gi_wp2
  gi_loopw [4] (fun i wr => ∃ (k : Nat) (hk : k ≤ n), i = .int .i64 (k + 1 : Nat) ∧ J (pcL f n k hk) wr ∧ PBox T R n Bp Bn wr) (fun i _ => n + 1 - (intOf i).toNat)
  case atStart => exact ⟨0, Nat.zero_le _, rfl, h0, hBW⟩
  case round =>
    obtain ⟨k, hk, rfl, hj, hb⟩ := hrel
    obtain ⟨p0, p1, n0⟩ := hb.cells
    by_cases hlt : k < n
    · have hki : ((k + 1 : Nat) : Int) ≤ (n : Int) := by omega
      obtain ⟨z, hz⟩ : ∃ z, z = n - (k + 1) := ⟨_, rfl⟩
      have hzi : (n : Int) - ((k : Int) + 1) = (z : Int) := by omega
      have hk1 : ((k + 1 : Nat) : Int) = (k : Int) + 1 := by omega
      have hcall := fun W => callsIn_wide (n := j - 1).2 (tells_has HF.out (k + 1) W (by omega))
      rw [hk1] at hcall
      cases hv : f (k + 1)
      · rw [hv] at hcall
        gi_wp2_with fail
        refine ⟨trivial, hdd _, (hcall _).mono ?_⟩
        rintro e W1 ⟨rfl, hb1⟩
        have hj1 := abides_below HJ.out hb1 hj
        have hB1 := hb.below hb1
        clear hb1 hj hb hcall
        gi_wp2
        refine ⟨fun _ h => (by cases h), ?_⟩
        gi_wp2
        go_roundw
        case rel => exact ⟨k + 1, by omega, by go_num, by rw [pcL_no (by omega) hv]; exact hj1, hB1⟩
        case measure => simp [intOf]; omega
      · rw [hv] at hcall
        gi_wp2_with fail
        refine ⟨trivial, hdd _, (hcall _).mono ?_⟩
        rintro e W1 ⟨rfl, hb1⟩
        have hj1 := abides_below HJ.out hb1 hj
        have hB1 := hb.below hb1
        obtain ⟨p0, p1, n0⟩ := hB1.cells
        obtain ⟨fn, tmps, assign, body, hy, hR⟩ := HY.out (pcL f n k hk) ⟨k + 1, by omega, by omega⟩ W1 hj1 ⟨k, hk, rfl, rfl, hv⟩
        dsimp only [pcs] at hy
        rw [hk1] at hy
        clear hb1 hj hb hcall
        gi_wp2
        refine ⟨hdd _, hR.mono ?_⟩
        rintro e W3 (⟨rfl, hJ3, hk3⟩ | ⟨rfl, hJx3⟩)
        · have hB3 := hB1.keeps hk3
          gi_wp2
          go_roundw
          case rel => exact ⟨k + 1, by omega, by go_num, by rw [pcL_yes (by omega) hv]; exact hJ3, hB3⟩
          case measure => simp [intOf]; omega
        · gi_wp2
          refine bodyPost_ret (results_none rfl _ _ _) rfl ?_
          exact ⟨⟨_, rfl⟩, .inr ⟨_, ⟨k, by omega, (pcL_yes (by omega) hv).symm, hv⟩, hJx3⟩⟩
    · obtain rfl : k = n := by omega
      gi_wp2
      go_end0
      exact ⟨⟨_, rfl⟩, .inl ⟨_, rfl, hj⟩⟩


theorem pcL_same {f : Nat → Bool} {n : Nat} (F : Nat → Nat → Int) (hF : ∀ k, f (k + 1) = false → F (k + 1) = F k) : ∀ (d k : Nat) (h : k ≤ n) (h' : k + d ≤ n), pcL f n k h = pcL f n (k + d) h' → F k = F (k + d)
  | 0, k, h, h', _ => rfl
  | d + 1, k, h, h', e => by
    have hpre : ∀ (d : Nat) (h2 : k + d ≤ n), (pcL f n k h).length ≤ (pcL f n (k + d) h2).length := by
      intro d
      induction d with
      | zero => intro h2; exact Nat.le_refl _
      | succ d ih =>
        intro h2
        have := ih (by omega)
        show _ ≤ (pcL f n (k + d + 1) h2).length
        rw [pcL, List.length_append]
        omega
    have h1 := hpre d (by omega)
    have e2 : pcL f n k h = pcL f n (k + d + 1) h' := e
    cases hf : f (k + d + 1)
    · rw [pcL_no (k := k + d) h' hf] at e2
      rw [pcL_same F hF d k h (by omega) e2]
      exact (hF _ hf).symm
    · rw [pcL_yes (k := k + d) h' hf] at e2
      rw [e2, List.length_append] at h1
      simp at h1
      omega
theorem pcL_row {f : Nat → Bool} {n k k' : Nat} {h : k ≤ n} {h' : k' ≤ n} (F : Nat → Nat → Int) (hF : ∀ k, f (k + 1) = false → F (k + 1) = F k) (e : pcL f n k h = pcL f n k' h') : F k = F k' := by
  rcases Nat.le_total k k' with hk | hk
  · obtain ⟨d, rfl⟩ : ∃ d, k' = k + d := ⟨k' - k, by omega⟩
    exact pcL_same F hF d k h h' e
  · obtain ⟨d, rfl⟩ : ∃ d, k = k' + d := ⟨k - k', by omega⟩
    exact (pcL_same F hF d k' h' h e.symm).symm
/-- The next number is put to the first x, each once at most. -/
def mixC (f : Nat → Bool) (k x i : Nat) : Int := if i < x then apartsI f (k + 1) i else apartsI f k i
theorem mixC_start (f : Nat → Bool) (k i : Nat) : apartsI f k i = mixC f k (k + 1) i := by
  unfold mixC
  split
  · unfold apartsI; rw [apartF, if_neg (by omega)]; rfl
  · rfl
theorem mixC_put (f : Nat → Bool) (k x i : Nat) (hf : f (k + 1) = true) (hx : k + 1 ≤ x) : putI (mixC f k x) x (mixC f k x x + apartsI f k (x - (k + 1))) i = mixC f k (x + 1) i := by
  unfold putI
  by_cases e : i = x
  · rw [if_pos e, e]
    unfold mixC
    rw [if_neg (Nat.lt_irrefl _), if_pos (by omega)]
    unfold apartsI
    rw [apartF, if_pos ⟨hf, hx⟩]; simp
  · rw [if_neg e]
    unfold mixC
    by_cases h : i < x
    · rw [if_pos h, if_pos (by omega)]
    · rw [if_neg h, if_neg (by omega)]
theorem mixC_end (f : Nat → Bool) (k x i : Nat) (h : i < x) : mixC f k x i = apartsI f (k + 1) i := by unfold mixC; rw [if_pos h]
theorem mixC_bounds (f : Nat → Bool) (k x : Nat) {i : Nat} (h : i ≤ 60) : ∃ v : Nat, mixC f k x i = v ∧ v ≤ 1152921504606846976 := by
  unfold mixC
  split
  · exact ⟨_, rfl, apart_le60 f _ h⟩
  · exact ⟨_, rfl, apart_le60 f _ h⟩
theorem own_some9 {w : World} {base size n : Nat} {e : TypeId} {v : Value} {xs : List Value} (h : w.ownsRow base e size v n xs) (hn : 0 < n) : ∃ g cap, v = .slice (some ⟨g, 0, none⟩) n cap := by
  rcases h.2 with ⟨_, h0⟩ | ⟨g, cap, _, hv, _⟩
  · omega
  · exact ⟨g, cap, hv⟩
theorem iRow_own {β : Type} (g N B : Nat) (h : β → Nat → Int) : OwnFrom B (fun s W => IRow W g N (h s)) := fun s X Y row hs hg hr => by
  obtain ⟨cur, h1, h2, h3⟩ := hs
  exact ⟨cur, (grownBy_keeps_cells hg (fun r e => (hr r e).2) h1 rfl).trans h1, h2, h3⟩

set_option maxRecDepth 100000 in
set_option maxHeartbeats 1000000 in
theorem clone_any (g L : Nat) (h : Nat → Int) (w : World) (hL : 0 < L) (hL2 : L ≤ 1000) (hr : IRow w g L h) :
    Calls Try.prog 71 #[.slice (some ⟨g, 0, none⟩) L L] w fun e w' => ∃ G c, e = .returned (.slice (some ⟨G, 0, none⟩) L c) ∧ w.heap.size ≤ G ∧ ReadsI w' (some ⟨G, 0, none⟩) L (intsOf h L) ∧ Below w.heap.size w w' := by
  obtain ⟨i0, hi, hz0, hz1, hz2⟩ := info_parts Try.infoInt
  have ho : (w.alloc (.cells #[] 3)).ownsRow w.heap.size 3 1 (.slice (some ⟨w.heap.size, 0, none⟩) 0 0) 0 [] := ⟨rfl, .inr ⟨w.heap.size, 0, #[], rfl, Nat.le_refl _, heap_alloc_new w _, Nat.le_refl _, by decide, rfl, rfl⟩⟩
  have HO := Lib.hid ho
  have hb1 : Below w.heap.size w (w.alloc (.cells #[] 3)) := (Below.refl _ _).alloc (Nat.le_refl _) _
  have HB1 := Lib.hid hb1
  have HC := Lib.hid (fun i (hi : i < L) => (hb1.cell (p := ⟨g, i, none⟩) hr.lt).trans (hr.cell hi))
  clear ho hb1 hr
  have hnil : ∀ W, (binOp .eql 44 (.slice (some ⟨g, 0, none⟩) L L) (.slice none 0 0)).run Try.prog W = .ok (.bool false) W := fun W => Lib.run_eql_slice_nil W _ _ (some ⟨g, 0, none⟩) L L 0 0 Try.underlying44
  go_enter Try.func71, Try.ntmps71
  go_wp2_with
    (at_builtin; refine wpList_append_own_at _ rfl _ _ 44 rfl w.heap.size 3 i0 (.int .i64 0) 1 8 Try.underlying44 hi hz0 hz1 hz2 rfl (by decide) _ _ _ rfl HO.out ⟨g, 0, none⟩ L L (ints (intsOf h L)) rfl ?c0 ?c1 ?c2 ?c3 ?c4 ?c5 ?_)
  case c0 => rw [ints_length, intsOf_length]; omega
  case c1 =>
    intro j u hj
    unfold ints intsOf at hj
    rw [List.map_map, List.getElem?_map] at hj
    rcases Nat.lt_or_ge j L with k | k
    · rw [List.getElem?_range k] at hj
      simp at hj
      subst hj
      have := HC.out j k
      rw [Addr.add_lit, Nat.zero_add]; exact this
    · rw [List.getElem?_eq_none (by simpa using k)] at hj; cases hj
  case c2 =>
    intro u hu
    unfold ints at hu
    obtain ⟨z, _, rfl⟩ := List.mem_map.1 hu
    rfl
  case c3 => unfold maxLen; omega
  case c4 => omega
  case c5 => simp
  intro v' w4 hown hgrow _ hat
  obtain ⟨G, c, rfl⟩ := own_some9 hown hL
  have HR := Lib.hid (readsI_own hown)
  have HG := Lib.hid (hown.lt G rfl).1
  have HB := Lib.hid (HB1.out.grown hgrow (by simp) (fun j hj => (HO.out.lt j hj).1))
  clear hown hgrow hat
  go_wp2
  go_ret
  exact ⟨G, c, rfl, HG.out, HR.out, HB.out⟩

/-- The boxes of countBags. -/
structure BagBox (b0 M N n : Nat) (T R : ByteArray) (again : Bool) (w W : World) : Prop where
  lt : b0 + 1 + 1 + 1 < M
  p0 : W.cell? ⟨b0, 0, none⟩ = some (.string T)
  p1 : W.cell? ⟨b0, 1, none⟩ = some (.string R)
  num : Boxed W (b0 + 1) 3 (.int .i64 n)
  ag : Boxed W (b0 + 1 + 1) 4 (.bool again)
  many : Boxed W M 44 (.slice (some ⟨b0 + 1 + 1 + 1, 0, none⟩) N N)
  below : Below b0 w W
theorem boxed_belowB {w w' : World} {B : Nat} {t : TypeId} {v : Value} (h : Boxed w B t v) (hb : Below w.heap.size w w') : Boxed w' B t v := (hb.block B h.lt).trans h
theorem BagBox.step {b0 M N n : Nat} {T R : ByteArray} {again : Bool} {w W V : World} (h : BagBox b0 M N n T R again w W) (hb : Below W.heap.size W V) : BagBox b0 M N n T R again w V :=
  ⟨h.lt, (hb.cell (p := ⟨b0, 0, none⟩) (lt_of_some h.p0)).trans h.p0, (hb.cell (p := ⟨b0, 1, none⟩) (lt_of_some h.p1)).trans h.p1, boxed_belowB h.num hb, boxed_belowB h.ag hb, boxed_belowB h.many hb, h.below.trans (hb.mono (by have := h.num.lt; omega))⟩
theorem BagBox.put {b0 M N n : Nat} {T R : ByteArray} {again : Bool} {w W : World} (h : BagBox b0 M N n T R again w W) (i : Nat) (u : Value) : BagBox b0 M N n T R again w (W.setCell ⟨b0 + 1 + 1 + 1, i, none⟩ u) := by
  have far : ∀ {B : Nat} {t : TypeId} {v : Value}, B ≠ b0 + 1 + 1 + 1 → Boxed W B t v → Boxed (W.setCell ⟨b0 + 1 + 1 + 1, i, none⟩ u) B t v := fun {B t v} hB hb => (Below.heap_setCell _ _ _ B hB).trans hb
  have := h.lt
  exact ⟨h.lt, (World.cell?_setCell_other _ _ _ _ (by simp)).trans h.p0, (World.cell?_setCell_other _ _ _ _ (by simp)).trans h.p1, far (by omega) h.num, far (by omega) h.ag, far (by omega) h.many, h.below.setCell (p := ⟨b0 + 1 + 1 + 1, i, none⟩) (show b0 ≤ b0 + 1 + 1 + 1 from by omega) _⟩
theorem BagBox.drew {b0 M N n : Nat} {T R : ByteArray} {again : Bool} {w W : World} (h : BagBox b0 M N n T R again w W) : BagBox b0 M N n T R again w W.drew := ⟨h.lt, h.p0, h.p1, h.num, h.ag, h.many, h.below.drew⟩
theorem bagBox_own {β : Type} (b0 M N n : Nat) (T R : ByteArray) (again : Bool) (w : World) (hb : b0 ≤ w.heap.size) (B : Nat) (hB : b0 ≤ B) : OwnFrom B (fun (_ : β) W => BagBox b0 M N n T R again w W) := fun s X Y row h hg hr => by
  have hc : ∀ {c : Nat} {t : TypeId} {u : Value}, Boxed X c t u → Boxed Y c t u := fun {c t u} hx => Own.from (boxed_own (β := Unit) c t (fun _ => u)) B () X Y row hx hg hr
  exact ⟨h.lt, cell_kept h.p0 hg (fun r e => (hr r e).2), cell_kept h.p1 hg (fun r e => (hr r e).2), hc h.num, hc h.ag, hc h.many, ownFrom_below hb hB () X Y row h.below hg hr⟩
theorem bagBox_new (w w1 : World) (N n : Nat) (T R : ByteArray) (again : Bool)
    (hb : Below (w.heap.size + 1 + 1 + 1) (((w.alloc (.cells #[.string T, .string R] 41)).alloc (.cells #[.int .i64 n] 3)).alloc (.cells #[.bool again] 4)) w1) (hs : w.heap.size + 1 + 1 + 1 < w1.heap.size) :
    BagBox w.heap.size w1.heap.size N n T R again w (w1.alloc (.cells #[.slice (some ⟨w.heap.size + 1 + 1 + 1, 0, none⟩) N N] 44)) := by
  have hb2 : Below (w.heap.size + 1 + 1 + 1) (((w.alloc (.cells #[.string T, .string R] 41)).alloc (.cells #[.int .i64 n] 3)).alloc (.cells #[.bool again] 4)) (w1.alloc (.cells #[.slice (some ⟨w.heap.size + 1 + 1 + 1, 0, none⟩) N N] 44)) := hb.alloc (by omega) _
  have x0 : (((w.alloc (.cells #[.string T, .string R] 41)).alloc (.cells #[.int .i64 n] 3)).alloc (.cells #[.bool again] 4)).heap[w.heap.size]? = some (.cells #[.string T, .string R] 41 (0, 0)) :=
    ((((Below.refl _ (w.alloc (.cells #[.string T, .string R] 41))).alloc (Nat.le_refl _) _).alloc (by simp) _).block w.heap.size (by simp)).trans (heap_alloc_new w _)
  have xn := (Boxed.new (w.alloc (.cells #[.string T, .string R] 41)) 3 (.int .i64 n)).alloc (.cells #[.bool again] 4)
  have xa := Boxed.new ((w.alloc (.cells #[.string T, .string R] 41)).alloc (.cells #[.int .i64 n] 3)) 4 (.bool again)
  simp only [World.size_alloc] at xn xa
  have y0 := (hb2.block w.heap.size (by omega)).trans x0
  refine ⟨hs, ?_, ?_, (hb2.block (w.heap.size + 1) (by omega)).trans xn, (hb2.block (w.heap.size + 1 + 1) (by omega)).trans xa, Boxed.new w1 _ _, ?_⟩
  · rw [cell_of_row _ _ _ _ _ _ y0]; rfl
  · rw [cell_of_row _ _ _ _ _ _ y0]; rfl
  · exact ((((Below.refl _ w).alloc (Nat.le_refl _) _).alloc (by simp) _).alloc (by simp; omega) _).trans (hb2.mono (by omega))
theorem IRow.drew {w : World} {g N : Nat} {c : Nat → Int} (h : IRow w g N c) : IRow w.drew g N c := h
theorem keepsB_put {p q : Nat} (W : World) (a : Addr) (v : Value) (hp : a.block ≠ p) (hq : a.block ≠ q) : KeepsB p q W (W.setCell a v).drew :=
  ⟨fun _ x => (Below.heap_setCell _ _ _ p (fun e => hp e.symm)).trans x, fun _ x => (Below.heap_setCell _ _ _ q (fun e => hq e.symm)).trans x⟩

end Go.Proofs.Ytojjfkabepkhdaa
