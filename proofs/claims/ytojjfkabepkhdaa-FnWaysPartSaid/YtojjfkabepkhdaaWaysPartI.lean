/-
  The walk of WaysPart, of the program.
-/
import Derived.Test.YtojjfkabepkhdaaWayLenI
set_option linter.unusedVariables false
set_option linter.unusedSimpArgs false
namespace Go.Proofs.Ytojjfkabepkhdaa
open Go.RowKit

theorem boxed_belowP {w w' : World} {B : Nat} {t : TypeId} {v : Value} (h : Boxed w B t v) (hb : Below w.heap.size w w') : Boxed w' B t v := (hb.block B h.lt).trans h
/-- The four boxes of WaysPart: the number, the number of numbers, and the results. -/
structure PartBox (b0 : Nat) (n k v : Int) (b : Bool) (w W : World) : Prop where
  n : Boxed W b0 3 (.int .i64 n)
  k : Boxed W (b0 + 1) 3 (.int .i64 k)
  v : Boxed W (b0 + 1 + 1) 3 (.int .i64 v)
  b : Boxed W (b0 + 1 + 1 + 1) 4 (.bool b)
  below : Below b0 w W
theorem partBox_new (n k : Int) (w : World) : PartBox w.heap.size n k 0 false w ((((w.alloc (.cells #[.int .i64 n] 3)).alloc (.cells #[.int .i64 k] 3)).alloc (.cells #[.int .i64 0] 3)).alloc (.cells #[.bool false] 4)) := by
  have b1 := Boxed.new (w.alloc (.cells #[.int .i64 n] 3)) 3 (.int .i64 k)
  have b2 := Boxed.new ((w.alloc (.cells #[.int .i64 n] 3)).alloc (.cells #[.int .i64 k] 3)) 3 (.int .i64 0)
  have b3 := Boxed.new (((w.alloc (.cells #[.int .i64 n] 3)).alloc (.cells #[.int .i64 k] 3)).alloc (.cells #[.int .i64 0] 3)) 4 (.bool false)
  simp only [World.size_alloc] at b1 b2 b3
  exact ⟨(((Boxed.new w _ _).alloc _).alloc _).alloc _, (b1.alloc _).alloc _, b2.alloc _, b3, ((((Below.refl _ w).alloc (Nat.le_refl _) _).alloc (by simp) _).alloc (by simp; omega) _).alloc (by simp; omega) _⟩
theorem PartBox.step {b0 : Nat} {n k v : Int} {b : Bool} {w W V : World} (h : PartBox b0 n k v b w W) (hb : Below W.heap.size W V) : PartBox b0 n k v b w V :=
  ⟨boxed_belowP h.n hb, boxed_belowP h.k hb, boxed_belowP h.v hb, boxed_belowP h.b hb, h.below.trans (hb.mono (by have := h.n.lt; omega))⟩
theorem PartBox.set {b0 : Nat} {n k v : Int} {b : Bool} {w W : World} (h : PartBox b0 n k v b w W) (v' : Int) (b' : Bool) : PartBox b0 n k v' b' w ((W.setCell ⟨b0 + 1 + 1, 0, none⟩ (.int .i64 v')).setCell ⟨b0 + 1 + 1 + 1, 0, none⟩ (.bool b')) :=
  ⟨(h.n.other (by omega) _).other (by omega) _, (h.k.other (by omega) _).other (by omega) _, (h.v.set _).other (by omega) _, (h.b.other (by omega) _).set _, (h.below.setCell (p := ⟨b0 + 1 + 1, 0, none⟩) (show b0 ≤ b0 + 1 + 1 from by omega) _).setCell (p := ⟨b0 + 1 + 1 + 1, 0, none⟩) (show b0 ≤ b0 + 1 + 1 + 1 from by omega) _⟩
theorem partBox_own {β : Type} (b0 : Nat) (n k v : Int) (b : Bool) (w : World) (hb : b0 ≤ w.heap.size) (B : Nat) (hB : b0 ≤ B) : OwnFrom B (fun (_ : β) W => PartBox b0 n k v b w W) := fun s X Y row h hg hr => by
  have hc : ∀ {c : Nat} {t : TypeId} {u : Value}, Boxed X c t u → Boxed Y c t u := fun {c t u} hx => Own.from (boxed_own (β := Unit) c t (fun _ => u)) B () X Y row hx hg hr
  exact ⟨hc h.n, hc h.k, hc h.v, hc h.b, ownFrom_below hb hB () X Y row h.below hg hr⟩

set_option maxRecDepth 100000 in
set_option maxHeartbeats 2000000 in
theorem implWaysPart_off (s : ByteArray) (n k m : Int) (w : World) (hs : s.size ≤ 1048576) (hL : LibAt m w) (h : okW s n 40 = false) :
    Calls Try.prog 18 #[.string s, .int .i64 n, .int .i64 k] w fun e w' => TellsPart s n k e ∧ Below w.heap.size w w' := by
  have HO := Lib.hid (tellsPart_off (s := s) (n := n) (k := k) (by unfold partOk; rw [h]; rfl))
  unfold okW at h
  have hN := partBox_new n k w
  have HPB := Lib.hid hN
  have hL4 := hL.below hN.below
  have cn := hN.n.cell
  clear hN
  go_enter Try.func18, Try.ntmps18
  go_wp2_with fail
  refine (waySet_any s n 40 m _ hs hL4).mono ?_
  rintro e w1 ⟨⟨T, R, rfl, hsp⟩, hb⟩
  have hP1 := (HPB.out.step hb).step ((Below.refl _ _).alloc (Nat.le_refl _) (.cells #[.string T, .string R] 41))
  have HP2 := Lib.hid (hP1.set 0 false)
  have cv := hP1.v.cell
  have fv := hP1.v.frozen
  have cb := hP1.b.cell
  have fb := hP1.b.frozen
  have xb := (hP1.b.other (B' := w.heap.size + 1 + 1) (by omega) (.int .i64 0)).cell
  have gb := (hP1.b.other (B' := w.heap.size + 1 + 1) (by omega) (.int .i64 0)).frozen
  rw [h]
  clear hsp hb h hP1 hL4 cn
  go_wp2
  generalize ((w1.alloc _).setCell ⟨w.heap.size + 1 + 1, 0, none⟩ _).setCell ⟨w.heap.size + 1 + 1 + 1, 0, none⟩ _ = wF at HP2 ⊢
  have f0 := HP2.out.v.cell
  have f1 := HP2.out.b.cell
  have HE : TellsPart s n k (Ending.returned (.tuple #[.int .i64 0, .bool false])) ∧ Below w.heap.size w wF := ⟨HO.out, HP2.out.below⟩
  refine bodyPost_ret (v := .tuple #[.int .i64 0, .bool false]) ?_ rfl HE
  simp [results, Try.results18, go_sem, f0, f1]

set_option maxRecDepth 100000 in
set_option maxHeartbeats 4000000 in
theorem implWaysPart_on (s : ByteArray) (n : Nat) (k m : Int) (w : World) (hs : s.size ≤ 1048576) (hL : LibAt m w) (h : okW s n 40 = true) (h1 : smallS s = true) (hn : n ≤ 40) :
    Calls Try.prog 18 #[.string s, .int .i64 n, .int .i64 k] w fun e w' => TellsPart s n k e ∧ Below w.heap.size w w' := by
  have HON := Lib.hid (fun (j : Nat) (hj : k = j) (hj40 : j ≤ 40) => tellsPart_on (s := s) (n := n) (k := j) (v := partI (fS s) j n) (by
    unfold partOk; rw [h, Bool.true_and]
    unfold inR; rw [decide_eq_true (by omega), decide_eq_true (by omega)]; rfl) rfl)
  have HOF := Lib.hid (fun (hj : k < 0 ∨ 40 < k) => tellsPart_off (s := s) (n := (n : Int)) (k := k) (by
    unfold partOk
    rcases inR_cases k 0 40 with ⟨_, a, b⟩ | ⟨a, _⟩
    · omega
    · rw [a, Bool.and_false]))
  unfold okW at h
  have hN := partBox_new n k w
  have HPB := Lib.hid hN
  have hL4 := hL.below hN.below
  have cn := hN.n.cell
  clear hN
  refine (callsIn_wide (n := 20)).1 ?_
  refine callsIn_of_wp_marks Try.func18 rfl trivial ?_ rfl
  simp only [Try.ntmps18, List.size_toArray, List.length_cons, List.length_nil, Nat.reduceAdd, Nat.reduceSub, Array.replicate_succ, Array.replicate_zero, List.push_toArray, List.append_toArray, List.nil_append, List.cons_append]
  gi_wp2_with fail
  refine ⟨trivial, (callsIn_wide.2 (waySet_any s n 40 m _ hs hL4)).mono ?_⟩
  rintro e w1 ⟨⟨T, R, rfl, hsp⟩, hb⟩
  have HSP := Lib.hid (hsp h1)
  have hP1 := (HPB.out.step hb).step ((Below.refl _ _).alloc (Nat.le_refl _) (.cells #[.string T, .string R] 41))
  have HP1 := Lib.hid hP1
  have cn1 := hP1.n.cell
  rw [h]
  clear hsp hb h hL4 cn hP1 h1
  gi_wp2_with fail
  refine ⟨trivial, (callsIn_wide.2 (byLength_call T R n _)).mono ?_⟩
  rintro e W0 ⟨rfl, rfl⟩
  generalize w1.alloc (.cells #[.string T, .string R] 41) = w2 at HP1 cn1 ⊢
  have HPQ := Lib.hid (pBox_new T R n w2)
  have HP0 := Lib.hid ((HP1.out.step ((Below.refl _ _).alloc (Nat.le_refl _) (.cells #[.string T, .string R] 41))).step ((Below.refl _ _).alloc (Nat.le_refl _) (.cells #[.int .i64 n] 3)))
  have hlt := HP1.out.b.lt
  have HLT := Lib.hid hlt
  clear hlt cn1
  gi_wp2
  try simp only [World.size_alloc]
  refine rangeQ rfl (by decide) (gf := 68) (lb := #[.pointer (some ⟨w2.heap.size + 1, 0, none⟩), .pointer (some ⟨w2.heap.size, 0, none⟩)]) rfl trivial (enters_of Try.func68 (by kernel_rfl) rfl)
    (byLength_stops (fS s) T R n w2.heap.size w2.heap.size (w2.heap.size + 1) _ HSP.out.parts hn (Nat.le_refl _) (Nat.le_succ _) _ (by simp; omega) HPQ.out) (Below.refl _ _) (fun _ => rfl) keepsHi_t (fun W l r o' _ hl => keepsHi_b W l r o' hl)
    (fun pre W => (k < 0 ∨ (pre.length : Int) ≤ k) ∧ PartBox w.heap.size n k 0 false w W)
    (fun pre W => ∃ j : Nat, k = j ∧ j ≤ 40 ∧ PartBox w.heap.size n k (partI (fS s) j n) true w W)
    (OwnFrom.and (ownFrom_pure _ _) (partBox_own _ _ _ _ _ _ (Nat.le_refl _) _ (by have := HLT.out; simp; omega)))
    (fun s X Y row hs hg hr => by obtain ⟨j, e1, e2, h3⟩ := hs; exact ⟨j, e1, e2, partBox_own (β := Unit) _ _ _ _ _ _ (Nat.le_refl _) _ (by have := HLT.out; simp; omega) () X Y row h3 hg hr⟩)
    (lenKn_own _ _ _ _)
    ⟨by rcases Int.lt_or_le k 0 with x | x; exact .inl x; exact .inr (by simpa using x), HP0.out⟩
    (fun x => { tmps := #[.string s, .int .i64 n, .int .i64 k, undef, .pointer (some ⟨w.heap.size, 0, none⟩), .pointer (some ⟨w.heap.size + 1, 0, none⟩), .pointer (some ⟨w.heap.size + 1 + 1, 0, none⟩), .pointer (some ⟨w.heap.size + 1 + 1 + 1, 0, none⟩), .pointer (some ⟨w1.heap.size, 0, none⟩), .bool true, .int .i64 (x.1.1 : Int), .slice x.2.1 (n + 1 : Nat) x.2.2,
      .tuple #[.agg #[.string T, .string R], .bool true], .string s, .int .i64 n, .tuple #[.agg #[.string T, .string R], .bool true], .agg #[.string T, .string R], .bool true, .bool true, .bool false, .agg #[.string T, .string R], .int .i64 n, .func (.func 68) #[] #[.pointer (some ⟨w2.heap.size + 1, 0, none⟩), .pointer (some ⟨w2.heap.size, 0, none⟩)], .int .i64 (x.1.1 : Int), .slice x.2.1 (n + 1 : Nat) x.2.2, undef, undef, undef, undef, undef, undef, undef], defers := [] }) ?assign ?body ?done ?stop
  case assign =>
    intro l x W K hK
    have hsem := @Oper.semAt_some
    gi_wp2
    exact hK
  case body =>
    rintro l pre ⟨⟨j, hj⟩, a, c⟩ W ⟨hge, hP⟩ ⟨hpre, hkn⟩
    have hsem := @Oper.semAt_some
    dsimp only at hpre hkn ⊢
    obtain ⟨g, o, rfl, hg, c0⟩ := hkn.reads.at (i := n) (Nat.lt_succ_self _)
    have ck := hP.k.cell
    have cn := hP.n.cell
    have cv := hP.v.cell
    have fv := hP.v.frozen
    have xb := (hP.b.other (B' := w.heap.size + 1 + 1) (by omega) (.int .i64 (partI (fS s) j n))).cell
    have gb := (hP.b.other (B' := w.heap.size + 1 + 1) (by omega) (.int .i64 (partI (fS s) j n))).frozen
    have HP := Lib.hid hP
    have HP2 := Lib.hid (hP.set (partI (fS s) j n) true)
    have HLEN := Lib.hid hpre
    clear hP hkn hpre
    by_cases hjk : (j : Int) = k
    · gi_wp2
      refine ⟨((KeepsOthers.setCell _ _ _).trans (KeepsOthers.setCell _ _ _)).from _, j, hjk.symm, hj, HP2.out⟩
    · have HGE : Hid (k < 0 ∨ ((pre ++ [((⟨j, hj⟩, (some ⟨g, o, none⟩, c)) : LenX)]).length : Int) ≤ k) := Lib.hid (by
        have h9 := HLEN.out
        rcases hge with e | e
        · exact .inl e
        · refine .inr ?_
          rw [List.length_append, List.length_singleton]
          omega)
      clear hge
      gi_wp2
      exact ⟨KeepsFrom.refl _ _, KeepsHi.refl _ _, HGE.out, HP.out⟩
  case done =>
    rintro D xs W hD hxs ⟨hge, hP⟩ hK
    have HOut := Lib.hid (HOF.out (by rw [hxs] at hge; omega))
    have hDs : w.heap.size ≤ D := by have := HLT.out; simp at hD; omega
    have cv := hP.v.cell
    have fv := hP.v.frozen
    have xb := (hP.b.other (B' := w.heap.size + 1 + 1) (by omega) (.int .i64 0)).cell
    have gb := (hP.b.other (B' := w.heap.size + 1 + 1) (by omega) (.int .i64 0)).frozen
    have HP2 := Lib.hid (hP.set 0 false)
    have hK' := ((KeepsOthers.setCell W ⟨w.heap.size + 1 + 1, 0, none⟩ (.int .i64 0)).trans (KeepsOthers.setCell _ ⟨w.heap.size + 1 + 1 + 1, 0, none⟩ (.bool false))).same D _ hK rfl
    have HK := Lib.hid hK'
    clear hP hge hD hK'
    gi_wp2
    generalize (W.setCell ⟨w.heap.size + 1 + 1, 0, none⟩ _).setCell ⟨w.heap.size + 1 + 1 + 1, 0, none⟩ _ = wF at HP2 HK ⊢
    refine ⟨by simp, .inl ⟨_, _, rfl, run_takeDeferred HK.out, ?_⟩⟩
    have f0 := cell_kept HP2.out.v.cell (grownBy_putObj' wF D (.deferred none)) (fun r e => by cases e; exact ⟨_, HK.out, rfl⟩)
    have f1 := cell_kept HP2.out.b.cell (grownBy_putObj' wF D (.deferred none)) (fun r e => by cases e; exact ⟨_, HK.out, rfl⟩)
    exact ⟨.tuple #[.int .i64 0, .bool false], by simp [results, Try.results18, go_sem, f0, f1], HOut.out, HP2.out.below.trans (belowK_b (w := w) (Nat.le_refl _) wF D _ _ hDs HK.out rfl rfl)⟩
  case stop =>
    rintro D pre W hD _ ⟨j, hj, hj40, hP⟩ hK
    have HOut := Lib.hid (HON.out j hj hj40)
    have hDs : w.heap.size ≤ D := by have := HLT.out; simp at hD; omega
    have HP2 := Lib.hid hP
    clear hP hD
    gi_wp2
    refine ⟨by simp, .inl ⟨_, _, rfl, run_takeDeferred hK, ?_⟩⟩
    have f0 := cell_kept HP2.out.v.cell (grownBy_putObj' W D (.deferred none)) (fun r e => by cases e; exact ⟨_, hK, rfl⟩)
    have f1 := cell_kept HP2.out.b.cell (grownBy_putObj' W D (.deferred none)) (fun r e => by cases e; exact ⟨_, hK, rfl⟩)
    exact ⟨.tuple #[.int .i64 (partI (fS s) j n), .bool true], by simp [results, Try.results18, go_sem, f0, f1], by rw [hj]; exact HOut.out, HP2.out.below.trans (belowK_b (w := w) (Nat.le_refl _) W D _ _ hDs hK rfl rfl)⟩

theorem implWaysPart (s : ByteArray) (n k m : Int) (w : World) (hs : s.size ≤ 1048576) (hL : LibAt m w) :
    Calls Try.prog 18 #[.string s, .int .i64 n, .int .i64 k] w fun e w' => TellsPart s n k e ∧ Below w.heap.size w w' := by
  cases h : okW s n 40
  · exact implWaysPart_off s n k m w hs hL h
  · obtain ⟨h1, j, rfl, hj⟩ := okW_nat h
    exact implWaysPart_on s j k m w hs hL h h1 (by omega)

end Go.Proofs.Ytojjfkabepkhdaa
