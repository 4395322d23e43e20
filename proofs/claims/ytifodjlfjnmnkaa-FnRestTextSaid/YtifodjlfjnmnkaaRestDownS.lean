/-
  The walk of spec.l5Down, which writes a rest, and of spec.l5Given.
-/
import Derived.Test.YtifodjlfjnmnkaaMarkRow
import Derived.Test.YtifodjlfjnmnkaaRestMath
import Derived.Test.YtifodjlfjnmnkaaReadS
import Derived.Test.YtifodjlfjnmnkaaHasS
import Derived.Test.YtifodjlfjnmnkaaInS
import Derived.Test.YtifodjlfjnmnkaaSteps
import Derived.Deep.RegionHeld3
import Derived.Lib.MinMax
set_option linter.unusedVariables false
set_option linter.unusedSimpArgs false
namespace Go.Proofs.Ytifodjlfjnmnkaa
open Go.RowKit

/-- The tidy text of a rest. -/
def downT (f : Nat → Bool) (m q k : Nat) : ByteArray := ⟨(textOf (part (downF f k) 0 (m - k)) (part (downF f k) (m - k) q)).toArray⟩
theorem downT_tidy {f : Nat → Bool} {m q : Nat} (h : Tidy f m q) (hm : m ≤ 60) (hq : q ≤ 60) (k : Nat) : TidyText (downF f k) (downT f m q k) := ⟨m - k, q, down_tidy h k, by omega, hq, rfl⟩
theorem downT_same {f : Nat → Bool} {m q : Nat} (h : Tidy f m q) (hm : m ≤ 60) (hq : q ≤ 60) (i j : Nat) : downT f m q i = downT f m q j ↔ downF f i = downF f j := by
  constructor
  · intro e
    have h1 := (downT_tidy h hm hq i).told.set
    have h2 := (downT_tidy h hm hq j).told.set
    rw [← h1, ← h2, e]
  · intro e
    exact tidyText_same (downT_tidy h hm hq i) (e ▸ downT_tidy h hm hq j)

theorem downT_beq {f : Nat → Bool} {m q : Nat} (h : Tidy f m q) (hm : m ≤ 60) (hq : q ≤ 60) (i j : Nat) : ((downT f m q i).toList == (downT f m q j).toList) = true ↔ downF f i = downF f j := by
  rw [bytes_beq, decide_eq_true_iff]
  exact downT_same h hm hq i j

set_option maxRecDepth 100000 in
set_option maxHeartbeats 1000000 in
theorem l5Down_any (s : ByteArray) (a1 a2 : Option Addr) (n1 c1 n2 c2 k m q : Nat) (w : World) (hr : IsRead w s a1 n1 a2 n2) (ht : Tidy (fS s) m q) (hk : k ≤ 100000) :
    Calls Try.prog 54 #[.agg #[.slice a1 n1 c1, .slice a2 n2 c2], .int .i64 k] w fun e w' => e = .returned (.string (downT (fS s) m q k)) ∧ Below w.heap.size w w' := by
  obtain ⟨i0, hi, hz0, hz1, hz2⟩ := info_parts Try.infoBool
  have l1 := hr.tailLe
  have l2 := hr.ringLe
  have l3 := hr.ringPos
  obtain ⟨tl, htl⟩ : ∃ tl : Nat, tl = n1 - k := ⟨_, rfl⟩
  have hmx : max (0 : Int) ((n1 : Int) - (k : Int)) = (tl : Int) := by omega
  have htl60 : tl ≤ 60 := by omega
  have HP : Hid (∀ n, tl ≤ n → downF (fS s) k (n + n2) = downF (fS s) k n) := Lib.hid (fun n h => by
    have := downF_round s k n (by rw [hr.tail.len]; omega)
    rw [hr.ring.len] at this
    exact this)
  clear htl
  have HR := Lib.hid (hr.alloc (.cells #[.slice a1 n1 c1, .slice a2 n2 c2] 66))
  have HT := Lib.hid (down_tidy ht k)
  clear hr
  go_enter Try.func54, Try.ntmps54
  go_wp2
  go_loopw [5, 7] (fun v i wr => ∃ n : Nat, n ≤ tl + n2 ∧ i = .int .i64 n ∧ Marks (downF (fS s) k) (w.heap.size + 1) (w.heap.size + 1) (w.alloc (.cells #[.slice a1 n1 c1, .slice a2 n2 c2] 66)) wr v n)
    (fun _ i _ => tl + n2 - (intOf i).toNat)
  case atStart => exact ⟨0, Nat.zero_le _, rfl, marks_box _ _ _⟩
  case round =>
    obtain ⟨n, hn, rfl, hM⟩ := hrel
    obtain ⟨q0, q1⟩ := box_later (by simpa using hM.below)
    have hsz := hM.below.size
    simp at hsz
    have HD := Lib.hid (HR.out.below hM.below (by simp))
    by_cases hlt : n < tl + n2
    · obtain ⟨b, hbv⟩ : ∃ b, downF (fS s) k n = b := ⟨_, rfl⟩
      have hcall := l1Has_on s a1 a2 n1 c1 n2 c2 (n + k) wr HD.out (by omega)
      have hIv : hasI (setT s) (setR s) ((n + k : Nat) : Int) = b := by rw [hasI_nat]; exact hbv
      rw [hIv] at hcall
      have HV := Lib.hid hbv
      have HM := Lib.hid hM
      clear hIv hbv hM
      have hlt' : (n : Int) < (tl : Int) + (n2 : Int) := by omega
      go_wp2_with fail
      refine hcall.mono ?_
      rintro e w3 ⟨rfl, hb3⟩
      have hsz3 := hb3.size
      have hM3 := HM.out.step (by omega) hb3
      clear hb3 HM hcall
      go_wp2_with
        (at_builtin; refine wpList_append_own _ rfl _ _ 64 rfl (w.heap.size + 1) 4 i0 (.bool false) 1 1 Try.underlying64 hi hz0 hz1 hz2 rfl (by decide) _ _ _ rfl (hM3.own.alloc _) ⟨w3.heap.size, 0, none⟩ 1 1 [.bool b] rfl rfl ?c1 ?c2 ?c3 ?c4 ?c5 ?_)
      case c1 =>
        intro j u hj
        match j, hj with
        | 0, hj => simp at hj; subst hj; simp [Addr.add]
      case c2 => intro u hu; simp at hu; subst hu; rfl
      case c3 => unfold maxLen; omega
      case c4 => omega
      case c5 => simp; omega
      intro v' w4 hown4 hgrow _
      have HM4 := Lib.hid (hM3.grow HV.out (Nat.le_refl _) (by omega) hown4 hgrow)
      clear hown4 hgrow hM3
      go_wp2
      go_roundw
      case rel => exact ⟨n + 1, by omega, by go_num, HM4.out⟩
      case measure => simp [intOf]; omega
    · obtain rfl : n = tl + n2 := by omega
      obtain ⟨a, c, rfl⟩ := own_form hM.own
      obtain ⟨g, rfl⟩ : ∃ g, a = some ⟨g, 0, none⟩ := by
        rcases hM.own.2 with ⟨_, h0⟩ | ⟨g, _, _, hv, _⟩
        · omega
        · injection hv with ha _ _; exact ⟨g, ha⟩
      have HI := fill_in hM.own l3 (by omega) (by omega)
      have HPB := hasB_part l3 HP.out
      obtain ⟨c1', _⟩ := own_cap hM.own
      have HK : Hid (∀ W', Below wr.heap.size wr W' → Calls Try.prog 78 #[.agg #[.slice (some ⟨g, 0, none⟩) tl c, .slice (some ⟨g, tl, none⟩) n2 (c - tl)]] W' fun e w' =>
          ∃ b1 e1 b2 e2, e = .returned (.agg #[.slice b1 (m - k : Nat) e1, .slice b2 q e2]) ∧ Below W'.heap.size W' w' ∧ LessIn w' (part (downF (fS s) k) 0 (m - k)) (part (downF (fS s) k) (m - k) q) b1 (m - k) e1 b2 q e2) :=
        Lib.hid fun W' hb => (less_any _ _ _ _ _ _ _ _ _ W' rfl (HI.below hb (Nat.le_refl _))).mono fun e w' ⟨b1, m', e1, b2, q', e2, he, hb2, hout⟩ => by
          have htd := hout.tidy
          have hli := hout.lies
          rw [HPB] at htd
          obtain ⟨h1, h2⟩ := tidy_unique htd HT.out
          subst h2
          subst h1
          rw [HPB] at hli
          exact ⟨b1, e1, b2, e2, he, hb2, hli⟩
      have b1 : (tl : Int) ≤ (c : Int) := by omega
      have b2 : (tl : Int) ≤ (tl : Int) + (n2 : Int) := by omega
      have b3 : (tl : Int) + (n2 : Int) ≤ (c : Int) := by omega
      have b4 : ¬ c = tl := by omega
      have hlt' : ¬ (tl : Int) + (n2 : Int) < (tl : Int) + (n2 : Int) := by omega
      have HB := Lib.hid ((below_step ((Below.refl w.heap.size w).alloc (Nat.le_refl _) (.cells #[.slice a1 n1 c1, .slice a2 n2 c2] 66)) (by simpa using hM.below)))
      clear hM HI HPB
      go_wp2
      go_region_with (first
        | (go_at_call 78; (with_reducible refine (HK.out _ ?_).mono ?_); exact below_drewN (Below.refl _ _) _; rintro e w3 ⟨x1, e1, x2, e2, rfl, hb3, hl3⟩; have HB3 := Lib.hid (HB.out.trans ((below_drewN (Below.refl wr.heap.size wr) 1).mono HB.out.size |>.trans (hb3.mono HB.out.size))); have HL3 := Lib.hid hl3; clear hb3 hl3)
        | (go_at_call 86; refine (write_any _ _ _ _ _ _ _ _ _ HL3.out).mono ?_; rintro e w4 ⟨rfl, hb4⟩; have HB4 := Lib.hid (below_step HB3.out hb4); clear hb4))
      all_goals
        go_wp2
        go_ret
        exact ⟨rfl, HB4.out⟩

/-- What l5Given reads. -/
def GivenIs (ok : Bool) (s : ByteArray) (e : Ending) (w' : World) : Prop :=
  ∃ a1 n1 c1 a2 n2 c2, e = .returned (.tuple #[.agg #[.slice a1 n1 c1, .slice a2 n2 c2], .bool ok]) ∧ (ok = true → IsRead w' s a1 n1 a2 n2)

theorem box_open {w1 wr : World} {xs : Array Value} {T : TypeId} (hB : Below (w1.alloc (.cells xs T)).heap.size (w1.alloc (.cells xs T)) wr) (i : Nat) : wr.frozen? ⟨w1.heap.size, i, none⟩ = false := by
  have h1 : wr.heap[w1.heap.size]? = some (.cells xs T (0, 0)) := (hB.block _ (by simp)).trans (heap_alloc_new w1 _)
  exact frozen_of_row wr _ _ _ _ h1
theorem given_set {w w1 : World} {o : Obj} (hb : Below (w.alloc o).heap.size (w.alloc o) w1) (o2 : Obj) (x y : Value) :
    Below w.heap.size w (((w1.alloc o2).setCell ⟨w.heap.size, 0, none⟩ x).setCell ⟨w.heap.size, 1, none⟩ y) :=
  (((((Below.refl w.heap.size w).alloc (Nat.le_refl _) o).trans (hb.mono (by simp))).alloc (by have := hb.size; rw [World.size_alloc] at this; omega) o2).setCell (Nat.le_refl _) x).setCell (Nat.le_refl _) y

theorem other_two {W : World} {S S' : Nat} (h : S' ≠ S) (x y : Value) (i : Nat) : ((W.setCell ⟨S, 0, none⟩ x).setCell ⟨S, 1, none⟩ y).drew.cell? ⟨S', i, none⟩ = W.drew.cell? ⟨S', i, none⟩ := by
  show ((W.setCell ⟨S, 0, none⟩ x).setCell ⟨S, 1, none⟩ y).cell? ⟨S', i, none⟩ = W.cell? ⟨S', i, none⟩
  rw [World.cell?_of_block (heap_setCell_other (W.setCell ⟨S, 0, none⟩ x) ⟨S, 1, none⟩ S' y h), World.cell?_of_block (heap_setCell_other W ⟨S, 0, none⟩ S' x h)]
theorem set_two {W : World} {S : Nat} {u v x y : Value} (h0 : W.cell? ⟨S, 0, none⟩ = some u) (h1 : W.cell? ⟨S, 1, none⟩ = some v) :
    ((W.setCell ⟨S, 0, none⟩ x).setCell ⟨S, 1, none⟩ y).drew.cell? ⟨S, 0, none⟩ = some x ∧ ((W.setCell ⟨S, 0, none⟩ x).setCell ⟨S, 1, none⟩ y).drew.cell? ⟨S, 1, none⟩ = some y := by
  refine ⟨?_, ?_⟩
  · show ((W.setCell ⟨S, 0, none⟩ x).setCell ⟨S, 1, none⟩ y).cell? ⟨S, 0, none⟩ = some x
    simp [go_sem, h0, h1]
  · show ((W.setCell ⟨S, 0, none⟩ x).setCell ⟨S, 1, none⟩ y).cell? ⟨S, 1, none⟩ = some y
    simp [go_sem, h0, h1]
theorem isRead_set {w : World} {s : ByteArray} {a1 a2 : Option Addr} {n1 n2 : Nat} (h : IsRead w s a1 n1 a2 n2) {S : Nat} (h1 : ∀ b, a1 = some b → b.block ≠ S) (h2 : ∀ b, a2 = some b → b.block ≠ S) (i : Nat) (u : Value) :
    IsRead (w.setCell ⟨S, i, none⟩ u) s a1 n1 a2 n2 := by
  have key : ∀ {a : Option Addr} {n : Nat} {bs : List Bool}, Reads w a n bs → (∀ b, a = some b → b.block ≠ S) → Reads (w.setCell ⟨S, i, none⟩ u) a n bs := fun {a n bs} hr hne => by
    refine ⟨hr.len, ?_⟩
    rcases hr.cells with h0 | ⟨g, o, ha, hg, hc⟩
    · exact .inl h0
    · refine .inr ⟨g, o, ha, by simpa [World.setCell] using hg, fun j hj => ?_⟩
      rw [← hc j hj]
      exact World.cell?_of_block (heap_setCell_other w _ g _ (hne _ ha))
  exact ⟨key h.tail h1, key h.ring h2, h.tailLe, h.ringLe, h.ringPos⟩

theorem IsRead.drewSame {w : World} {s : ByteArray} {a1 a2 : Option Addr} {n1 n2 : Nat} (h : IsRead w s a1 n1 a2 n2) : IsRead w.drew s a1 n1 a2 n2 := h.below (Below.refl w.heap.size w).drew (Nat.le_refl _)
set_option maxHeartbeats 2000000 in
theorem given_off (s : ByteArray) (k : Int) (w : World) (hs : s.size ≤ 1048576) (h : okS s = false) :
    Calls Try.prog 60 #[.string s, .int .i64 k] w fun e w' => GivenIs false s e w' ∧ Below w.heap.size w w' := by
  have hcall := read_off s (w.alloc (.cells #[.slice none 0 0, .slice none 0 0] 66)) hs h
  go_enter Try.func60, Try.ntmps60
  go_wp2_with fail
  refine hcall.mono ?_
  rintro e w1 ⟨a1, n1, c1, a2, n2, c2, rfl, hb⟩
  have hb1 := hb.alloc hb.size (.cells #[.slice a1 n1 c1, .slice a2 n2 c2] 66)
  obtain ⟨q0, q1⟩ := box_later hb1
  have z0 := box_open hb1 0
  have z1 := box_open hb1 1
  have HB := Lib.hid (given_set hb (.cells #[.slice a1 n1 c1, .slice a2 n2 c2] 66) (.slice a1 n1 c1) (.slice a2 n2 c2)).drew
  have hne : w1.heap.size ≠ w.heap.size := by have := hb.size; rw [World.size_alloc] at this; omega
  have r0 : (w1.alloc (.cells #[.slice a1 n1 c1, .slice a2 n2 c2] 66)).drew.cell? ⟨w1.heap.size, 0, none⟩ = some (.slice a1 n1 c1) := by show (w1.alloc _).cell? _ = _; rw [World.cell?_alloc_at _ _ _ _ rfl]; rfl
  have r1 : (w1.alloc (.cells #[.slice a1 n1 c1, .slice a2 n2 c2] 66)).drew.cell? ⟨w1.heap.size, 1, none⟩ = some (.slice a2 n2 c2) := by show (w1.alloc _).cell? _ = _; rw [World.cell?_alloc_at _ _ _ _ rfl]; rfl
  have s0 : ((((w1.alloc (.cells #[.slice a1 n1 c1, .slice a2 n2 c2] 66)).setCell ⟨w.heap.size, 0, none⟩ (.slice a1 n1 c1)).setCell ⟨w.heap.size, 1, none⟩ (.slice a2 n2 c2)).drew).cell? ⟨w1.heap.size, 0, none⟩ = some (.slice a1 n1 c1) := (other_two hne _ _ 0).trans r0
  have s1 : ((((w1.alloc (.cells #[.slice a1 n1 c1, .slice a2 n2 c2] 66)).setCell ⟨w.heap.size, 0, none⟩ (.slice a1 n1 c1)).setCell ⟨w.heap.size, 1, none⟩ (.slice a2 n2 c2)).drew).cell? ⟨w1.heap.size, 1, none⟩ = some (.slice a2 n2 c2) := (other_two hne _ _ 1).trans r1
  obtain ⟨f0, f1⟩ := set_two (x := .slice a1 n1 c1) (y := .slice a2 n2 c2) q0 q1
  clear hb hb1 hcall
  go_wp2
  refine wp_region_noPanic ?_
  refine wp_region_held_drew (S := fun w' => w'.cell? ⟨w1.heap.size, 0, none⟩ = some (.slice a1 n1 c1) ∧ w'.cell? ⟨w1.heap.size, 1, none⟩ = some (.slice a2 n2 c2)) (by kernel_rfl) (⟨r0, r1⟩) (fun HS => ?_)
  refine' doH 0 (v := ?v0) rfl (by kernel_rfl) (by kernel_rfl) (by kernel_rfl) (fun _ _ _ h => h) rfl HS ?hy0 ?rest0
  case hy0 => (rintro w ⟨s0, s1⟩; go_simp; try with_reducible rfl)
  try simp only [Act.put, List.setIfInBounds_toArray, List.set_cons_zero, List.set_cons_succ]
  refine' doH 1 (v := ?v1) rfl (by kernel_rfl) (by kernel_rfl) (by kernel_rfl) (fun _ _ _ h => h) rfl HS ?hy1 ?rest1
  case hy1 => (rintro w ⟨s0, s1⟩; go_simp; try with_reducible rfl)
  try simp only [Act.put, List.setIfInBounds_toArray, List.set_cons_zero, List.set_cons_succ]
  refine' doH 2 (v := ?v2) rfl (by kernel_rfl) (by kernel_rfl) (by kernel_rfl) (fun _ _ _ h => h) rfl HS ?hy2 ?rest2
  case hy2 => (rintro w ⟨s0, s1⟩; go_simp; try with_reducible rfl)
  try simp only [Act.put, List.setIfInBounds_toArray, List.set_cons_zero, List.set_cons_succ]
  refine skipH 3 rfl (by kernel_rfl) (by kernel_rfl) (by kernel_rfl) (fun _ _ _ h => h) rfl HS ?_
  try simp only [Act.put, List.setIfInBounds_toArray, List.set_cons_zero, List.set_cons_succ]
  refine skipH 4 rfl (by kernel_rfl) (by kernel_rfl) (by kernel_rfl) (fun _ _ _ h => h) rfl HS ?_
  try simp only [Act.put, List.setIfInBounds_toArray, List.set_cons_zero, List.set_cons_succ]
  refine' doH 5 (v := ?v5) rfl (by kernel_rfl) (by kernel_rfl) (by kernel_rfl) (fun _ _ _ h => h) rfl HS ?hy5 ?rest5
  case hy5 => (rintro w ⟨s0, s1⟩; go_simp; try with_reducible rfl)
  try simp only [Act.put, List.setIfInBounds_toArray, List.set_cons_zero, List.set_cons_succ]
  refine oneH 6 (by kernel_rfl) rfl (fun K6 hK6 => ?_)
  go_simp
  refine hK6.out _ _ (⟨s0, s1⟩) (fun HS => ?_)
  clear hK6 K6
  try simp only [Act.put, List.setIfInBounds_toArray, List.set_cons_zero, List.set_cons_succ]
  refine' doH 7 (v := ?v7) rfl (by kernel_rfl) (by kernel_rfl) (by kernel_rfl) (fun _ _ _ h => h) rfl HS ?hy7 ?rest7
  case hy7 => (rintro w ⟨s0, s1⟩; go_simp; try with_reducible rfl)
  try simp only [Act.put, List.setIfInBounds_toArray, List.set_cons_zero, List.set_cons_succ]
  refine wpAnyH_done (by kernel_rfl) ?_ _
  refine NoPanic.normal ?_
  go_wp2
  generalize (((w1.alloc _).setCell ⟨w.heap.size, 0, none⟩ _).setCell ⟨w.heap.size, 1, none⟩ _).drew = wF at HB f0 f1 ⊢
  exact bodyPost_ret (v := .tuple #[.agg #[.slice a1 n1 c1, .slice a2 n2 c2], .bool false]) (by simp [results, Try.results60, go_sem, f0, f1]) rfl ⟨⟨a1, n1, c1, a2, n2, c2, rfl, fun h => by cases h⟩, HB.out⟩

set_option maxHeartbeats 2000000 in
theorem given_on (s : ByteArray) (k : Int) (b : Bool) (w : World) (hs : s.size ≤ 1048576) (h : okS s = true) (hk : inR k 0 1000 = b) :
    Calls Try.prog 60 #[.string s, .int .i64 k] w fun e w' => GivenIs b s e w' ∧ Below w.heap.size w w' := by
  have hcall := read_from s (w.alloc (.cells #[.slice none 0 0, .slice none 0 0] 66)) hs h
  have HIN : Hid (∀ W : World, Calls Try.prog 61 #[.int .i64 k, .int .i64 0, .int .i64 1000] W fun e w' => e = .returned (.bool b) ∧ W = w') := Lib.hid fun W => by
    rcases inR_cases k 0 1000 with ⟨h1, h2, h3⟩ | ⟨h1, h2⟩
    · rw [h1] at hk; subst hk; exact l6In_yes k 0 1000 W h2 h3
    · rw [h1] at hk; subst hk; exact l6In_no k 0 1000 W h2 (by decide)
  clear hk
  go_enter Try.func60, Try.ntmps60
  go_wp2_with fail
  refine hcall.mono ?_
  rintro e w1 ⟨a1, n1, c1, a2, n2, c2, rfl, hb, hr, k1', k2'⟩
  have k1 : ∀ b, a1 = some b → b.block ≠ w.heap.size := fun b hb => by have := k1' b hb; rw [World.size_alloc] at this; omega
  have k2 : ∀ b, a2 = some b → b.block ≠ w.heap.size := fun b hb => by have := k2' b hb; rw [World.size_alloc] at this; omega
  have hb1 := hb.alloc hb.size (.cells #[.slice a1 n1 c1, .slice a2 n2 c2] 66)
  have HR := Lib.hid (isRead_set (isRead_set (hr.alloc (.cells #[.slice a1 n1 c1, .slice a2 n2 c2] 66)) k1 k2 0 (.slice a1 n1 c1)) k1 k2 1 (.slice a2 n2 c2))
  obtain ⟨q0, q1⟩ := box_later hb1
  have z0 := box_open hb1 0
  have z1 := box_open hb1 1
  have HB := Lib.hid (given_set hb (.cells #[.slice a1 n1 c1, .slice a2 n2 c2] 66) (.slice a1 n1 c1) (.slice a2 n2 c2)).drew
  have hne : w1.heap.size ≠ w.heap.size := by have := hb.size; rw [World.size_alloc] at this; omega
  have r0 : (w1.alloc (.cells #[.slice a1 n1 c1, .slice a2 n2 c2] 66)).drew.cell? ⟨w1.heap.size, 0, none⟩ = some (.slice a1 n1 c1) := by show (w1.alloc _).cell? _ = _; rw [World.cell?_alloc_at _ _ _ _ rfl]; rfl
  have r1 : (w1.alloc (.cells #[.slice a1 n1 c1, .slice a2 n2 c2] 66)).drew.cell? ⟨w1.heap.size, 1, none⟩ = some (.slice a2 n2 c2) := by show (w1.alloc _).cell? _ = _; rw [World.cell?_alloc_at _ _ _ _ rfl]; rfl
  have s0 : ((((w1.alloc (.cells #[.slice a1 n1 c1, .slice a2 n2 c2] 66)).setCell ⟨w.heap.size, 0, none⟩ (.slice a1 n1 c1)).setCell ⟨w.heap.size, 1, none⟩ (.slice a2 n2 c2)).drew).cell? ⟨w1.heap.size, 0, none⟩ = some (.slice a1 n1 c1) := (other_two hne _ _ 0).trans r0
  have s1 : ((((w1.alloc (.cells #[.slice a1 n1 c1, .slice a2 n2 c2] 66)).setCell ⟨w.heap.size, 0, none⟩ (.slice a1 n1 c1)).setCell ⟨w.heap.size, 1, none⟩ (.slice a2 n2 c2)).drew).cell? ⟨w1.heap.size, 1, none⟩ = some (.slice a2 n2 c2) := (other_two hne _ _ 1).trans r1
  obtain ⟨f0, f1⟩ := set_two (x := .slice a1 n1 c1) (y := .slice a2 n2 c2) q0 q1
  clear hb hb1 hcall hr k1 k2 k1' k2'
  go_wp2
  refine wp_region_noPanic ?_
  refine wp_region_held_drew (S := fun w' => w'.cell? ⟨w1.heap.size, 0, none⟩ = some (.slice a1 n1 c1) ∧ w'.cell? ⟨w1.heap.size, 1, none⟩ = some (.slice a2 n2 c2)) (by kernel_rfl) (⟨r0, r1⟩) (fun HS => ?_)
  refine' doH 0 (v := ?v0) rfl (by kernel_rfl) (by kernel_rfl) (by kernel_rfl) (fun _ _ _ h => h) rfl HS ?hy0 ?rest0
  case hy0 => (rintro w ⟨s0, s1⟩; go_simp; try with_reducible rfl)
  try simp only [Act.put, List.setIfInBounds_toArray, List.set_cons_zero, List.set_cons_succ]
  refine' doH 1 (v := ?v1) rfl (by kernel_rfl) (by kernel_rfl) (by kernel_rfl) (fun _ _ _ h => h) rfl HS ?hy1 ?rest1
  case hy1 => (rintro w ⟨s0, s1⟩; go_simp; try with_reducible rfl)
  try simp only [Act.put, List.setIfInBounds_toArray, List.set_cons_zero, List.set_cons_succ]
  refine' doH 2 (v := ?v2) rfl (by kernel_rfl) (by kernel_rfl) (by kernel_rfl) (fun _ _ _ h => h) rfl HS ?hy2 ?rest2
  case hy2 => (rintro w ⟨s0, s1⟩; go_simp; try with_reducible rfl)
  try simp only [Act.put, List.setIfInBounds_toArray, List.set_cons_zero, List.set_cons_succ]
  refine' doH 3 (v := ?v3) rfl (by kernel_rfl) (by kernel_rfl) (by kernel_rfl) (fun _ _ _ h => h) rfl HS ?hy3 ?rest3
  case hy3 => (rintro w ⟨s0, s1⟩; go_simp; try with_reducible rfl)
  try simp only [Act.put, List.setIfInBounds_toArray, List.set_cons_zero, List.set_cons_succ]
  refine oneH 4 (by kernel_rfl) rfl (fun K4 hK4 => ?_)
  go_simp
  refine (HIN.out _).mono ?_
  rintro e w5 ⟨rfl, rfl⟩
  refine hK4.out _ _ (HS) (fun HS => ?_)
  clear hK4 K4
  try simp only [Act.put, List.setIfInBounds_toArray, List.set_cons_zero, List.set_cons_succ]
  refine' doH 5 (v := ?v5) rfl (by kernel_rfl) (by kernel_rfl) (by kernel_rfl) (fun _ _ _ h => h) rfl HS ?hy5 ?rest5
  case hy5 => (rintro w ⟨s0, s1⟩; go_simp; try with_reducible rfl)
  try simp only [Act.put, List.setIfInBounds_toArray, List.set_cons_zero, List.set_cons_succ]
  refine oneH 6 (by kernel_rfl) rfl (fun K6 hK6 => ?_)
  go_simp
  refine hK6.out _ _ (⟨s0, s1⟩) (fun HS => ?_)
  clear hK6 K6
  try simp only [Act.put, List.setIfInBounds_toArray, List.set_cons_zero, List.set_cons_succ]
  refine' doH 7 (v := ?v7) rfl (by kernel_rfl) (by kernel_rfl) (by kernel_rfl) (fun _ _ _ h => h) rfl HS ?hy7 ?rest7
  case hy7 => (rintro w ⟨s0, s1⟩; go_simp; try with_reducible rfl)
  try simp only [Act.put, List.setIfInBounds_toArray, List.set_cons_zero, List.set_cons_succ]
  refine wpAnyH_done (by kernel_rfl) ?_ _
  refine NoPanic.normal ?_
  have HRD := Lib.hid HR.out.drewSame
  go_wp2
  generalize (((w1.alloc _).setCell ⟨w.heap.size, 0, none⟩ _).setCell ⟨w.heap.size, 1, none⟩ _).drew = wF at HB HRD f0 f1 ⊢
  exact bodyPost_ret (v := .tuple #[.agg #[.slice a1 n1 c1, .slice a2 n2 c2], .bool b]) (by simp [results, Try.results60, go_sem, f0, f1]) rfl ⟨⟨a1, n1, c1, a2, n2, c2, rfl, fun h => HRD.out⟩, HB.out⟩
end Go.Proofs.Ytifodjlfjnmnkaa
