/-
  What the model's RestMany answers.
-/
import Derived.Test.YtifodjlfjnmnkaaRestDownS
import Derived.Laws.OwnMore
set_option linter.unusedVariables false
set_option linter.unusedSimpArgs false
namespace Go.Proofs.Ytifodjlfjnmnkaa
open Go.RowKit

theorem infoText : (Try.prog.info? 9).map (fun i => (i.zero, i.size, i.bytes)) = some (some (.string ⟨#[]⟩), 1, 16) := by kernel_rfl
/-- The texts of the first n rests. -/
def downCells (f : Nat → Bool) (m q n : Nat) : List Value := (List.range n).map fun i => .string (downT f m q i)
theorem downCells_succ (f : Nat → Bool) (m q n : Nat) : downCells f m q (n + 1) = downCells f m q n ++ [.string (downT f m q n)] := by simp [downCells, List.range_succ]
theorem downCells_get (f : Nat → Bool) (m q : Nat) {n i : Nat} (h : i < n) : (downCells f m q n)[i]? = some (.string (downT f m q i)) := by
  unfold downCells
  rw [List.getElem?_map, List.getElem?_range h]; rfl
/-- The world of RestMany's loop. -/
structure MetAt (f : Nat → Bool) (m q n B : Nat) (v : Value) (w wr : World) : Prop where
  below : Below B w wr
  own : wr.ownsRow B 9 1 v n (downCells f m q n)
  le : B ≤ wr.heap.size
theorem MetAt.step {f : Nat → Bool} {m q n B : Nat} {v : Value} {w wr w' : World} (h : MetAt f m q n B v w wr) (hb : Below wr.heap.size wr w') : MetAt f m q n B v w w' :=
  ⟨h.below.trans (hb.mono h.le), own_below h.own hb (Nat.le_refl _), Nat.le_trans h.le hb.size⟩
theorem MetAt.next {f : Nat → Bool} {m q n B : Nat} {v v' : Value} {w wr w' : World} {o : Obj} (h : MetAt f m q n B v w wr) (hown : w'.ownsRow B 9 1 v' (n + 1) (downCells f m q n ++ [.string (downT f m q n)]))
    (hg : (wr.alloc o).grownBy w' v.ownBlock) : MetAt f m q (n + 1) B v' w w' :=
  ⟨(h.below.alloc h.le o).grown hg (by have := h.le; simp; omega) (fun k hk => (h.own.lt k hk).1), by rw [downCells_succ]; exact hown, Nat.le_trans h.le (Nat.le_trans (by simp) hg.size)⟩
theorem metAt_start (f : Nat → Bool) (m q : Nat) (w : World) : MetAt f m q 0 w.heap.size (.slice (some ⟨w.heap.size, 0, none⟩) 0 0) w (w.alloc (.cells #[] 9)) :=
  ⟨(Below.refl _ _).alloc (Nat.le_refl _) _, World.ownsRow_made w #[] 0 (Nat.le_refl _) (by decide) rfl, by simp⟩

set_option maxRecDepth 100000 in
set_option maxHeartbeats 4000000 in
theorem specMany (s : ByteArray) (w : World) (hs : s.size ≤ 1048576) :
    Calls Try.prog 24 #[.string s] w fun e w' => NumIs (okS s) (ManyIs (fS s)) e ∧ Below w.heap.size w w' := by
  cases ho : okS s
  · go_enter Try.func24, Try.ntmps24
    go_wp2_with fail
    refine (read_off s w hs ho).mono ?_
    rintro e w1 ⟨a1, n1, c1, a2, n2, c2, rfl, hb⟩
    have HB := Lib.hid (hb.alloc hb.size (.cells #[.slice a1 n1 c1, .slice a2 n2 c2] 66))
    clear hb
    go_wp2
    go_ret2
    exact ⟨⟨0, rfl, And.intro (fun h => by cases h) (fun _ => rfl)⟩, HB.out⟩
  · obtain ⟨i0, hi, hz0, hz1, hz2⟩ := info_parts infoText
    obtain ⟨m, q, ht, hm, hq⟩ := tidy_there ho
    have hsh := tidy_short ho ht
    have HT := Lib.hid ht
    have hq0 := ht.pos
    obtain ⟨N, hN⟩ : ∃ N, N = m + q := ⟨_, rfl⟩
    have hN2 : N ≤ 120 := by omega
    have HPL : Hid (∀ k, placeF m q k < N) := Lib.hid fun k => by rw [hN]; exact place_lt hq0 k
    have HPS : Hid (∀ k, k < N → placeF m q k = k) := Lib.hid fun k hk => place_self (by omega)
    have HME : Hid (ManyIs (fS s) N) := Lib.hid ⟨m, q, ht, hN⟩
    go_enter Try.func24, Try.ntmps24
    go_wp2_with fail
    refine (read_on s w hs ho).mono ?_
    rintro e w1 ⟨a1, n1, c1, a2, n2, c2, rfl, hb, hr⟩
    have hn1 : n1 ≤ 60 := hr.tailLe
    have hn2 : n2 ≤ 60 := hr.ringLe
    have hNn : N ≤ n1 + n2 := by have h1 := hr.tail.len; have h2 := hr.ring.len; omega
    have HB := Lib.hid (hb.alloc hb.size (.cells #[.slice a1 n1 c1, .slice a2 n2 c2] 66))
    have HR := Lib.hid (hr.alloc (.cells #[.slice a1 n1 c1, .slice a2 n2 c2] 66))
    have HS := Lib.hid (metAt_start (fS s) m q (w1.alloc (.cells #[.slice a1 n1 c1, .slice a2 n2 c2] 66)))
    clear hb hr ho hsh ht hN
    go_wp2
    go_loopw [6, 7] (fun v i wr => ∃ k : Nat, i = .int .i64 k ∧ k ≤ n1 + n2 ∧ MetAt (fS s) m q (min k N) (w1.alloc (.cells #[.slice a1 n1 c1, .slice a2 n2 c2] 66)).heap.size v (w1.alloc (.cells #[.slice a1 n1 c1, .slice a2 n2 c2] 66)) wr) (fun _ i _ => n1 + n2 - (intOf i).toNat)
    case atStart => exact ⟨0, rfl, Nat.zero_le _, by rw [Nat.zero_min]; simpa using HS.out⟩
    case round =>
      obtain ⟨k, rfl, hk, hM⟩ := hrel
      obtain ⟨q0, q1⟩ := box_later hM.below
      obtain ⟨a, c, rfl⟩ := own_form hM.own
      by_cases hlt : k < n1 + n2
      · have hcall := l5Down_any s a1 a2 n1 c1 n2 c2 k m q wr (HR.out.below hM.below (Nat.le_refl _)) HT.out (by omega)
        obtain ⟨p, hp⟩ : ∃ p, p = placeF m q k := ⟨_, rfl⟩
        have hpN : p < N := by rw [hp]; exact HPL.out k
        have HKP : Hid (k < N → p = k) := Lib.hid fun h => by rw [hp]; exact HPS.out k h
        have HCMP : Hid (∀ j, j < N → ((downT (fS s) m q j).toList == (downT (fS s) m q k).toList) = decide (j = p)) := Lib.hid fun j hj => by
          have := downT_beq HT.out hm hq j k
          rw [down_same HT.out j k, HPS.out j hj, ← hp] at this
          cases e : ((downT (fS s) m q j).toList == (downT (fS s) m q k).toList)
          · rw [e] at this
            exact (decide_eq_false fun h => by have := this.2 h; cases this).symm
          · exact (decide_eq_true (this.1 e)).symm
        obtain ⟨M, hMk⟩ : ∃ M, M = min k N := ⟨_, rfl⟩
        rw [← hMk] at hM ⊢
        have hM120 : M ≤ 120 := by omega
        have HMK := Lib.hid hMk
        have hpi : M ≤ N := by omega
        obtain ⟨X, hX⟩ : ∃ X, X = downT (fS s) m q k := ⟨_, rfl⟩
        have HX := Lib.hid hX
        rw [← hX] at hcall HCMP
        have HM := Lib.hid hM
        clear hp hMk hX hM
        have hltI : (k : Int) < (n1 : Int) + (n2 : Int) := by omega
        go_wp2_with fail
        refine hcall.mono ?_
        rintro e w3 ⟨rfl, hb3⟩
        have HM3 := Lib.hid (HM.out.step hb3)
        clear hb3 hcall HM
        go_wp2
        go_loopw [9, 10] (fun b i wr2 => ∃ j : Nat, i = .int .i64 j ∧ j ≤ M ∧ b = .bool (decide (p < j)) ∧ wr2 = w3) (fun _ i _ => M - (intOf i).toNat)
        case atStart => exact ⟨0, rfl, Nat.zero_le _, by simp, rfl⟩
        case round =>
          obtain ⟨j, rfl, hj, rfl, rfl⟩ := hrel
          by_cases hjm : j < M
          · obtain ⟨g, rfl⟩ : ∃ g, a = some ⟨g, 0, none⟩ := by
              rcases HM3.out.own.2 with ⟨_, h0⟩ | ⟨g, _, _, hv, _⟩
              · omega
              · injection hv with ha _ _; exact ⟨g, ha⟩
            have s0 := (HM3.out.own.cellAt j (by omega)).trans (downCells_get (fS s) m q hjm)
            have hjI : (j : Int) < (M : Int) := by omega
            have hC := HCMP.out j (by omega)
            obtain ⟨Y, hY⟩ : ∃ Y, Y = downT (fS s) m q j := ⟨_, rfl⟩
            rw [← hY] at s0 hC
            clear hY
            cases hd : decide (p < j)
            · have hd2 := of_decide_eq_false hd
              by_cases hjp : j = p
              · rw [decide_eq_true hjp] at hC
                have hYX : Y.toList = X.toList := eq_of_beq hC
                have HD : Hid (decide (p < j + 1) = true) := Lib.hid (decide_eq_true (by omega))
                clear hd hd2 hjp
                go_wp2
                go_roundw
                case rel => exact ⟨j + 1, by go_num, by omega, by rw [HD.out], trivial⟩
                case measure => simp [intOf]; omega
              · rw [decide_eq_false hjp] at hC
                have hYX : ¬ Y.toList = X.toList := by intro h; rw [h] at hC; simp at hC
                have HD : Hid (decide (p < j + 1) = false) := Lib.hid (decide_eq_false (by omega))
                clear hd hd2 hjp
                go_wp2
                go_roundw
                case rel => exact ⟨j + 1, by go_num, by omega, by rw [HD.out], trivial⟩
                case measure => simp [intOf]; omega
            · have HD : Hid (decide (p < j + 1) = true) := Lib.hid (decide_eq_true (by have := of_decide_eq_true hd; omega))
              clear hd hC
              go_wp2
              go_roundw
              case rel => exact ⟨j + 1, by go_num, by omega, by rw [HD.out], trivial⟩
              case measure => simp [intOf]; omega
          · obtain rfl : j = M := by omega
            by_cases hkN : k < N
            · have hpk := HKP.out hkN
              have hjk : j = k := by have := HMK.out; omega
              have hd : decide (p < j) = false := decide_eq_false (by omega)
              subst hjk
              have hle := HM3.out.le
              have HK1 : Hid (min (j + 1) N = j + 1) := Lib.hid (by omega)
              have hsz : w1.heap.size + 1 ≤ wr.heap.size := by have := HM3.out.le; rw [World.size_alloc] at this; exact this
              rw [hd]
              clear hd hpk
              go_wp2_with
                (at_builtin; refine wpList_append_own _ rfl _ _ 69 rfl (w1.alloc (.cells #[.slice a1 n1 c1, .slice a2 n2 c2] 66)).heap.size 9 i0 (.string ⟨#[]⟩) 1 16 Try.underlying69 hi hz0 hz1 hz2 rfl (by decide) _ _ _ rfl (HM3.out.own.alloc _) ⟨wr.heap.size, 0, none⟩ 1 1 [.string X] rfl rfl ?c1 ?c2 ?c3 ?c4 ?c5 ?_)
              case c1 =>
                intro i u hi
                match i, hi with
                | 0, hi => simp at hi; subst hi; simp [Addr.add]
              case c2 => intro u hu; simp at hu; subst hu; rfl
              case c3 => unfold maxLen; omega
              case c4 => omega
              case c5 => simp; omega
              intro v' w7 hown7 hgrow _
              have HN := Lib.hid (HM3.out.next (by rw [← HX.out, World.size_alloc]; exact hown7) hgrow)
              clear hown7 hgrow
              go_wp2
              go_roundw
              case rel => exact ⟨j + 1, by go_num, by omega, by rw [HK1.out]; exact HN.out⟩
              case measure => simp [intOf]; omega
            · have hjN : j = N := by have := HMK.out; omega
              have hd : decide (p < j) = true := decide_eq_true (by omega)
              have HK1 : Hid (min (k + 1) N = j) := Lib.hid (by omega)
              rw [hd]
              clear hd hjN
              go_wp2
              go_roundw
              case rel => exact ⟨k + 1, by go_num, by omega, by rw [HK1.out]; exact HM3.out⟩
              case measure => simp [intOf]; omega
      · have hMN : min k N = N := by omega
        rw [hMN] at hM ⊢
        have hkn : k = n1 + n2 := by omega
        have hltI : ¬ (k : Int) < (n1 : Int) + (n2 : Int) := by omega
        have HB9 := Lib.hid (HB.out.trans (hM.below.mono HB.out.size))
        clear hM hMN hkn
        go_wp2
        go_ret2
        exact ⟨⟨N, rfl, And.intro (fun _ => HME.out) (fun h => by cases h)⟩, HB9.out⟩
end Go.Proofs.Ytifodjlfjnmnkaa
