/-
  Two sets that come round and agree for long enough agree everywhere; what is made is so told by a text that agrees: plain facts. The walks of impl.ringSize, impl.tailSize and impl.text at any first 180 numbers: what is left is a set text; the tidy one if there is one.
-/
import Derived.Test.YtojjfkabepkhdaaToldMath
import Derived.Test.YtojjfkabepkhdaaText
namespace Go.Proofs.Ytojjfkabepkhdaa
open Go.RowKit

theorem rounds_agree {f g : Nat → Bool} {M p r : Nat} (hp : 0 < p) (hr : 0 < r) (hf : ∀ n, M ≤ n → f (n + p) = f n) (hg : ∀ n, M ≤ n → g (n + r) = g n) (h : ∀ n, n < M + p + r → f n = g n) : f = g := by
  funext n
  induction n using Nat.strongRecOn with
  | ind n ih =>
    rcases Nat.lt_or_ge n (M + p + r) with k | k
    · exact h n k
    · have a1 := hf (n - p) (by omega)
      have a2 := hg (n - p - r) (by omega)
      have a3 := hf (n - r - p) (by omega)
      have a4 := hg (n - r) (by omega)
      rw [show n - p + p = n from by omega] at a1
      rw [show n - p - r + r = n - p from by omega] at a2
      rw [show n - r - p + p = n - r from by omega] at a3
      rw [show n - r + r = n from by omega] at a4
      rw [a1, ih (n - p) (by omega), a2, show n - p - r = n - r - p from by omega, ← ih (n - r - p) (by omega), ← a3, ih (n - r) (by omega), a4]

/-- A set that comes round has a tidy tail and ring. -/
theorem tidy_round {g : Nat → Bool} {t r : Nat} (hr : 0 < r) (hper : ∀ n, t ≤ n → g (n + r) = g n) : ∃ m q, Tidy g m q := by
  obtain ⟨q, hq, hl⟩ := least_per _ (show Per g r from ⟨hr, _, hper⟩)
  obtain ⟨_, h2⟩ := least_divides hr hper hq hl
  have key : ∀ k, (∀ n, k ≤ n → g (n + q) = g n) → ∃ m, Tidy g m q := by
    intro k
    induction k with
    | zero => intro h; exact ⟨0, hq.1, h, hl, .inl rfl⟩
    | succ k ih =>
      intro h
      by_cases hk : g k = g (k + q)
      · exact ih (fun n hn => by
          rcases Nat.eq_or_lt_of_le hn with e | e
          · rw [← e]; exact hk.symm
          · exact h n e)
      · exact ⟨k + 1, hq.1, h, hl, .inr hk⟩
  obtain ⟨m, hm⟩ := key _ h2
  exact ⟨m, q, hm⟩

/-- The text that the first numbers leave: a set text, and the tidy one if there is one. -/
def Leaves (g : Nat → Bool) (T : ByteArray) : Prop := okS T = true ∧ ∀ m q, Tidy g m q → m ≤ 60 → q ≤ 60 → TidyText g T

theorem leaves_fails {g : Nat → Bool} {t r n : Nat} {T : ByteArray} (hr : 0 < r) (hper : ∀ n, t ≤ n → g (n + r) = g n) (hT : Leaves g T) (h : fS T n ≠ g n) : Made g ⟨#[]⟩ false := by
  obtain ⟨m, q, ht⟩ := tidy_round hr hper
  refine .inr ⟨rfl, rfl, m, q, ht, fun ⟨hm, hq⟩ => h ?_⟩
  rw [(hT.2 m q ht hm hq).told.set]

theorem leaves_holds {g : Nat → Bool} {t r : Nat} {T : ByteArray} (hr : 0 < r) (hper : ∀ n, t ≤ n → g (n + r) = g n) (hT : Leaves g T) (h : ∀ n, n < max 60 t + 60 + r → fS T n = g n) : Made g T true := by
  have hl := setT_le hT.1
  have hl2 := setR_le hT.1
  have hl3 := setR_pos hT.1
  have e : fS T = g := rounds_agree (M := max 60 t) hl3 hr (fun n hn => hasB_round _ _ n (by omega)) (fun n hn => hper n (by omega)) (fun n hn => h n (by omega))
  obtain ⟨m, q, ht, hm, hq⟩ := tidy_there hT.1
  rw [e] at ht
  exact .inl ⟨rfl, hT.2 m q ht hm hq⟩

def RingIs (e : Ending) : Prop := ∃ q : Nat, 1 ≤ q ∧ q ≤ 60 ∧ e = .returned (.int .i64 q)
def TailIs (e : Ending) : Prop := ∃ m : Nat, m ≤ 60 ∧ e = .returned (.int .i64 m)

set_option maxRecDepth 100000 in
set_option maxHeartbeats 1000000 in
theorem ringSize_loose (f : Nat → Bool) (w : World) :
    Calls Try.prog 89 #[.agg (firstV f)] w fun e w' => RingIs e ∧ Below w.heap.size w w' := by
  go_enter Try.func89, Try.ntmps89
  go_wp2
  go_step3
  go_wp2
  go_step3
  go_wp2
  go_loopg [3] 59 (fun g i wr => ∃ z : Nat, z + g = 60 ∧ 1 ≤ z ∧ z ≤ 60 ∧ i = .int .i64 z ∧ ∃ nd, wr = (w.alloc (.cells (firstV f) 92)).drewN nd)
  case atStart => exact ⟨1, by omega, Nat.le_refl _, by omega, rfl, 0, rfl⟩
  case round =>
    obtain ⟨z, hg, hz1, hz, rfl, nd, rfl⟩ := hrel
    obtain ⟨go, hgo⟩ : ∃ go, go = gk := ⟨_, rfl⟩
    subst hgo
    by_cases h60 : z < 60
    · go_wp2
      go_loopg [4] (120 - z) (fun g j wr => ∃ k : Nat, k + z + g = 180 ∧ 60 ≤ k ∧ j = .int .i64 k ∧ ∃ nd, wr = (w.alloc (.cells (firstV f) 92)).drewN nd)
      case atStart => exact ⟨60, by omega, Nat.le_refl _, rfl, nd, rfl⟩
      case round =>
        obtain ⟨k, hkg, hk60, rfl, nd2, rfl⟩ := hrel
        by_cases hlt : k + z < 180
        · have q1 := box180 w f k (by omega)
          have q2 := box180 w f (k + z) hlt
          have b1 : (k : Int) < 180 := by omega
          have b2 : (0 : Int) ≤ (k : Int) := by omega
          have b3 : (k : Int) + (z : Int) < 180 := by omega
          have b4 : (0 : Int) ≤ (k : Int) + (z : Int) := by omega
          by_cases he : f k = f (k + z)
          · rw [← he] at q2
            have hnb : (f k != f k) = false := by simp
            go_wp2
            have e1 : IntKind.i64.wrap ((k : Int) + (z : Int)) = (k : Int) + (z : Int) := by rw [IntWalk.i64_in _ (by omega)]
            have e2 : ((k : Int) + (z : Int)).toNat = k + z := by omega
            go_quiet (fail)
            go_wp2
            go_roundg (gk - 1)
            case measure => omega
            case rel => exact ⟨k + 1, by omega, by omega, by go_num, _, rfl⟩
          · have hnb : (!f k == f (k + z)) = true := by revert he; cases f k <;> cases f (k + z) <;> simp
            go_wp2
            have e1 : IntKind.i64.wrap ((k : Int) + (z : Int)) = (k : Int) + (z : Int) := by rw [IntWalk.i64_in _ (by omega)]
            have e2 : ((k : Int) + (z : Int)).toNat = k + z := by omega
            go_quiet (fail)
            go_wp2
            go_roundg (go - 1)
            case measure => omega
            case rel => exact ⟨z + 1, by omega, by omega, by omega, by go_num, _, rfl⟩
        · have b3 : (180 : Int) ≤ (k : Int) + (z : Int) := by omega
          go_wp2
          try rw [Exit.noGoto_ret]
          go_ret
          exact ⟨⟨z, hz1, hz, rfl⟩, below_drewN ((Below.refl _ _).alloc (Nat.le_refl _) _) _⟩
    · have hq60 : z = 60 := by omega
      have b3 : (60 : Int) ≤ (z : Int) := by omega
      go_wp2
      try rw [Exit.noGoto_ret]
      go_ret
      exact ⟨⟨60, by omega, by omega, rfl⟩, below_drewN ((Below.refl _ _).alloc (Nat.le_refl _) _) _⟩

set_option maxRecDepth 100000 in
set_option maxHeartbeats 1000000 in
theorem tailSize_loose (f : Nat → Bool) (q : Nat) (w : World) (hq0 : 1 ≤ q) (hq : q ≤ 60) :
    Calls Try.prog 90 #[.agg (firstV f), .int .i64 q] w fun e w' => TailIs e ∧ Below w.heap.size w w' := by
  go_enter Try.func90, Try.ntmps90
  go_wp2
  go_loopw [5] (fun i wr => ∃ z : Nat, z ≤ 60 ∧ i = .int .i64 z ∧ ∃ nd, wr = (w.alloc (.cells (firstV f) 92)).drewN nd) (fun i _ => (intOf i).toNat)
  case atStart => exact ⟨60, Nat.le_refl _, rfl, 0, rfl⟩
  case round =>
    obtain ⟨z, hz, rfl, nd, rfl⟩ := hrel
    by_cases h0 : z = 0
    · subst h0
      have hd : decide ((0 : Int) < ((0 : Nat) : Int)) = false := by decide
      go_wp2
      go_quiet (fail)
      go_wp2
      go_ret
      exact ⟨⟨0, by omega, rfl⟩, below_drewN (below_drewN ((Below.refl _ _).alloc (Nat.le_refl _) _) _) _⟩
    · obtain ⟨y, rfl⟩ : ∃ y, z = y + 1 := ⟨z - 1, by omega⟩
      have q1 := box180 w f y (by omega)
      have q2 := box180 w f (y + q) (by omega)
      have c1 : (y : Int) < 180 := by omega
      have c2 : (0 : Int) ≤ (y : Int) := by omega
      have c3 : (y : Int) + (q : Int) < 180 := by omega
      have c4 : (0 : Int) ≤ (y : Int) + (q : Int) := by omega
      have c5 : (0 : Int) < (y : Int) + 1 := by omega
      by_cases hf : f (y + q) = f y
      · rw [hf] at q2
        have HF := Lib.hid hf
        clear hf
        go_wp2
        have e1 : IntKind.i64.wrap ((y : Int) + 1 - 1) = (y : Int) := by rw [IntWalk.i64_in _ (by omega)]; omega
        have e2 : IntKind.i64.wrap ((y : Int) + (q : Int)) = (y : Int) + (q : Int) := by rw [IntWalk.i64_in _ (by omega)]
        have e3 : ((y : Int) + (q : Int)).toNat = y + q := by omega
        go_quiet (fail)
        go_wp2
        go_roundw
        case rel => exact ⟨y, by omega, by go_num, _, rfl⟩
        case measure => simp [intOf]
      · have hnb : (f y == f (y + q)) = false := by revert hf; cases f y <;> cases f (y + q) <;> simp
        go_wp2
        have e1 : IntKind.i64.wrap ((y : Int) + 1 - 1) = (y : Int) := by rw [IntWalk.i64_in _ (by omega)]; omega
        have e2 : IntKind.i64.wrap ((y : Int) + (q : Int)) = (y : Int) + (q : Int) := by rw [IntWalk.i64_in _ (by omega)]
        have e3 : ((y : Int) + (q : Int)).toNat = y + q := by omega
        go_quiet (fail)
        go_wp2
        go_ret
        exact ⟨⟨y + 1, by omega, rfl⟩, below_drewN (below_drewN ((Below.refl _ _).alloc (Nat.le_refl _) _) _) _⟩

def SomeText (e : Ending) : Prop := ∃ T : ByteArray, okS T = true ∧ e = .returned (.string T)

theorem someText_of {f : Nat → Bool} {m q : Nat} (hm : m ≤ 60) (h1 : 1 ≤ q) (hq : q ≤ 60) {U : ByteArray} (h : U = ⟨(textOf (part f 0 m) (part f m q)).toArray⟩) : SomeText (.returned (.string U)) := by
  have hT := textOf_isText (part f 0 m) (part f m q) (by rw [part_length]; exact hm) (by rw [part_length]; exact hq) (by rw [part_length]; exact h1)
  refine ⟨U, ?_, rfl⟩
  rw [h]
  exact text_ok hT

set_option maxRecDepth 100000 in
set_option maxHeartbeats 1000000 in
theorem text_loose (f : Nat → Bool) (w : World) :
    Calls Try.prog 83 #[.agg (firstV f)] w fun e w' => SomeText e ∧ Below w.heap.size w w' := by
  go_enter Try.func83, Try.ntmps83
  go_wp2_with (refine wpList_load_row rfl 92 _ rfl w.heap.size rfl 92 (firstV f) (0, 0) _ (heap_alloc_new w _) Try.underlying92 rfl (by rw [firstV_size]; exact Try.infoFirst) ?_)
  refine (ringSize_loose f _).mono ?_
  rintro e w1 ⟨⟨q, hq0, hq, rfl⟩, hb1⟩
  have hrow : w1.heap[w.heap.size]? = some (.cells (firstV f) 92 (0, 0)) := (hb1.block w.heap.size (by simp)).trans (heap_alloc_new w _)
  have HR := Lib.hid hrow
  have HB1 := Lib.hid hb1
  clear hrow hb1
  go_wp2_with (refine wpList_load_row rfl 92 _ rfl w.heap.size rfl 92 (firstV f) (0, 0) _ HR.out Try.underlying92 rfl (by rw [firstV_size]; exact Try.infoFirst) ?_)
  refine (tailSize_loose f q _ hq0 hq).mono ?_
  rintro e w2 ⟨⟨m, hm, rfl⟩, hb2⟩
  have HB2 := Lib.hid (HB1.out.trans (hb2.mono HB1.out.size))
  clear hb2
  go_wp2
  have c1 : (m : Int) ≤ 180 := by omega
  have c2 : (0 : Int) ≤ (m : Int) := by omega
  have c3 : (m : Int) + (q : Int) ≤ 180 := by omega
  have c4 : (m : Int) ≤ (m : Int) + (q : Int) := by omega
  have e2 : ((m : Int) + (q : Int)).toNat = m + q := by omega
  have e1 : IntKind.i64.wrap ((m : Int) + (q : Int)) = (m : Int) + (q : Int) := by rw [IntWalk.i64_in _ (by omega)]
  have K1 : ∀ W', Below (w.alloc (.cells (firstV f) 92)).heap.size (w.alloc (.cells (firstV f) 92)) W' → _ := fun W' hb => signsText_on (some ⟨w.heap.size, 0, none⟩) m 180 (part f 0 m) W' (reads_part f 0 m (by omega) hb) hm
  have K2 : ∀ W', Below (w.alloc (.cells (firstV f) 92)).heap.size (w.alloc (.cells (firstV f) 92)) W' → _ := fun W' hb => signsText_on (some ⟨w.heap.size, m, none⟩) q (180 - m) (part f m q) W' (reads_part f m q (by omega) hb) hq
  have HK1 := Lib.hid K1
  have HK2 := Lib.hid K2
  have HBD := Lib.hid HB2.out.drew
  clear K1 K2
  go_region_with (first
    | (go_at_call 91; (with_reducible refine (HK1.out _ ?_).mono ?_); (first | exact HBD.out | exact HN4.out); rintro e w3 ⟨T, rfl, hT, hTs, hb3⟩; (first | have HN3 := Lib.hid (HBD.out.trans (hb3.mono HBD.out.size)) | have HN3 := Lib.hid (HN4.out.trans (hb3.mono HN4.out.size))))
    | (go_at_call 91; (with_reducible refine (HK2.out _ ?_).mono ?_); (first | exact HBD.out | exact HN3.out); rintro e w4 ⟨R, rfl, hR, hRs, hb4⟩; (first | have HN4 := Lib.hid (HBD.out.trans (hb4.mono HBD.out.size)) | have HN4 := Lib.hid (HN3.out.trans (hb4.mono HN3.out.size)))))
  all_goals
    go_wp2
    go_ret
    exact ⟨someText_of hm hq0 hq (text_val hT hR), ((Below.refl _ _).alloc (Nat.le_refl _) _).trans ((by first | exact HN4.out | exact HN3.out : Below (w.alloc (.cells (firstV f) 92)).heap.size (w.alloc (.cells (firstV f) 92)) _).mono (by simp))⟩

def LeavesEnd (g : Nat → Bool) (e : Ending) : Prop := ∃ T : ByteArray, Leaves g T ∧ e = .returned (.string T)

theorem text_leaves (g : Nat → Bool) (w : World) :
    Calls Try.prog 83 #[.agg (firstV g)] w fun e w' => LeavesEnd g e ∧ Below w.heap.size w w' := by
  by_cases h : ∃ m q, Tidy g m q ∧ m ≤ 60 ∧ q ≤ 60
  · obtain ⟨m, q, ht, hm, hq⟩ := h
    have hT : TidyText g ⟨(textOf (part g 0 m) (part g m q)).toArray⟩ := ⟨m, q, ht, hm, hq, rfl⟩
    exact (text_any g m q w ht hm hq).mono fun e w' ⟨he, hb⟩ => ⟨⟨_, ⟨hT.told.ok, fun _ _ _ _ _ => hT⟩, he⟩, hb⟩
  · exact (text_loose g w).mono fun e w' ⟨⟨T, hT, he⟩, hb⟩ => ⟨⟨T, ⟨hT, fun m q ht hm hq => (h ⟨m, q, ht, hm, hq⟩).elim⟩, he⟩, hb⟩

end Go.Proofs.Ytojjfkabepkhdaa
