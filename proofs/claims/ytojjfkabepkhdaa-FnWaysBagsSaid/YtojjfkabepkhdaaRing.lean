/-
  The first 180 truths of a set, as the program holds them. The walks of impl.ringSize and impl.tailSize.
-/
import Derived.Test.YtojjfkabepkhdaaHasI
import Derived.Test.YtojjfkabepkhdaaTidyText
import Derived.Laws.Rows
import Derived.Laws.Tables
import Derived.Laws.CopyOwn
import Derived.Deep.QuietTactic
import Derived.BigQuiet
import Derived.Deep.LoopGhost
import Derived.WalkMore
namespace Go.Proofs.Ytojjfkabepkhdaa
open Go.RowKit

/-- The first 180 truths of g, as the model holds them. -/
def firstV (g : Nat → Bool) : Array Value := ((List.range 180).map fun i => Value.bool (g i)).toArray

theorem firstV_size (g : Nat → Bool) : (firstV g).size = 180 := by simp [firstV]

theorem firstV_at (g : Nat → Bool) (i : Nat) (h : i < 180) : (firstV g)[i]? = some (.bool (g i)) := by
  unfold firstV; simp [h]

theorem firstV_of (g : Nat → Bool) (cur : Array Value) (hs : cur.size = 180) (h : ∀ i, i < 180 → cur[i]? = some (.bool (g i))) : cur = firstV g := by
  apply Array.ext_getElem?
  intro i
  rcases Nat.lt_or_ge i 180 with k | k
  · rw [h i k, firstV_at g i k]
  · rw [Array.getElem?_eq_none (by omega), Array.getElem?_eq_none (by rw [firstV_size]; omega)]

theorem firstV_one (g : Nat → Bool) : (firstV g).all (·.oneCell') = true := by
  rw [Array.all_eq_true_iff_forall_mem]
  intro v hv
  unfold firstV at hv
  simp only [List.mem_toArray, List.mem_map] at hv
  obtain ⟨i, _, rfl⟩ := hv
  rfl

theorem Try.infoFirst : (Try.prog.info? 92).map (·.size) = some 180 := by kernel_rfl

theorem zeroFirst_size : Try.zeroCells92.size = 180 := by kernel_rfl

theorem zeroFirst_at (i : Nat) (h : i < 180) : Try.zeroCells92[i]? = some (.bool false) := by
  have e : Try.zeroCells92 = firstV (fun _ => false) := by kernel_rfl
  rw [e, firstV_at _ i h]

/-- A block of a whole array. -/
def Row180 (w : World) (g : Nat) (cur : Array Value) : Prop := w.heap[g]? = some (.cells cur 92 (0, 0))

theorem Row180.below {w w' : World} {g B : Nat} {cur : Array Value} (h : Row180 w g cur) (hb : Below B w w') (hg : g < B) : Row180 w' g cur := (hb.block g hg).trans h

theorem box180 (w : World) (f : Nat → Bool) (i : Nat) (h : i < 180) : (w.alloc (.cells (firstV f) 92)).cell? ⟨w.heap.size, i, none⟩ = some (.bool (f i)) := by
  rw [World.cell?_alloc_at _ _ _ _ rfl]; exact firstV_at f i h

set_option maxRecDepth 100000 in
set_option maxHeartbeats 1000000 in
theorem ringSize_any (f : Nat → Bool) (m q : Nat) (w : World) (h : Tidy f m q) (hm : m ≤ 60) (hq : q ≤ 60) :
    Calls Try.prog 89 #[.agg (firstV f)] w fun e w' => e = .returned (.int .i64 q) ∧ Below w.heap.size w w' := by
  have H := Lib.hid h
  have hq0 := h.pos
  clear h
  go_enter Try.func89, Try.ntmps89
  go_wp2
  go_step3
  go_wp2
  go_step3
  go_wp2
  go_loopg [3] 59 (fun g i wr => ∃ z : Nat, z + g = 60 ∧ 1 ≤ z ∧ z ≤ q ∧ i = .int .i64 z ∧ ∃ nd, wr = (w.alloc (.cells (firstV f) 92)).drewN nd)
  case atStart => exact ⟨1, by omega, Nat.le_refl _, hq0, rfl, 0, rfl⟩
  case round =>
    obtain ⟨z, hg, hz1, hz, rfl, nd, rfl⟩ := hrel
    obtain ⟨go, hgo⟩ : ∃ go, go = gk := ⟨_, rfl⟩
    subst hgo
    by_cases h60 : z < 60
    · go_wp2
      go_loopg [4] (120 - z) (fun g j wr => ∃ k : Nat, k + z + g = 180 ∧ 60 ≤ k ∧ j = .int .i64 k ∧ (∀ i, 60 ≤ i → i < k → f i = f (i + z)) ∧ ∃ nd, wr = (w.alloc (.cells (firstV f) 92)).drewN nd)
      case atStart => exact ⟨60, by omega, Nat.le_refl _, rfl, fun i h1 h2 => by omega, nd, rfl⟩
      case round =>
        obtain ⟨k, hkg, hk60, rfl, hall, nd2, rfl⟩ := hrel
        have HA := Lib.hid hall
        clear hall
        by_cases hlt : k + z < 180
        · have q1 := box180 w f k (by omega)
          have q2 := box180 w f (k + z) hlt
          have b1 : (k : Int) < 180 := by omega
          have b2 : (0 : Int) ≤ (k : Int) := by omega
          have b3 : (k : Int) + (z : Int) < 180 := by omega
          have b4 : (0 : Int) ≤ (k : Int) + (z : Int) := by omega
          by_cases he : f k = f (k + z)
          · rw [← he] at q2
            have hnb : (f k != f k) = false := by simp
            go_wp2
            have e1 : IntKind.i64.wrap ((k : Int) + (z : Int)) = (k : Int) + (z : Int) := by rw [IntWalk.i64_in _ (by omega)]
            have e2 : ((k : Int) + (z : Int)).toNat = k + z := by omega
            go_quiet (fail)
            go_wp2
            go_roundg (gk - 1)
            case measure => omega
            case rel => exact ⟨k + 1, by omega, by omega, by go_num, fun i h1 h2 => by
              by_cases e : i = k
              · rw [e]; exact he
              · exact HA.out i h1 (by omega), _, rfl⟩
          · have hzq : z < q := by
              rcases Nat.lt_or_ge z q with h | h
              · exact h
              · exact absurd (by rw [show z = q from by omega]; exact (ring_holds H.out hm k hk60).symm) he
            have hnb : (!f k == f (k + z)) = true := by revert he; cases f k <;> cases f (k + z) <;> simp
            go_wp2
            have e1 : IntKind.i64.wrap ((k : Int) + (z : Int)) = (k : Int) + (z : Int) := by rw [IntWalk.i64_in _ (by omega)]
            have e2 : ((k : Int) + (z : Int)).toNat = k + z := by omega
            go_quiet (fail)
            go_wp2
            go_roundg (go - 1)
            case measure => omega
            case rel => exact ⟨z + 1, by omega, by omega, by omega, by go_num, _, rfl⟩
        · have hzq : z = q := by
            rcases Nat.lt_or_ge z q with h | h
            · obtain ⟨n, h1, h2, h3⟩ := ring_small H.out hm hq (by omega) h
              exact absurd (HA.out n h1 (by omega)) h3
            · omega
          subst hzq
          have b3 : (180 : Int) ≤ (k : Int) + (z : Int) := by omega
          go_wp2
          try rw [Exit.noGoto_ret]
          go_ret
          exact ⟨rfl, below_drewN ((Below.refl _ _).alloc (Nat.le_refl _) _) _⟩
    · have hzq : z = q := by omega
      have hq60 : z = 60 := by omega
      subst hzq
      have b3 : (60 : Int) ≤ (z : Int) := by omega
      go_wp2
      try rw [Exit.noGoto_ret]
      go_ret
      exact ⟨ret_int (by omega), below_drewN ((Below.refl _ _).alloc (Nat.le_refl _) _) _⟩

set_option maxRecDepth 100000 in
set_option maxHeartbeats 1000000 in
theorem tailSize_any (f : Nat → Bool) (m q : Nat) (w : World) (h : Tidy f m q) (hm : m ≤ 60) (hq : q ≤ 60) :
    Calls Try.prog 90 #[.agg (firstV f), .int .i64 q] w fun e w' => e = .returned (.int .i64 m) ∧ Below w.heap.size w w' := by
  have H := Lib.hid h
  have hq0 := h.pos
  clear h
  go_enter Try.func90, Try.ntmps90
  go_wp2
  go_loopw [5] (fun i wr => ∃ z : Nat, m ≤ z ∧ z ≤ 60 ∧ i = .int .i64 z ∧ ∃ nd, wr = (w.alloc (.cells (firstV f) 92)).drewN nd) (fun i _ => (intOf i).toNat)
  case atStart => exact ⟨60, hm, Nat.le_refl _, rfl, 0, rfl⟩
  case round =>
    obtain ⟨z, hz1, hz, rfl, nd, rfl⟩ := hrel
    by_cases h0 : z = 0
    · subst h0
      have hm0 : m = 0 := by omega
      subst hm0
      have hd : decide ((0 : Int) < ((0 : Nat) : Int)) = false := by decide
      go_wp2
      go_quiet (fail)
      go_wp2
      go_ret
      exact ⟨rfl, below_drewN (below_drewN ((Below.refl _ _).alloc (Nat.le_refl _) _) _) _⟩
    · obtain ⟨y, rfl⟩ : ∃ y, z = y + 1 := ⟨z - 1, by omega⟩
      have q1 := box180 w f y (by omega)
      have q2 := box180 w f (y + q) (by omega)
      have c1 : (y : Int) < 180 := by omega
      have c2 : (0 : Int) ≤ (y : Int) := by omega
      have c3 : (y : Int) + (q : Int) < 180 := by omega
      have c4 : (0 : Int) ≤ (y : Int) + (q : Int) := by omega
      have c5 : (0 : Int) < (y : Int) + 1 := by omega
      by_cases he : m ≤ y
      · have hf : f (y + q) = f y := H.out.per y he
        rw [hf] at q2
        have HF := Lib.hid hf
        clear hf
        go_wp2
        have e1 : IntKind.i64.wrap ((y : Int) + 1 - 1) = (y : Int) := by rw [IntWalk.i64_in _ (by omega)]; omega
        have e2 : IntKind.i64.wrap ((y : Int) + (q : Int)) = (y : Int) + (q : Int) := by rw [IntWalk.i64_in _ (by omega)]
        have e3 : ((y : Int) + (q : Int)).toNat = y + q := by omega
        go_quiet (fail)
        go_wp2
        go_roundw
        case rel => exact ⟨y, he, by omega, by go_num, _, rfl⟩
        case measure => simp [intOf]
      · have hmy : m = y + 1 := by omega
        have hf : ¬ f y = f (y + q) := by
          rcases H.out.tail with h | h
          · omega
          · rw [hmy] at h; exact h
        have hnb : (f y == f (y + q)) = false := by revert hf; cases f y <;> cases f (y + q) <;> simp
        subst hmy
        go_wp2
        have e1 : IntKind.i64.wrap ((y : Int) + 1 - 1) = (y : Int) := by rw [IntWalk.i64_in _ (by omega)]; omega
        have e2 : IntKind.i64.wrap ((y : Int) + (q : Int)) = (y : Int) + (q : Int) := by rw [IntWalk.i64_in _ (by omega)]
        have e3 : ((y : Int) + (q : Int)).toNat = y + q := by omega
        go_quiet (fail)
        go_wp2
        go_ret
        exact ⟨rfl, below_drewN (below_drewN ((Below.refl _ _).alloc (Nat.le_refl _) _) _) _⟩

end Go.Proofs.Ytojjfkabepkhdaa
