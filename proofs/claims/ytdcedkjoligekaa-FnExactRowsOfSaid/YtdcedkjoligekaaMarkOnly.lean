/-
  markIntS writes into its own row alone; what stands in other blocks stays.
-/
import Derived.Test.YtdcedkjoligekaaLawInts
namespace Go.Proofs.Ytdcedkjoligekaa
open Go.RowKit
set_option linter.unusedVariables false

/-- From one world to another no block but that of a slice has turned. -/
structure OnlyAt (a : Option Addr) (w w' : World) : Prop where
  size : w.heap.size ≤ w'.heap.size
  block : ∀ k, (∀ x, a = some x → k ≠ x.block) → k < w.heap.size → w'.heap[k]? = w.heap[k]?
theorem OnlyAt.refl (a : Option Addr) (w : World) : OnlyAt a w w := ⟨Nat.le_refl _, fun _ _ _ => rfl⟩
theorem OnlyAt.setCell {g0 o : Nat} {w w' : World} (h : OnlyAt (some ⟨g0, o, none⟩) w w') (g k : Nat) (v : Value) (hg : g = g0 := by rfl) : OnlyAt (some ⟨g0, o, none⟩) w (w'.setCell ⟨g, k, none⟩ v) := by
  subst hg
  refine ⟨by simp [World.setCell]; exact h.size, fun j hj hlt => ?_⟩
  rw [heap_setCell_other w' ⟨g, k, none⟩ j v (hj ⟨g, o, none⟩ rfl), h.block j hj hlt]
theorem own_only {w w' : World} {base size n : Nat} {e : TypeId} {v : Value} {xs : List Value} {a : Option Addr} (h : w.ownsRow base e size v n xs) (ho : OnlyAt a w w') (hd : ∀ x, a = some x → v.ownBlock ≠ some x.block) : w'.ownsRow base e size v n xs := by
  obtain ⟨h1, h2⟩ := h
  refine ⟨h1, ?_⟩
  rcases h2 with h2 | ⟨g, cap, cur, hv, hg, hh, hr⟩
  · exact .inl h2
  · refine .inr ⟨g, cap, cur, hv, hg, ?_, hr⟩
    have hlt : g < w.heap.size := by
      rcases Nat.lt_or_ge g w.heap.size with h | h
      · exact h
      · rw [Array.getElem?_eq_none h] at hh; cases hh
    rw [ho.block g (fun x hx e => hd x hx (by rw [hv, ← e]; rfl)) hlt]; exact hh
theorem readsI_only {w w' : World} {a' a : Option Addr} {n : Nat} {zs : List Int} (h : ReadsI w a' n zs) (ho : OnlyAt a w w') (hd : ∀ x y, a = some x → a' = some y → x.block ≠ y.block) : ReadsI w' a' n zs := by
  obtain ⟨hl, hc⟩ := h
  refine ⟨hl, ?_⟩
  rcases hc with hc | ⟨g, o, ha, hg, hc⟩
  · exact .inl hc
  · refine .inr ⟨g, o, ha, by have := ho.size; omega, fun i hi => ?_⟩
    rw [← hc i hi]
    exact World.cell?_of_block (w := w) (a := ⟨g, o + i, none⟩) (ho.block g (fun x hx e => hd x _ hx ha e.symm) hg)

set_option maxHeartbeats 400000 in
theorem markIntS_only (base : Nat) (a : Option Addr) (n c q : Nat) (xs : List Int) (w : World) (h : w.ownsRow base 3 1 (.slice a n c) n (ints xs)) (hn : n ≤ 1048576) (hq : q ≤ 3145728) :
    Calls Try.prog 93 #[.slice a n c, .int .i64 q] w fun e w' =>
      e = .returned (.int .i64 ((q + n : Nat) : Int)) ∧ Below base w w' ∧ w'.ownsRow base 3 1 (.slice a n c) n (ints (marks q n)) ∧ OnlyAt a w w' := by
  have hx : xs.length = n := by have := h.1; rw [ints_length, Nat.mul_one] at this; exact this
  have HX := Lib.hid hx
  have HO := Lib.hid h
  clear hx h
  go_enter Try.func93, Try.ntmps93
  go_wp2
  go_loopw [1, 5] (fun m i wr => ∃ k : Nat, k ≤ n ∧ i = .int .i64 k ∧ m = .int .i64 ((q + k : Nat) : Int) ∧ Below base w wr ∧ wr.ownsRow base 3 1 (.slice a n c) n (ints (marks q k ++ xs.drop k)) ∧ OnlyAt a w wr)
    (fun _ i _ => n - (intOf i).toNat)
  case atStart => exact ⟨0, Nat.zero_le _, rfl, rfl, Below.refl _ _, HO.out, OnlyAt.refl _ _⟩
  case round =>
    obtain ⟨k, hk, rfl, rfl, hB, hown, honly⟩ := hrel
    have HN := Lib.hid honly
    clear honly
    by_cases hlt : k < n
    · rcases hown.2 with ⟨hv, h0⟩ | ⟨g, cap, cur, hv, hg, hh, hnc, hm, hs, ht⟩
      · omega
      · injection hv with ha _ hc
        subst ha
        have hc0 := hown.cellAt k (by omega)
        have hf0 := hown.frozenAt k
        obtain ⟨y, hy⟩ : ∃ y, (ints (marks q k ++ xs.drop k))[k]? = some y := by
          have : k < (ints (marks q k ++ xs.drop k)).length := by rw [hown.1]; omega
          exact ⟨_, List.getElem?_eq_getElem this⟩
        rw [hy] at hc0
        have hst := (hown.stored k (.int .i64 ((q + k : Nat) : Int))).1
        rw [marks_set q k n xs hlt HX.out] at hst
        have HB := Lib.hid (hB.setCell (p := ⟨g, k, none⟩) hg (.int .i64 ((q + k : Nat) : Int)))
        have HS := Lib.hid hst
        have HN2 := Lib.hid (HN.out.setCell g k (.int .i64 ((q + k : Nat) : Int)))
        clear hst hh ht hs hy hown hB hc
        go_wp2
        go_roundw
        case rel => exact ⟨k + 1, by omega, by go_num, by go_num, HB.out, HS.out, HN2.out⟩
        case measure => simp [intOf]; omega
    · obtain rfl : k = n := by omega
      have HE : Hid (ints (marks q k ++ xs.drop k) = ints (marks q k)) := by
        refine Lib.hid ?_
        rw [List.drop_of_length_le (by rw [HX.out]; exact Nat.le_refl _), List.append_nil]
      rw [HE.out] at hown
      have HS := Lib.hid hown
      clear hown
      go_wp2
      go_ret
      exact ⟨rfl, hB, HS.out, HN.out⟩

end Go.Proofs.Ytdcedkjoligekaa
