/-
  The walk of the exact laws' own helper toIntS.
-/
import Derived.Test.YtiphooodijbhiabEqInts
import Derived.Test.YtiphooodijbhiabInts
import Derived.Lib.MinMax
import Derived.Test.YtiphooodijbhiabIsRow
namespace Go.Proofs.Ytiphooodijbhiab
open Go.RowKit

theorem ints_of {xs : List Value} {zs : List Int} {n : Nat} (hx : xs.length = n * 1) (hz : zs.length = n) (h : ∀ i, i < n → xs[i]? = some (.int .i64 (zs.getD i 0))) : xs = ints zs := by
  apply List.ext_getElem?
  intro i
  rcases Nat.lt_or_ge i n with k | k
  · rw [h i k]
    unfold ints
    rw [List.getElem?_map, List.getElem?_eq_getElem (by omega), List.getD_eq_getElem?_getD, List.getElem?_eq_getElem (by omega)]; rfl
  · rw [List.getElem?_eq_none (by omega), List.getElem?_eq_none (by rw [ints_length]; omega)]
theorem set_ints {xs : List Value} {zs : List Int} {n k : Nat} (hx : xs.length = n * 1) (hk : k < n) (h : ∀ i, i < k → xs[i]? = some (.int .i64 (zs.getD i 0))) :
    ∀ i, i < k + 1 → (xs.set k (.int .i64 (zs.getD k 0)))[i]? = some (.int .i64 (zs.getD i 0)) := by
  intro i hi
  by_cases e : k = i
  · subst e; rw [List.getElem?_set_self (by omega)]
  · rw [List.getElem?_set_ne e]; exact h i (by omega)

set_option maxRecDepth 100000 in
set_option maxHeartbeats 1000000 in
theorem toIntS_any (a : Option Addr) (n c : Nat) (zs : List Int) (w : World) (h : ReadsI w a n zs) (hn : n ≤ 1048576) :
    Calls Try.prog 87 #[.slice a n c] w fun e w' =>
      e = .returned (.slice (some ⟨w.heap.size, 0, none⟩) n n) ∧ Below w.heap.size w w' ∧ w'.ownsRow w.heap.size 3 1 (.slice (some ⟨w.heap.size, 0, none⟩) n n) n (ints zs) := by
  obtain ⟨i0, hi, hz0, hz1, hz2⟩ := info_parts Try.infoInt
  have H := Lib.hid h
  clear h
  go_enter Try.func87, Try.ntmps87
  go_wp2_with (at_make; refine wpList_make_full _ rfl _ _ 46 rfl w.heap.size 3 i0 (.int .i64 0) 1 Try.underlying46 hi hz0 hz1 .i64 .i64 _ _ n rfl rfl rfl rfl ?b2 ?b3 ?b4 ?_)
  case b2 => rw [hz2]; omega
  case b3 => unfold maxLen; omega
  case b4 => exact Nat.le_refl _
  intro w1 hown1 hgrow1
  have HB1 := Lib.hid ((Below.refl w.heap.size w).grown hgrow1 (Nat.le_refl _) (fun k hk => by cases hk))
  obtain ⟨xs0, HO1⟩ : ∃ xs0, Hid (w1.ownsRow w.heap.size 3 1 (.slice (some ⟨w.heap.size, 0, none⟩) n n) n xs0) := ⟨_, Lib.hid hown1⟩
  clear hgrow1 hown1
  go_wp2
  go_loopw [4] (fun i wr => ∃ k : Nat, k ≤ n ∧ i = .int .i64 k ∧ Below w.heap.size w wr ∧ ∃ xs, wr.ownsRow w.heap.size 3 1 (.slice (some ⟨w.heap.size, 0, none⟩) n n) n xs ∧ ∀ i, i < k → xs[i]? = some (.int .i64 (zs.getD i 0)))
    (fun i _ => n - (intOf i).toNat)
  case atStart => exact ⟨0, Nat.zero_le _, rfl, HB1.out, xs0, HO1.out, fun i hi => absurd hi (Nat.not_lt_zero _)⟩
  case round =>
    obtain ⟨k, hk, rfl, hB, xs, hown, hxs⟩ := hrel
    by_cases hlt : k < n
    · rcases (H.out.below hB (Nat.le_refl _)).cells with h0 | ⟨g, o, rfl, hg, hc⟩
      · omega
      have qc := hc k hlt
      have hc0 := hown.cellAt k (by omega)
      have hf0 := hown.frozenAt k
      obtain ⟨y, hy⟩ : ∃ y, xs[k]? = some y := ⟨_, List.getElem?_eq_getElem (by rw [hown.1]; omega)⟩
      rw [hy] at hc0
      have HS := Lib.hid (hown.stored k (.int .i64 (zs.getD k 0))).1
      have HX := Lib.hid (set_ints hown.1 hlt hxs)
      have HB := Lib.hid (hB.setCell (p := ⟨w.heap.size, k, none⟩) (Nat.le_refl _) (.int .i64 (zs.getD k 0)))
      clear hc hy hown hxs hB
      go_wp2
      go_roundw
      case rel => exact ⟨k + 1, by omega, by go_num, HB.out, _, HS.out, HX.out⟩
      case measure => simp [intOf]; omega
    · obtain rfl : k = n := by omega
      have HE := Lib.hid (ints_of hown.1 H.out.len hxs)
      rw [HE.out] at hown
      have HO := Lib.hid hown
      clear hown hxs
      go_wp2
      go_ret
      exact ⟨rfl, hB, HO.out⟩

end Go.Proofs.Ytiphooodijbhiab
