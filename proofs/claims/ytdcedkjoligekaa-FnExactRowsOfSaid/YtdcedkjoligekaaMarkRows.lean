/-
  Marking and reading again lists of lists of integers that the call owns: markIntSS, heldIntSS.
-/
import Derived.Test.YtdcedkjoligekaaDrawRows
import Derived.Test.YtdcedkjoligekaaMarkOnly
namespace Go.Proofs.Ytdcedkjoligekaa
open Go.RowKit
set_option linter.unusedVariables false

/-- Where the marks of row i begin. -/
def posR (q : Nat) (rs : List (List Int)) : Nat → Nat
  | 0 => q
  | i + 1 => posR q rs i + (rs.getD i []).length
theorem posR_mono (q : Nat) (rs : List (List Int)) {i j : Nat} (h : i ≤ j) : posR q rs i ≤ posR q rs j := by
  induction j with
  | zero => obtain rfl : i = 0 := by omega
            exact Nat.le_refl _
  | succ j ih =>
    rcases Nat.lt_or_ge j i with k | k
    · obtain rfl : i = j + 1 := by omega
      exact Nat.le_refl _
    · exact Nat.le_trans (ih k) (Nat.le_add_right _ _)
/-- The rows, the first k of them marked. -/
def mixR (q : Nat) (rs : List (List Int)) (k : Nat) : List (List Int) := (List.range rs.length).map fun i => if i < k then marks (posR q rs i) (rs.getD i []).length else rs.getD i []
theorem mixR_length (q : Nat) (rs : List (List Int)) (k : Nat) : (mixR q rs k).length = rs.length := by simp [mixR]
theorem mixR_getD (q : Nat) (rs : List (List Int)) (k : Nat) {i : Nat} (h : i < rs.length) : (mixR q rs k).getD i [] = if i < k then marks (posR q rs i) (rs.getD i []).length else rs.getD i [] := by
  unfold mixR
  rw [List.getD_eq_getElem?_getD, List.getElem?_map, List.getElem?_range h]; rfl
theorem mixR_len (q : Nat) (rs : List (List Int)) (k : Nat) {i : Nat} (h : i < rs.length) : ((mixR q rs k).getD i []).length = (rs.getD i []).length := by
  rw [mixR_getD q rs k h]; split
  · rw [marks_length]
  · rfl
theorem mixR_zero (q : Nat) (rs : List (List Int)) : mixR q rs 0 = rs := by
  apply List.ext_getElem?
  intro i
  rcases Nat.lt_or_ge i rs.length with k | k
  · unfold mixR; rw [List.getElem?_map, List.getElem?_range k]; simp [k]
  · rw [List.getElem?_eq_none (by rw [mixR_length]; exact k), List.getElem?_eq_none k]

theorem rowsIn_marked {w w' : World} {B q k : Nat} {G : Nat → Nat} {xs : List Value} {rs : List (List Int)} (h : RowsIn w B G xs (mixR q rs k)) (hk : k < rs.length)
    (hn : w'.ownsRow B 3 1 (.slice (some ⟨G k, 0, none⟩) (rs.getD k []).length (rs.getD k []).length) (rs.getD k []).length (ints (marks (posR q rs k) (rs.getD k []).length)))
    (ho : OnlyAt (some ⟨G k, 0, none⟩) w w') : RowsIn w' B G xs (mixR q rs (k + 1)) := by
  intro i hi
  rw [mixR_length] at hi
  obtain ⟨h1, h2, h3⟩ := h i (by rw [mixR_length]; exact hi)
  rw [mixR_len q rs k hi] at h1 h2
  rw [mixR_len q rs (k + 1) hi]
  refine ⟨h1, ?_, h3⟩
  by_cases e : i = k
  · subst e
    rw [mixR_getD q rs (i + 1) hi, if_pos (by omega)]
    exact hn
  · have e2 : (mixR q rs (k + 1)).getD i [] = (mixR q rs k).getD i [] := by
      rw [mixR_getD q rs (k + 1) hi, mixR_getD q rs k hi]
      by_cases hl : i < k
      · rw [if_pos (by omega), if_pos hl]
      · rw [if_neg (by omega), if_neg hl]
    rw [e2]
    refine own_only h2 ho fun x hx e3 => ?_
    injection hx with hx
    subst hx
    injection e3 with e3
    have e3 : G i = G k := e3
    rcases Nat.lt_or_gt_of_ne e with hl | hl
    · have := (h k (by rw [mixR_length]; exact hk)).2.2 i hl
      omega
    · have := h3 k hl
      omega

set_option maxRecDepth 100000 in
set_option maxHeartbeats 1000000 in
theorem markIntSS_own (B q : Nat) (a : Option Addr) (n c : Nat) (rs : List (List Int)) (w : World) (h : OwnRows w B (.slice a n c) rs) (hs : Short rs) (hn : n ≤ 1048576) (hq : posR q rs rs.length ≤ 1048576) :
    Calls Try.prog 49 #[.slice a n c, .int .i64 q] w fun e w' =>
      e = .returned (.int .i64 (posR q rs n : Nat)) ∧ Below B w w' ∧ OwnRows w' B (.slice a n c) (mixR q rs n) := by
  have hnl : n = rs.length := h.reads.1
  subst hnl
  obtain ⟨xs, G, hown, hrows⟩ := h
  rw [← mixR_zero q rs] at hrows
  have HO := Lib.hid hown
  have HR := Lib.hid hrows
  have HS := Lib.hid hs
  clear hown hrows hs
  go_enter Try.func49, Try.ntmps49
  go_wp2
  go_loopw [1, 5] (fun m i wr => ∃ k : Nat, k ≤ rs.length ∧ i = .int .i64 k ∧ m = .int .i64 (posR q rs k : Nat) ∧ Below B w wr ∧ wr.ownsRow B 40 1 (.slice a rs.length c) rs.length xs ∧ RowsIn wr B G xs (mixR q rs k))
    (fun _ i _ => rs.length - (intOf i).toNat)
  case atStart => exact ⟨0, Nat.zero_le _, rfl, rfl, Below.refl _ _, HO.out, HR.out⟩
  case round =>
    obtain ⟨k, hk, rfl, rfl, hB, hown, hrows⟩ := hrel
    have HB := Lib.hid hB
    by_cases hlt : k < rs.length
    · have hkr : k < rs.length := hlt
      obtain ⟨h1, h2, -⟩ := hrows k (by rw [mixR_length]; exact hkr)
      rw [mixR_len q rs k hkr] at h1 h2
      rw [mixR_getD q rs k hkr, if_neg (Nat.lt_irrefl _)] at h2
      have hd := HS.out k hkr
      have hpk : posR q rs k ≤ 1048576 := Nat.le_trans (posR_mono q rs (Nat.le_of_lt hkr)) hq
      have hp1 := posR_mono q rs (Nat.succ_le_of_lt hkr)
      rcases hown.2 with ⟨hv, h0⟩ | ⟨g, cap, cur, hv, hg, hh, _⟩
      · omega
      · injection hv with ha _ hc
        subst ha
        have hc0 : wr.cell? ⟨g, k, none⟩ = xs[k]? := hown.cellAt k (by omega)
        rw [h1] at hc0
        have HOWN := Lib.hid hown
        have HROWS := Lib.hid hrows
        have HZ := Lib.hid h2
        obtain ⟨d, hde⟩ : ∃ d, d = (rs.getD k []).length := ⟨_, rfl⟩
        rw [← hde] at hc0 HZ hd
        obtain ⟨z, hz⟩ : ∃ z, z = posR q rs k := ⟨_, rfl⟩
        rw [← hz] at hpk ⊢
        have HD := Lib.hid hde
        have HP := Lib.hid hz
        have f1 : (k : Int) < (rs.length : Int) := by omega
        clear hown hrows hB h1 h2 hh hde hz hc hp1
        go_wp2_with fail
        refine (markIntS_only B _ d d z _ wr HZ.out hd (by omega)).mono ?_
        rintro e w3 ⟨rfl, hb3, hz3, ho3⟩
        have HB3 := Lib.hid (HB.out.trans hb3)
        have HO3 := Lib.hid (own_only HOWN.out ho3 (fun x hx e => blocks_apart HZ.out HOWN.out (by injection hx with hx; rw [e, ← hx])))
        have HR3 := Lib.hid (rowsIn_marked HROWS.out hkr (by rw [← HD.out, ← HP.out]; exact hz3) ho3)
        have HP1 : Hid (posR q rs (k + 1) = z + d) := Lib.hid (by rw [HP.out, HD.out]; rfl)
        clear hb3 hz3 ho3 hc0
        go_wp2
        go_roundw
        case rel => exact ⟨k + 1, by omega, by go_num, by rw [HP1.out]; go_num, HB3.out, HO3.out, HR3.out⟩
        case measure => simp [intOf]; omega
    · obtain rfl : k = rs.length := by omega
      have HOWN := Lib.hid hown
      have HROWS := Lib.hid hrows
      clear hB hown hrows
      go_wp2
      go_ret
      exact ⟨rfl, HB.out, xs, G, by rw [mixR_length]; exact HOWN.out, HROWS.out⟩

set_option maxRecDepth 100000 in
set_option maxHeartbeats 1000000 in
theorem heldIntSS_own (q : Nat) (a : Option Addr) (n c : Nat) (rs : List (List Int)) (w : World) (h : ReadsR w a n (mixR q rs n)) (hs : Short rs) (hn : n ≤ 1048576) (hq : posR q rs rs.length ≤ 1048576) :
    Calls Try.prog 50 #[.slice a n c, .int .i64 q] w fun e w' => e = .returned (.int .i64 (posR q rs n : Nat)) ∧ w = w' := by
  have hnl : rs.length = n := by have := h.len; rw [mixR_length] at this; exact this
  have H := Lib.hid h
  have HS := Lib.hid hs
  clear h hs
  go_enter Try.func50, Try.ntmps50
  go_wp2
  go_loop [1, 5] (fun m i => ∃ k : Nat, k ≤ n ∧ i = .int .i64 k ∧ m = .int .i64 (posR q rs k : Nat)) (fun _ i => n - (intOf i).toNat)
  case atStart => exact ⟨0, Nat.zero_le _, rfl, rfl⟩
  case round =>
    obtain ⟨k, hk, rfl, rfl⟩ := hrel
    by_cases hlt : k < n
    · have hkr : k < rs.length := by omega
      obtain ⟨g, o, rfl, hg, a', c', hc, hr⟩ := H.out.row hlt
      rw [mixR_len q rs n hkr] at hc hr
      rw [mixR_getD q rs n hkr, if_pos hlt] at hr
      have hd := HS.out k hkr
      have hpk : posR q rs k ≤ 1048576 := Nat.le_trans (posR_mono q rs (Nat.le_of_lt hkr)) hq
      obtain ⟨d, hde⟩ : ∃ d, d = (rs.getD k []).length := ⟨_, rfl⟩
      rw [← hde] at hc hr hd
      obtain ⟨z, hz⟩ : ∃ z, z = posR q rs k := ⟨_, rfl⟩
      rw [← hz] at hpk hr ⊢
      have HR := Lib.hid hr
      have HP1 : Hid (posR q rs (k + 1) = z + d) := Lib.hid (by rw [hz, hde]; rfl)
      have f1 : (k : Int) < (n : Int) := by omega
      have f2 : (0 : Int) ≤ (z : Int) + (d : Int) := by omega
      clear hr hde hz
      go_wp2_with fail
      refine (heldIntS_any a' d c' z _ HR.out hd hpk).mono ?_
      rintro e w3 ⟨rfl, rfl⟩
      go_wp2
      go_round
      case rel => exact ⟨k + 1, by omega, by go_num, by rw [HP1.out]; go_num⟩
      case measure => simp [intOf]; omega
    · obtain rfl : k = n := by omega
      go_wp2
      go_ret
      exact ⟨rfl, rfl⟩
end Go.Proofs.Ytdcedkjoligekaa
