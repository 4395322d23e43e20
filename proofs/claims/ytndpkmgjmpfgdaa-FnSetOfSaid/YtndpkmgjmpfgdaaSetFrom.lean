/-
  The walks of SetFrom, of the program, of the model, and of the law that holds them against each other.
-/
import Derived.Test.YtndpkmgjmpfgdaaCore
namespace Go.Proofs.Ytndpkmgjmpfgdaa
open Go.RowKit

theorem hasB_round (t r : List Bool) (n : Nat) (h : t.length ≤ n) : hasB t r (n + r.length) = hasB t r n := by
  unfold hasB
  rw [if_neg (by omega), if_neg (by omega), show n + r.length - t.length = (n - t.length) + r.length from by omega, Nat.add_mod_right]

/-- x is the least number of the set that is not less than n. -/
structure LeastFrom (t r : List Bool) (n x : Nat) : Prop where
  ge : n ≤ x
  has : hasB t r x = true
  least : ∀ y, n ≤ y → y < x → hasB t r y = false
def NoneFrom (t r : List Bool) (n : Nat) : Prop := ∀ y, n ≤ y → hasB t r y = false

theorem least_of (t r : List Bool) (n : Nat) : ∀ d, hasB t r (n + d) = true → ∃ x, LeastFrom t r n x := by
  intro d
  induction d using Nat.strongRecOn with
  | ind d ih =>
    intro h
    by_cases hx : ∃ e, e < d ∧ hasB t r (n + e) = true
    · obtain ⟨e, he, h2⟩ := hx; exact ih e he h2
    · refine ⟨n + d, by omega, h, fun y h1 h2 => ?_⟩
      rw [Bool.eq_false_iff]
      intro hy
      exact hx ⟨y - n, by omega, by rw [show n + (y - n) = y from by omega]; exact hy⟩
theorem from_cases (t r : List Bool) (n : Nat) : (∃ x, LeastFrom t r n x) ∨ NoneFrom t r n := by
  by_cases h : ∃ d, hasB t r (n + d) = true
  · obtain ⟨d, hd⟩ := h; exact .inl (least_of t r n d hd)
  · refine .inr fun y hy => ?_
    rw [Bool.eq_false_iff]
    intro h2
    exact h ⟨y - n, by rw [show n + (y - n) = y from by omega]; exact h2⟩
theorem least_lt {t r : List Bool} {n x : Nat} (hr : 0 < r.length) (h : LeastFrom t r n x) : x < max n t.length + r.length := by
  rcases Nat.lt_or_ge x (max n t.length + r.length) with k | k
  · exact k
  · have e : x = (x - r.length) + r.length := by omega
    have h1 := h.has
    rw [e, hasB_round t r _ (by omega)] at h1
    rw [h.least (x - r.length) (by omega) (by omega)] at h1
    cases h1

theorem box_later {w1 wr : World} {u v : Value} {T : TypeId} (hB : Below (w1.alloc (.cells #[u, v] T)).heap.size (w1.alloc (.cells #[u, v] T)) wr) :
    wr.cell? ⟨w1.heap.size, 0, none⟩ = some u ∧ wr.cell? ⟨w1.heap.size, 1, none⟩ = some v := by
  have h : w1.heap.size < (w1.alloc (.cells #[u, v] T)).heap.size := by simp
  refine ⟨(hB.cell (p := ⟨w1.heap.size, 0, none⟩) h).trans ?_, (hB.cell (p := ⟨w1.heap.size, 1, none⟩) h).trans ?_⟩
  · rw [World.cell?_alloc_at _ _ _ _ rfl]; rfl
  · rw [World.cell?_alloc_at _ _ _ _ rfl]; rfl
theorem box_below {w w1 : World} (hb : Below w.heap.size w w1) {wr : World} {o : Obj} (hB : Below (w1.alloc o).heap.size (w1.alloc o) wr) : Below w.heap.size w wr :=
  (hb.alloc hb.size o).trans (hB.mono (by have := hb.size; simp; omega))

theorem below_second {w w1 w2 : World} {o : Obj} (hb : Below w.heap.size w w1) (hb2 : Below (w1.alloc o).heap.size (w1.alloc o) w2) (o2 : Obj) : Below w.heap.size w (w2.alloc o2) := by
  have h := box_below hb hb2
  exact h.alloc h.size o2

theorem numberIn_yes (n : Int) (w : World) (h : 0 ≤ n) (h2 : n ≤ 1000) :
    Calls Try.prog 64 #[.int .i64 n] w fun e w' => e = .returned (.bool true) ∧ w = w' := by
  go_enter Try.func64, Try.ntmps64
  go_wp2
  go_ret
  exact ⟨rfl, rfl⟩
theorem numberIn_no (n : Int) (w : World) (h : n < 0 ∨ 1000 < n) :
    Calls Try.prog 64 #[.int .i64 n] w fun e w' => e = .returned (.bool false) ∧ w = w' := by
  rcases h with h | h
  · go_enter Try.func64, Try.ntmps64
    go_wp2
    go_ret
    exact ⟨rfl, rfl⟩
  · have h0 : 0 ≤ n := by omega
    have hd : decide (n ≤ 1000) = false := decide_eq_false (by omega)
    go_enter Try.func64, Try.ntmps64
    go_wp2
    go_ret
    exact ⟨rfl, rfl⟩
theorem l6In_yes (n a b : Int) (w : World) (h : a ≤ n) (h2 : n ≤ b) :
    Calls Try.prog 65 #[.int .i64 n, .int .i64 a, .int .i64 b] w fun e w' => e = .returned (.bool true) ∧ w = w' := by
  go_enter Try.func65, Try.ntmps65
  go_wp2
  go_ret
  exact ⟨rfl, rfl⟩
theorem l6In_no (n a b : Int) (w : World) (h : n < a ∨ b < n) (hab : a ≤ b) :
    Calls Try.prog 65 #[.int .i64 n, .int .i64 a, .int .i64 b] w fun e w' => e = .returned (.bool false) ∧ w = w' := by
  rcases h with h | h
  · go_enter Try.func65, Try.ntmps65
    go_wp2
    go_ret
    exact ⟨rfl, rfl⟩
  · have h0 : a ≤ n := by omega
    have hd : decide (n ≤ b) = false := decide_eq_false (by omega)
    go_enter Try.func65, Try.ntmps65
    go_wp2
    go_ret
    exact ⟨rfl, rfl⟩

set_option maxHeartbeats 400000 in
theorem specFrom_off (s : ByteArray) (n : Int) (w : World) (hs : s.size ≤ 1048576) (h : okS s = false ∨ n < 0 ∨ 1000 < n) :
    Calls Try.prog 35 #[.string s, .int .i64 n] w fun e w' => e = .returned (.tuple #[.int .i64 0, .bool false]) ∧ Below w.heap.size w w' := by
  cases hok : okS s
  · go_enter Try.func35, Try.ntmps35
    go_wp2_with fail
    refine (read_off s _ hs hok).mono ?_
    rintro e w1 ⟨a1, n1, c1, a2, n2, c2, rfl, hb⟩
    go_wp2
    go_ret2
    exact ⟨rfl, (hb.alloc hb.size _)⟩
  · have h' : n < 0 ∨ 1000 < n := by rcases h with h | h; rw [hok] at h; cases h; exact h
    go_enter Try.func35, Try.ntmps35
    go_wp2_with fail
    refine (read_on s _ hs hok).mono ?_
    rintro e w1 ⟨a1, n1, c1, a2, n2, c2, rfl, hb, _⟩
    go_wp2_with fail
    refine (l6In_no n 0 1000 _ h' (by decide)).mono ?_
    rintro e w2 ⟨rfl, rfl⟩
    go_wp2
    go_ret2
    exact ⟨rfl, (hb.alloc hb.size _)⟩

set_option maxHeartbeats 400000 in
theorem specFrom_some (s : ByteArray) (n x : Nat) (w : World) (hs : s.size ≤ 1048576) (hok : okS s = true) (hn : n ≤ 1000) (hx : LeastFrom (setT s) (setR s) n x) :
    Calls Try.prog 35 #[.string s, .int .i64 n] w fun e w' => e = .returned (.tuple #[.int .i64 x, .bool true]) ∧ Below w.heap.size w w' := by
  have hlt := least_lt (setR_pos hok) hx
  have ht := setT_le hok
  have hr := setR_le hok
  have hx1 : x < n + 120 := by omega
  have hx0 := hx.ge
  have HX := Lib.hid hx
  clear hx hlt ht hr
  go_enter Try.func35, Try.ntmps35
  go_wp2_with fail
  refine (read_on s _ hs hok).mono ?_
  rintro e w1 ⟨a1, n1, c1, a2, n2, c2, rfl, hb, hread⟩
  go_wp2_with fail
  refine (l6In_yes n 0 1000 _ (by omega) (by omega)).mono ?_
  rintro e w2 ⟨rfl, rfl⟩
  have HR := Lib.hid (hread.alloc (.cells #[.slice a1 n1 c1, .slice a2 n2 c2] 53))
  clear hread
  go_wp2
  go_loopw [8] (fun i wr => ∃ k : Nat, n ≤ k ∧ k ≤ x ∧ i = .int .i64 k ∧ Below (w1.alloc (.cells #[.slice a1 n1 c1, .slice a2 n2 c2] 53)).heap.size (w1.alloc (.cells #[.slice a1 n1 c1, .slice a2 n2 c2] 53)) wr)
    (fun i _ => x + 1 - (intOf i).toNat)
  case atStart => exact ⟨n, Nat.le_refl _, hx0, rfl, Below.refl _ _⟩
  case round =>
    obtain ⟨k, hk0, hk, rfl, hB⟩ := hrel
    obtain ⟨q0, q1⟩ := box_later hB
    have hrd := HR.out.below hB (Nat.le_refl _)
    have HB := Lib.hid hB
    have hkn : (k : Int) < (n : Int) + 120 := by omega
    clear hB
    by_cases hlt : k < x
    · have hv : hasI (setT s) (setR s) (k : Int) = false := by rw [hasI_nat]; exact HX.out.least k hk0 hlt
      have HD := Lib.hid hrd
      clear hrd
      go_wp2_with fail
      refine (l1Has_on s a1 a2 n1 c1 n2 c2 k _ HD.out (by omega)).mono ?_
      rintro e w3 ⟨rfl, hb3⟩
      have HB3 := Lib.hid hb3
      clear hb3
      go_wp2
      go_roundw
      case rel => exact ⟨k + 1, by omega, by omega, by go_num, HB.out.trans (HB3.out.mono HB.out.size)⟩
      case measure => simp [intOf]; omega
    · obtain rfl : k = x := by omega
      have hv : hasI (setT s) (setR s) (k : Int) = true := by rw [hasI_nat]; exact HX.out.has
      have HD := Lib.hid hrd
      clear hrd
      go_wp2_with fail
      refine (l1Has_on s a1 a2 n1 c1 n2 c2 k _ HD.out (by omega)).mono ?_
      rintro e w3 ⟨rfl, hb3⟩
      have HB3 := Lib.hid hb3
      clear hb3
      go_wp2
      go_ret2
      exact ⟨rfl, box_below hb (HB.out.trans (HB3.out.mono HB.out.size))⟩

set_option maxRecDepth 100000 in
set_option maxHeartbeats 400000 in
theorem specFrom_none (s : ByteArray) (n : Nat) (w : World) (hs : s.size ≤ 1048576) (hok : okS s = true) (hn : n ≤ 1000) (hx : NoneFrom (setT s) (setR s) n) :
    Calls Try.prog 35 #[.string s, .int .i64 n] w fun e w' => e = .returned (.tuple #[.int .i64 0, .bool false]) ∧ Below w.heap.size w w' := by
  have HX := Lib.hid hx
  clear hx
  go_enter Try.func35, Try.ntmps35
  go_wp2_with fail
  refine (read_on s _ hs hok).mono ?_
  rintro e w1 ⟨a1, n1, c1, a2, n2, c2, rfl, hb, hread⟩
  go_wp2_with fail
  refine (l6In_yes n 0 1000 _ (by omega) (by omega)).mono ?_
  rintro e w2 ⟨rfl, rfl⟩
  have HR := Lib.hid (hread.alloc (.cells #[.slice a1 n1 c1, .slice a2 n2 c2] 53))
  clear hread
  go_wp2
  go_loopw [8] (fun i wr => ∃ k : Nat, n ≤ k ∧ k ≤ n + 120 ∧ i = .int .i64 k ∧ Below (w1.alloc (.cells #[.slice a1 n1 c1, .slice a2 n2 c2] 53)).heap.size (w1.alloc (.cells #[.slice a1 n1 c1, .slice a2 n2 c2] 53)) wr)
    (fun i _ => n + 121 - (intOf i).toNat)
  case atStart => exact ⟨n, Nat.le_refl _, by omega, rfl, Below.refl _ _⟩
  case round =>
    obtain ⟨k, hk0, hk, rfl, hB⟩ := hrel
    obtain ⟨q0, q1⟩ := box_later hB
    have hrd := HR.out.below hB (Nat.le_refl _)
    have HB := Lib.hid hB
    clear hB
    by_cases hlt : k < n + 120
    · have hkn : (k : Int) < (n : Int) + 120 := by omega
      have hv : hasI (setT s) (setR s) (k : Int) = false := by rw [hasI_nat]; exact HX.out k hk0
      have HD := Lib.hid hrd
      clear hrd
      go_wp2_with fail
      refine (l1Has_on s a1 a2 n1 c1 n2 c2 k _ HD.out (by omega)).mono ?_
      rintro e w3 ⟨rfl, hb3⟩
      have HB3 := Lib.hid hb3
      clear hb3
      go_wp2
      go_roundw
      case rel => exact ⟨k + 1, by omega, by omega, by go_num, HB.out.trans (HB3.out.mono HB.out.size)⟩
      case measure => simp [intOf]; omega
    · have hkn : (n : Int) + 120 ≤ (k : Int) := by omega
      go_wp2
      go_ret2
      exact ⟨rfl, box_below hb HB.out⟩

set_option maxHeartbeats 400000 in
theorem implFrom_off (s : ByteArray) (n m : Int) (w : World) (hs : s.size ≤ 1048576) (hL : LibAt m w) (h : okS s = false ∨ n < 0 ∨ 1000 < n) :
    Calls Try.prog 34 #[.string s, .int .i64 n] w fun e w' => e = .returned (.tuple #[.int .i64 0, .bool false]) ∧ Below w.heap.size w w' := by
  cases hok : okS s
  · go_enter Try.func34, Try.ntmps34
    go_wp2_with fail
    refine (split_off s m _ hs hL hok).mono ?_
    rintro e w1 ⟨rfl, hb⟩
    go_wp2
    go_ret2
    exact ⟨rfl, (hb.alloc hb.size _)⟩
  · have h' : n < 0 ∨ 1000 < n := by rcases h with h | h; rw [hok] at h; cases h; exact h
    go_enter Try.func34, Try.ntmps34
    go_wp2_with fail
    refine (split_on s m _ hs hL hok).mono ?_
    rintro e w1 ⟨T, R, rfl, hb, _⟩
    go_wp2_with fail
    refine (numberIn_no n _ h').mono ?_
    rintro e w2 ⟨rfl, rfl⟩
    go_wp2
    go_ret2
    exact ⟨rfl, (hb.alloc hb.size _)⟩

theorem max_pair (a b : Nat) : max (a : Int) (b : Int) = ((max a b : Nat) : Int) := by omega

set_option maxHeartbeats 400000 in
theorem implFrom_some (s : ByteArray) (n x : Nat) (m : Int) (w : World) (hs : s.size ≤ 1048576) (hL : LibAt m w) (hok : okS s = true) (hn : n ≤ 1000) (hx : LeastFrom (setT s) (setR s) n x) :
    Calls Try.prog 34 #[.string s, .int .i64 n] w fun e w' => e = .returned (.tuple #[.int .i64 x, .bool true]) ∧ Below w.heap.size w w' := by
  have hlt := least_lt (setR_pos hok) hx
  have hx0 := hx.ge
  have HX := Lib.hid hx
  clear hx
  go_enter Try.func34, Try.ntmps34
  go_wp2_with fail
  refine (split_on s m _ hs hL hok).mono ?_
  rintro e w1 ⟨T, R, rfl, hb, hsp⟩
  rw [hsp.tailLen, hsp.ringLen] at hlt
  have hTl := hsp.tailLe
  have hRl := hsp.ringLe
  have HS := Lib.hid hsp
  clear hsp
  go_wp2_with fail
  refine (numberIn_yes n _ (by omega) (by omega)).mono ?_
  rintro e w2 ⟨rfl, rfl⟩
  go_wp2
  go_loopw [9] (fun i wr => ∃ k : Nat, n ≤ k ∧ k ≤ x ∧ i = .int .i64 k ∧ Below (w1.alloc (.cells #[.string T, .string R] 48)).heap.size (w1.alloc (.cells #[.string T, .string R] 48)) wr)
    (fun i _ => x + 1 - (intOf i).toNat)
  case atStart => exact ⟨n, Nat.le_refl _, hx0, rfl, Below.refl _ _⟩
  case round =>
    obtain ⟨k, hk0, hk, rfl, hB⟩ := hrel
    obtain ⟨q0, q1⟩ := box_later hB
    have HB := Lib.hid hB
    clear hB
    have hkn : (k : Int) < max (n : Int) (T.size : Int) + (R.size : Int) := by omega
    by_cases hlt2 : k < x
    · have hv : hasI (setT s) (setR s) (k : Int) = false := by rw [hasI_nat]; exact HX.out.least k hk0 hlt2
      go_wp2_with fail
      refine (has_on s T R k _ HS.out (by omega)).mono ?_
      rintro e w3 ⟨rfl, hb3⟩
      have HB3 := Lib.hid hb3
      clear hb3
      go_wp2
      go_roundw
      case rel => exact ⟨k + 1, by omega, by omega, by go_num, HB.out.trans (HB3.out.mono HB.out.size)⟩
      case measure => simp [intOf]; omega
    · obtain rfl : k = x := by omega
      have hv : hasI (setT s) (setR s) (k : Int) = true := by rw [hasI_nat]; exact HX.out.has
      go_wp2_with fail
      refine (has_on s T R k _ HS.out (by omega)).mono ?_
      rintro e w3 ⟨rfl, hb3⟩
      have HB3 := Lib.hid hb3
      clear hb3
      go_wp2
      go_ret2
      exact ⟨rfl, box_below hb (HB.out.trans (HB3.out.mono HB.out.size))⟩

set_option maxHeartbeats 400000 in
theorem implFrom_none (s : ByteArray) (n : Nat) (m : Int) (w : World) (hs : s.size ≤ 1048576) (hL : LibAt m w) (hok : okS s = true) (hn : n ≤ 1000) (hx : NoneFrom (setT s) (setR s) n) :
    Calls Try.prog 34 #[.string s, .int .i64 n] w fun e w' => e = .returned (.tuple #[.int .i64 0, .bool false]) ∧ Below w.heap.size w w' := by
  have HX := Lib.hid hx
  clear hx
  go_enter Try.func34, Try.ntmps34
  go_wp2_with fail
  refine (split_on s m _ hs hL hok).mono ?_
  rintro e w1 ⟨T, R, rfl, hb, hsp⟩
  have hTl := hsp.tailLe
  have hRl := hsp.ringLe
  have HS := Lib.hid hsp
  clear hsp
  go_wp2_with fail
  refine (numberIn_yes n _ (by omega) (by omega)).mono ?_
  rintro e w2 ⟨rfl, rfl⟩
  go_wp2
  go_loopw [9] (fun i wr => ∃ k : Nat, n ≤ k ∧ k ≤ max n T.size + R.size ∧ i = .int .i64 k ∧ Below (w1.alloc (.cells #[.string T, .string R] 48)).heap.size (w1.alloc (.cells #[.string T, .string R] 48)) wr)
    (fun i _ => max n T.size + R.size + 1 - (intOf i).toNat)
  case atStart => exact ⟨n, Nat.le_refl _, by omega, rfl, Below.refl _ _⟩
  case round =>
    obtain ⟨k, hk0, hk, rfl, hB⟩ := hrel
    obtain ⟨q0, q1⟩ := box_later hB
    have HB := Lib.hid hB
    clear hB
    by_cases hlt2 : k < max n T.size + R.size
    · have hkn : (k : Int) < max (n : Int) (T.size : Int) + (R.size : Int) := by omega
      have hv : hasI (setT s) (setR s) (k : Int) = false := by rw [hasI_nat]; exact HX.out k hk0
      go_wp2_with fail
      refine (has_on s T R k _ HS.out (by omega)).mono ?_
      rintro e w3 ⟨rfl, hb3⟩
      have HB3 := Lib.hid hb3
      clear hb3
      go_wp2
      go_roundw
      case rel => exact ⟨k + 1, by omega, by omega, by go_num, HB.out.trans (HB3.out.mono HB.out.size)⟩
      case measure => simp [intOf]; omega
    · have hkn : max (n : Int) (T.size : Int) + (R.size : Int) ≤ (k : Int) := by omega
      go_wp2
      go_ret2
      exact ⟨rfl, box_below hb HB.out⟩

/-- What SetFrom answers. -/
inductive FromIs (s : ByteArray) (n : Int) : Value → Prop where
  | off : okS s = false ∨ n < 0 ∨ 1000 < n → FromIs s n (.tuple #[.int .i64 0, .bool false])
  | some (k x : Nat) : okS s = true → n = k → k ≤ 1000 → LeastFrom (setT s) (setR s) k x → FromIs s n (.tuple #[.int .i64 x, .bool true])
  | none (k : Nat) : okS s = true → n = k → k ≤ 1000 → NoneFrom (setT s) (setR s) k → FromIs s n (.tuple #[.int .i64 0, .bool false])
theorem from_form (s : ByteArray) (n : Int) : ∃ x b, FromIs s n (.tuple #[.int .i64 x, .bool b]) := by
  by_cases h : okS s = false ∨ n < 0 ∨ 1000 < n
  · exact ⟨_, _, .off h⟩
  · have hok : okS s = true := by cases e : okS s; exact (h (.inl e)).elim; rfl
    obtain ⟨k, rfl⟩ := Int.eq_ofNat_of_zero_le (show 0 ≤ n by omega)
    rcases from_cases (setT s) (setR s) k with ⟨x, hx⟩ | hx
    · exact ⟨_, _, .some k x hok rfl (by omega) hx⟩
    · exact ⟨_, _, .none k hok rfl (by omega) hx⟩
theorem specFrom (s : ByteArray) (n : Int) (v : Value) (w : World) (hs : s.size ≤ 1048576) (h : FromIs s n v) :
    Calls Try.prog 35 #[.string s, .int .i64 n] w fun e w' => e = .returned v ∧ Below w.heap.size w w' := by
  cases h with
  | off h => exact specFrom_off s n w hs h
  | some k x hok hn hk hx => subst hn; exact specFrom_some s k x w hs hok hk hx
  | none k hok hn hk hx => subst hn; exact specFrom_none s k w hs hok hk hx
theorem implFrom (s : ByteArray) (n m : Int) (v : Value) (w : World) (hs : s.size ≤ 1048576) (hL : LibAt m w) (h : FromIs s n v) :
    Calls Try.prog 34 #[.string s, .int .i64 n] w fun e w' => e = .returned v ∧ Below w.heap.size w w' := by
  cases h with
  | off h => exact implFrom_off s n m w hs hL h
  | some k x hok hn hk hx => subst hn; exact implFrom_some s k x m w hs hL hok hk hx
  | none k hok hn hk hx => subst hn; exact implFrom_none s k m w hs hL hok hk hx

end Go.Proofs.Ytndpkmgjmpfgdaa
