/-
  The walks of spec.l91Signs and l91Set: a text that is drawn.
-/
import Derived.Test.YtojjfkabepkhdaaDrawOpen
import Derived.Test.YtojjfkabepkhdaaWrite
import Derived.Lib.MinMax
namespace Go.Proofs.Ytojjfkabepkhdaa
open Go.RowKit

theorem bytes_start0 (w : World) : (w.alloc (.cells #[] 5)).ownsRow w.heap.size 5 1 (.slice (some ⟨w.heap.size, 0, none⟩) 0 0) 0 (Lib.byteCells []) := by
  have h := World.ownsRow_made (base := w.heap.size) (e := 5) (size := 1) w #[] 0 (by simp) (by decide) rfl
  exact h

theorem bytes_grown {B : Nat} {W wr w1 : World} {u v' : Value} {l : List UInt8} {c : UInt8} {n : Nat} {o : Obj}
    (hown : wr.ownsRow B 5 1 u n (Lib.byteCells l)) (hnx : Below B W wr) (hBs : B ≤ wr.heap.size)
    (hown' : w1.ownsRow B 5 1 v' (n + 1) (Lib.byteCells l ++ [.int .u8 c.toNat])) (hgrow : (wr.alloc o).grownBy w1 u.ownBlock) :
    w1.ownsRow B 5 1 v' (n + 1) (Lib.byteCells (l ++ [c])) ∧ Below B W w1 := bytes_rel hown hnx (Nat.le_refl _) hBs hown' hgrow
set_option maxRecDepth 100000 in
set_option maxHeartbeats 4000000 in
theorem signs_rd {R : Nat} {a : Option Addr} {n c p : Nat} {w : World} (h : Rd R a n c p w) (low many : Nat) (hp : p ≤ 50000) (hl : low ≤ 1000) (hm0 : 0 < many) (hm : many ≤ 1000) :
    Calls Try.prog 62 #[.pointer (some ⟨R, 0, none⟩), .int .i64 low, .int .i64 many] w fun e w' =>
      ∃ (s : ByteArray) (p' : Nat), e = .returned (.string s) ∧ s.size < low + many ∧ p' ≤ p + low + many ∧ Rd R a n c p' w' ∧ Apart R w w' := by
  obtain ⟨i0, hi, hz0, hz1, hz2⟩ := info_parts infoByte
  have H := Lib.hid (h.below (B := w.heap.size) ((Below.refl _ _).alloc (Nat.le_refl _) (.cells #[] 5)) h.lt)
  have hR := h.lt
  clear h
  go_enter Try.func62, Try.ntmps62
  go_wp2_with fail
  refine (pick_rd H.out many (by omega) hm0 (by omega)).mono ?_
  rintro e w1 ⟨v, rfl, hv, hrd, hap, hsz⟩
  have hsz2 : (w.alloc (.cells #[] 5)).heap.size = w.heap.size + 1 := by simp
  have HO := Lib.hid (own_apart (bytes_start0 w) hap hR)
  have HA := Lib.hid ((Apart.of_below (Nat.le_of_lt hR) ((Below.refl _ _).alloc (Nat.le_refl _) (.cells #[] 5))).trans hap)
  have HR := Lib.hid hrd
  clear hap hrd hsz hsz2
  go_wp2
  go_loopw [7, 8] (fun u i wr => ∃ (k : Nat) (l : List UInt8), i = .int .i64 k ∧ k + l.length = low + v ∧ Rd R a n c (p + 1 + l.length) wr ∧ Apart R w wr ∧ wr.ownsRow w.heap.size 5 1 u l.length (Lib.byteCells l) ∧ ∃ g cap, u = .slice (some ⟨g, 0, none⟩) l.length cap)
    (fun _ i _ => (intOf i).toNat)
  case atStart => exact ⟨low + v, [], by go_num, by simp, HR.out, HA.out, HO.out, _, _, rfl⟩
  case round =>
    obtain ⟨k, l, rfl, hkl, hrd, hap, hown, g, cap, rfl⟩ := hrel
    have hRl := hrd.lt
    by_cases h0 : k = 0
    · subst h0
      have hconv := bytes_back hown rfl
      have HR2 := Lib.hid hrd
      have HA2 := Lib.hid hap
      have HS := Lib.hid (show (⟨l.toArray⟩ : ByteArray).size = l.length from rfl)
      clear hrd hap hown
      go_wp2
      go_ret
      exact ⟨_, _, rfl, by rw [HS.out]; omega, by omega, HR2.out, HA2.out⟩
    · have hk1 : (0 : Int) < (k : Int) := by omega
      have HAP := Lib.hid hap
      clear hap
      go_wp2_with fail
      refine (pick_rd hrd 2 (by omega) (by omega) (by omega)).mono ?_
      rintro e w2 ⟨y, rfl, hy, hrd2, hap2, hsz2⟩
      obtain ⟨b, hb⟩ : ∃ b : UInt8, (b.toNat : Int) = 48 + (y : Int) := ⟨UInt8.ofNat (48 + y), by
        have : y = 0 ∨ y = 1 := by omega
        rcases this with rfl | rfl <;> rfl⟩
      have hw : IntKind.u8.wrap (48 + (y : Int)) = (b.toNat : Int) := by
        have : y = 0 ∨ y = 1 := by omega
        rw [hb]
        rcases this with rfl | rfl <;> rfl
      have HO2 := own_apart hown hap2 hR
      have hszw := HAP.out.below.size
      have HA3 := Lib.hid (HAP.out.trans hap2)
      have HR3 := Lib.hid hrd2
      have hszr := HAP.out.below.size
      have HSZ := Lib.hid hsz2
      clear hown hrd hrd2 hap2 hb hsz2
      go_wp2_with
        (at_builtin; refine wpList_append_own _ rfl _ _ 22 rfl w.heap.size 5 i0 (.int .u8 0) 1 1 Try.underlying22 hi hz0 hz1 hz2 rfl (by decide) _ _ _ rfl (HO2.alloc _) ⟨w2.heap.size, 0, none⟩ 1 1 [.int .u8 b.toNat] rfl rfl ?c1 ?c2 ?c3 ?c4 ?c5 ?_)
      case c1 =>
        intro j u hj
        match j, hj with
        | 0, hj => simp at hj; subst hj; simp [Addr.add]
      case c2 => intro u hu; simp at hu; subst hu; rfl
      case c3 => unfold maxLen; omega
      case c4 => omega
      case c5 => have := HSZ.out; simp; omega
      intro v' w4 hown4 hgrow _
      have HB4 := Lib.hid (bytes_grown HO2 (Below.refl w.heap.size w2) (by have := HSZ.out; omega) hown4 hgrow)
      clear hown4 hgrow HO2
      obtain ⟨g', cap', hf⟩ := own_some HB4.out.1 (by omega)
      subst hf
      go_wp2
      go_roundw
      case rel =>
        refine ⟨k - 1, l ++ [b], by go_num, by simp; omega, ?_, HA3.out.later (Nat.le_of_lt hR) HB4.out.2, by simpa using HB4.out.1, g', cap', by rw [List.length_append]; rfl⟩
        have := HR3.out.below HB4.out.2 hR
        rw [show p + 1 + (l ++ [b]).length = p + 1 + l.length + 1 from by simp; omega]
        exact this
      case measure => simp [intOf]; omega

theorem table_text {R : Nat} {w w4 : World} {cs : Array Value} {T : TypeId} {m B : Nat} (hap : Apart R (w.alloc (.cells cs T)) w4) (hR : R < w.heap.size) (hcs : ∀ i, i < m → ∃ t : ByteArray, cs[i]? = some (.string t) ∧ t.size ≤ B) (i : Nat) (hi : i < m) :
    ∃ t : ByteArray, w4.cell? ⟨w.heap.size, i, none⟩ = some (.string t) ∧ t.size ≤ B := by
  rw [table_cell hap hR]; exact hcs i hi
theorem text_size (s1 s2 : ByteArray) (h1 : s1.size < 6) (h2 : s2.size < 6) : (s1 ++ { data := #[40] } ++ s2 ++ { data := #[41] } : ByteArray).size ≤ 12 := by
  simp only [ByteArray.size_append]
  have e1 : ({ data := #[40] } : ByteArray).size = 1 := rfl
  have e2 : ({ data := #[41] } : ByteArray).size = 1 := rfl
  omega
theorem text_size1 (s1 s2 : ByteArray) : 1 ≤ (s1 ++ { data := #[40] } ++ s2 ++ { data := #[41] } : ByteArray).size := by
  simp only [ByteArray.size_append]
  have e1 : ({ data := #[40] } : ByteArray).size = 1 := rfl
  omega

set_option maxRecDepth 100000 in
set_option maxHeartbeats 4000000 in
theorem set_rd {R : Nat} {a : Option Addr} {n c p : Nat} {w : World} (h : Rd R a n c p w) (hp : p ≤ 40000) :
    Calls Try.prog 43 #[.pointer (some ⟨R, 0, none⟩)] w fun e w' =>
      ∃ (s : ByteArray) (p' : Nat), e = .returned (.string s) ∧ s.size ≤ 12 ∧ p' ≤ p + 20 ∧ Rd R a n c p' w' ∧ Apart R w w' := by
  have hR := h.lt
  go_enter Try.func43, Try.ntmps43
  go_wp2_with fail
  refine (signs_rd h 0 6 (by omega) (by omega) (by omega) (by omega)).mono ?_
  rintro e w1 ⟨s1, p1, rfl, hs1, hp1, hrd1, hap1⟩
  go_wp2_with fail
  refine (signs_rd hrd1 1 5 (by omega) (by omega) (by omega) (by omega)).mono ?_
  rintro e w2 ⟨s2, p2, rfl, hs2, hp2, hrd2, hap2⟩
  have hap12 := hap1.trans hap2
  go_wp2_with fail
  refine (pick_rd hrd2 24 (by omega) (by omega) (by omega)).mono ?_
  rintro e w3 ⟨v, rfl, hv, hrd3, hap3, hsz3⟩
  have hap13 := hap12.trans hap3
  have HS := Lib.hid (text_size s1 s2 (by omega) (by omega))
  have HS1 := Lib.hid (text_size1 s1 s2)
  have HA := Lib.hid hap13
  have hR3 := hrd3.lt
  clear hap1 hap2 hap3 hap12 hap13 hsz3
  by_cases h0 : v = 0
  · subst h0
    go_wp2_with fail
    refine (pick_rd (hrd3.below ((Below.refl _ _).alloc (Nat.le_refl _) _) hR3) 9 (by omega) (by omega) (by omega)).mono ?_
    rintro e w4 ⟨y, rfl, hy, hrd4, hap4, hsz4⟩
    obtain ⟨t, ht, hts⟩ := table_text (m := 9) (B := 12) hap4 hR3 (by
      intro i hi
      have : i = 0 ∨ i = 1 ∨ i = 2 ∨ i = 3 ∨ i = 4 ∨ i = 5 ∨ i = 6 ∨ i = 7 ∨ i = 8 := by omega
      rcases this with rfl | rfl | rfl | rfl | rfl | rfl | rfl | rfl | rfl <;> exact ⟨_, rfl, by decide⟩) y hy
    have HA4 := Lib.hid (HA.out.trans ((Apart.of_below (Nat.le_of_lt hR3) ((Below.refl _ _).alloc (Nat.le_refl _) _)).trans hap4))
    have HR4 := Lib.hid hrd4
    have hy9 : (y : Int) < 9 := by omega
    clear hap4 hrd4 hsz4
    go_wp2
    go_ret
    exact ⟨t, _, rfl, hts, by omega, HR4.out, HA4.out⟩
  · by_cases h1 : v = 1
    · subst h1
      go_wp2_with fail
      refine (signs_rd hrd3 0 6 (by omega) (by omega) (by omega) (by omega)).mono ?_
      rintro e w4 ⟨s4, p4, rfl, hs4, hp4, hrd4, hap4⟩
      have HA4 := Lib.hid (HA.out.trans hap4)
      have HR4 := Lib.hid hrd4
      clear hap4 hrd4
      go_wp2
      go_ret
      exact ⟨_, _, rfl, by simp only [ByteArray.size_append]; have e1 : ({ data := #[40, 48, 41] } : ByteArray).size = 3 := rfl; omega, by omega, HR4.out, HA4.out⟩
    · obtain ⟨T, hT⟩ : ∃ T, T = s1 ++ { data := #[40] } ++ s2 ++ { data := #[41] } := ⟨_, rfl⟩
      have b0 : ((v : Int) == 0) = false := by rw [beq_eq_false_iff_ne]; omega
      have b1 : ((v : Int) == 1) = false := by rw [beq_eq_false_iff_ne]; omega
      by_cases h2 : v = 2
      · subst h2
        have hlt : (1 : Int) ≤ ((s1 ++ { data := #[40] } ++ s2 ++ { data := #[41] } : ByteArray).size : Int) := by have := HS1.out; omega
        go_wp2
        go_ret
        refine ⟨_, _, rfl, ?_, by omega, hrd3, HA.out⟩
        have e1 : ({ data := #[40] } : ByteArray).size = 1 := rfl
        have e2 := HS.out
        rw [ByteArray.size_append, ByteArray.size_extract]
        omega
      · have b2 : ((v : Int) == 2) = false := by rw [beq_eq_false_iff_ne]; omega
        go_wp2
        go_ret
        exact ⟨_, _, rfl, HS.out, by omega, hrd3, HA.out⟩

end Go.Proofs.Ytojjfkabepkhdaa
