/-
  The walk of the law FnTermStar.
-/
import Derived.Test.YtiphooodijbhiabPTermBase
import Derived.Test.YtiphooodijbhiabDrawTermHas
import Derived.Test.YtiphooodijbhiabTermHas
set_option linter.unusedVariables false
set_option linter.unusedSimpArgs false
namespace Go.Proofs.Ytiphooodijbhiab
open Go.RowKit

theorem bytes_later {w w' : World} {a : Option Addr} {n : Nat} (h : Bytes w a n) (hb : Below w.heap.size w w') : Bytes w' a n := by
  rcases h with h | ⟨g, o, ha, hg, hc⟩
  · exact .inl h
  · refine .inr ⟨g, o, ha, by have := hb.size; omega, fun i hi => ?_⟩
    obtain ⟨z, h1, h2⟩ := hc i hi
    exact ⟨z, (hb.cell (p := ⟨g, o + i, none⟩) hg).trans h1, h2⟩
theorem star_of {s : ByteArray} {T : Tm} (h : termOf ((⟨#[42]⟩ : ByteArray) ++ s).data.toList = some T) : ∃ t, T = .star t ∧ s.data.toList = tmText t := by
  obtain ⟨h1, h2, _⟩ := termOf_some h
  have e : ((⟨#[42]⟩ : ByteArray) ++ s).data.toList = 42 :: s.data.toList := by simp [ByteArray.data_append]
  rw [e] at h1
  cases T with
  | sign c =>
    injection h1 with h1 _
    subst h1
    exact absurd h2 (by decide)
  | star t =>
    injection h1 with _ h1
    exact ⟨t, rfl, h1⟩
  | times d t =>
    injection h1 with h1 _
    subst h1
    unfold tmOk at h2
    rw [Bool.and_eq_true] at h2
    exact absurd h2.1 (by decide)
  | pair l u r =>
    injection h1 with h1 _
    exact absurd h1 (by decide)
theorem hasTV_true {s : ByteArray} {x : Int} (h : hasTV s x = true) : ∃ (T : Tm) (k : Nat), termOf s.data.toList = some T ∧ x = k ∧ k ≤ 200 ∧ tmF T k = true := by
  cases ht : termOf s.data.toList with
  | none => rw [hasTV_none ht] at h; cases h
  | some T =>
    rcases inR_cases x 0 200 with ⟨_, h1, h2⟩ | ⟨e, _⟩
    · obtain ⟨k, rfl⟩ := Int.eq_ofNat_of_zero_le h1
      rw [hasTV_in ht (by omega)] at h
      exact ⟨T, k, rfl, rfl, by omega, h⟩
    · rw [hasTV_out ht e] at h; cases h
/-- What is in the star adds up. -/
theorem star_sums (s : ByteArray) (x y : Int) : hasTV ((⟨#[42]⟩ : ByteArray) ++ s) x = true → hasTV ((⟨#[42]⟩ : ByteArray) ++ s) y = true → ¬ 200 < x + y → hasTV ((⟨#[42]⟩ : ByteArray) ++ s) (x + y) = true := fun h1 h2 h => by
  obtain ⟨T, k, e1, rfl, _, f1⟩ := hasTV_true h1
  obtain ⟨T2, j, e2, rfl, _, f2⟩ := hasTV_true h2
  rw [e1] at e2
  injection e2 with e2
  subst e2
  obtain ⟨t, rfl, _⟩ := star_of e1
  have e : (k : Int) + (j : Int) = ((k + j : Nat) : Int) := by omega
  rw [e, hasTV_in e1 (by omega)]
  exact starB_iff.2 (star_add (starB_iff.1 f1) (starB_iff.1 f2))
/-- A number of the term is in the star, unless its text is too long. -/
theorem star_has (s : ByteArray) (x : Int) : hasTV s x = true → hasTV ((⟨#[42]⟩ : ByteArray) ++ s) x = false → (60 : Int) < 1 + (s.size : Int) := fun h1 h2 => by
  have e0 : ((⟨#[42]⟩ : ByteArray) ++ s).size = 1 + s.size := by rw [ByteArray.size_append]; rfl
  obtain ⟨t, k, e1, rfl, hk, f1⟩ := hasTV_true h1
  rcases Nat.lt_or_ge 60 ((⟨#[42]⟩ : ByteArray) ++ s).size with h | h
  · omega
  · obtain ⟨g1, g2, _⟩ := termOf_some e1
    have e : ((⟨#[42]⟩ : ByteArray) ++ s).data.toList = tmText (.star t) := by
      show _ = 42 :: tmText t
      rw [← g1]; simp [ByteArray.data_append]
    have e2 : termOf ((⟨#[42]⟩ : ByteArray) ++ s).data.toList = some (.star t) := by
      rw [e]
      refine termOf_text g2 ?_
      rw [← e, size_eq]; exact h
    rw [hasTV_in e2 hk, show tmF (.star t) k = true from starB_iff.2 (star_one f1)] at h2
    cases h2

set_option maxRecDepth 100000 in
set_option maxHeartbeats 4000000 in
theorem pTermStar (a : Option Addr) (n c : Nat) (zs : List Int) (w : World) (hr : IsRow .u8 w a n c zs) (a2 : Option Addr) (n2 c2 : Nat) (zs2 : List Int) (hr2 : IsRow .u8 w a2 n2 c2 zs2) (m : Int) (hg : 0 < w.heap.size) (hm : w.cell? ⟨0, 0, none⟩ = some (.int .i64 m)) :
    Calls Try.prog 4 #[.slice a n c, .slice a2 n2 c2] w fun e w' => e = .returned (.bool true) ∧ Below w.heap.size w w' := by
  by_cases hn : n ≤ 1048576
  · by_cases hn2 : n2 ≤ 1048576
    · have hL : LibAt m w := ⟨hg, hm⟩
      clear hg hm
      have hB := Lib.hid hr.bytes
      have hC := Lib.hid hr.cap
      have hB2 := Lib.hid hr2.bytes
      have hC2 := Lib.hid hr2.cap
      clear hr hr2
      go_enter Try.func4, Try.ntmps4
      go_wp2_with fail
      refine (drawTermHas a n c _ hB.out hn hC.out).mono ?_
      rintro e w1 ⟨s, x, rfl, hs, hx, hb1⟩
      have HB1 := Lib.hid hb1
      have HL1 := Lib.hid (hL.below hb1)
      have HY := Lib.hid (bytes_later hB2.out hb1)
      clear hb1
      go_wp2_with fail
      refine (drawTermHas a2 n2 c2 _ HY.out hn2 hC2.out).mono ?_
      rintro e w2 ⟨s2, y, rfl, hs2, hy, hx2⟩
      have HB2 := Lib.hid (below_step HB1.out hx2)
      have HL2 := Lib.hid (HL1.out.below hx2)
      clear hx2
      have C1 := Lib.hid (fun W hL => implTermHas ((⟨#[42]⟩ : ByteArray) ++ s) x m W hL)
      have C2 := Lib.hid (fun W => specTermHas ((⟨#[42]⟩ : ByteArray) ++ s) x W)
      have C3 := Lib.hid (fun W hL => implTermHas ((⟨#[42]⟩ : ByteArray) ++ s) y m W hL)
      have C4 := Lib.hid (fun W hL => implTermHas ((⟨#[42]⟩ : ByteArray) ++ s) (x + y) m W hL)
      have C5 := Lib.hid (fun W hL => implTermHas s x m W hL)
      have hsum := star_sums s x y
      have hone := star_has s x
      obtain ⟨P, hP⟩ : ∃ P, P = hasTV ((⟨#[42]⟩ : ByteArray) ++ s) x := ⟨_, rfl⟩
      obtain ⟨Q, hQ⟩ : ∃ Q, Q = hasTV ((⟨#[42]⟩ : ByteArray) ++ s) y := ⟨_, rfl⟩
      obtain ⟨V, hV⟩ : ∃ V, V = hasTV s x := ⟨_, rfl⟩
      rw [← hP] at C1 C2 hsum hone
      rw [← hQ] at C3 hsum
      rw [← hV] at C5 hone
      have HSum := Lib.hid hsum
      clear hP hQ hV hsum
      go_wp2_with fail
      refine (C1.out _ HL2.out).mono ?_
      rintro e w3 ⟨rfl, hx3⟩
      have HB3 := Lib.hid (below_step HB2.out hx3)
      have HL3 := Lib.hid (HL2.out.below hx3)
      clear hx3
      go_wp2_with fail
      refine (C2.out _).mono ?_
      rintro e w4 ⟨rfl, hx4⟩
      have HB4 := Lib.hid (below_step HB3.out hx4)
      have HL4 := Lib.hid (HL3.out.below hx4)
      clear hx4
      go_wp2_with fail
      refine (C3.out _ HL4.out).mono ?_
      rintro e w5 ⟨rfl, hx5⟩
      have HB5 := Lib.hid (below_step HB4.out hx5)
      have HL5 := Lib.hid (HL4.out.below hx5)
      clear hx5
      cases P
      · cases Q
        · cases V
          · go_wp2_with fail
            refine (C5.out _ HL5.out).mono ?_
            rintro e w6 ⟨rfl, hx6⟩
            have HB6 := Lib.hid (below_step HB5.out hx6)
            have HL6 := Lib.hid (HL5.out.below hx6)
            clear hx6
            go_wp2
            go_ret
            exact ⟨ret_bool (by simp), HB6.out⟩
          · have hlen := hone rfl rfl
            go_wp2_with fail
            refine (C5.out _ HL5.out).mono ?_
            rintro e w6 ⟨rfl, hx6⟩
            have HB6 := Lib.hid (below_step HB5.out hx6)
            have HL6 := Lib.hid (HL5.out.below hx6)
            clear hx6
            go_wp2
            go_ret
            exact ⟨ret_bool (by first | (simp; done) | (simp; omega)), HB6.out⟩
        · cases V
          · go_wp2_with fail
            refine (C5.out _ HL5.out).mono ?_
            rintro e w6 ⟨rfl, hx6⟩
            have HB6 := Lib.hid (below_step HB5.out hx6)
            have HL6 := Lib.hid (HL5.out.below hx6)
            clear hx6
            go_wp2
            go_ret
            exact ⟨ret_bool (by simp), HB6.out⟩
          · have hlen := hone rfl rfl
            go_wp2_with fail
            refine (C5.out _ HL5.out).mono ?_
            rintro e w6 ⟨rfl, hx6⟩
            have HB6 := Lib.hid (below_step HB5.out hx6)
            have HL6 := Lib.hid (HL5.out.below hx6)
            clear hx6
            go_wp2
            go_ret
            exact ⟨ret_bool (by first | (simp; done) | (simp; omega)), HB6.out⟩
      · cases Q
        · cases V
          · go_wp2_with fail
            refine (C5.out _ HL5.out).mono ?_
            rintro e w6 ⟨rfl, hx6⟩
            have HB6 := Lib.hid (below_step HB5.out hx6)
            have HL6 := Lib.hid (HL5.out.below hx6)
            clear hx6
            go_wp2
            go_ret
            exact ⟨ret_bool (by simp), HB6.out⟩
          · go_wp2_with fail
            refine (C5.out _ HL5.out).mono ?_
            rintro e w6 ⟨rfl, hx6⟩
            have HB6 := Lib.hid (below_step HB5.out hx6)
            have HL6 := Lib.hid (HL5.out.below hx6)
            clear hx6
            go_wp2
            go_ret
            exact ⟨ret_bool (by simp), HB6.out⟩
        · by_cases hxy : 200 < x + y
          · cases V
            · go_wp2_with fail
              refine (C5.out _ HL5.out).mono ?_
              rintro e w6 ⟨rfl, hx6⟩
              have HB6 := Lib.hid (below_step HB5.out hx6)
              have HL6 := Lib.hid (HL5.out.below hx6)
              clear hx6
              go_wp2
              go_ret
              exact ⟨ret_bool (by simp), HB6.out⟩
            · go_wp2_with fail
              refine (C5.out _ HL5.out).mono ?_
              rintro e w6 ⟨rfl, hx6⟩
              have HB6 := Lib.hid (below_step HB5.out hx6)
              have HL6 := Lib.hid (HL5.out.below hx6)
              clear hx6
              go_wp2
              go_ret
              exact ⟨ret_bool (by simp), HB6.out⟩
          · rw [HSum.out rfl rfl (by omega)] at C4
            go_wp2_with fail
            refine (C4.out _ HL5.out).mono ?_
            rintro e w6 ⟨rfl, hx6⟩
            have HB6 := Lib.hid (below_step HB5.out hx6)
            have HL6 := Lib.hid (HL5.out.below hx6)
            clear hx6
            cases V
            · go_wp2_with fail
              refine (C5.out _ HL6.out).mono ?_
              rintro e w7 ⟨rfl, hx7⟩
              have HB7 := Lib.hid (below_step HB6.out hx7)
              have HL7 := Lib.hid (HL6.out.below hx7)
              clear hx7
              go_wp2
              go_ret
              exact ⟨ret_bool (by simp), HB7.out⟩
            · go_wp2_with fail
              refine (C5.out _ HL6.out).mono ?_
              rintro e w7 ⟨rfl, hx7⟩
              have HB7 := Lib.hid (below_step HB6.out hx7)
              have HL7 := Lib.hid (HL6.out.below hx7)
              clear hx7
              go_wp2
              go_ret
              exact ⟨ret_bool (by simp), HB7.out⟩
    · have hd1 : ¬ (1048576 : Int) < (n : Int) := by omega
      have hd : (1048576 : Int) < (n2 : Int) := by omega
      go_enter Try.func4, Try.ntmps4
      go_wp2
      go_ret
      exact ⟨rfl, Below.refl _ _⟩
  · have hd : (1048576 : Int) < (n : Int) := by omega
    go_enter Try.func4, Try.ntmps4
    go_wp2
    go_ret
    exact ⟨rfl, Below.refl _ _⟩

end Go.Proofs.Ytiphooodijbhiab
