/-
  The walks of spec.l1Bit, spec.l1Write and spec.l1Done: the tidy text of a set of the model's.
-/
import Derived.Test.YtiphooodijbhiabLess
import Derived.Test.YtiphooodijbhiabTidyText
import Derived.Laws.IdiomStrings
namespace Go.Proofs.Ytiphooodijbhiab
open Go.RowKit

theorem bit_true (w : World) : Calls Try.prog 95 #[.bool true] w fun e w' => e = .returned (.int .i64 1) ∧ w = w' := by
  go_enter Try.func95, Try.ntmps95
  go_wp2
  go_ret
  exact ⟨rfl, rfl⟩

theorem bit_false (w : World) : Calls Try.prog 95 #[.bool false] w fun e w' => e = .returned (.int .i64 0) ∧ w = w' := by
  go_enter Try.func95, Try.ntmps95
  go_wp2
  go_ret
  exact ⟨rfl, rfl⟩

/-- Behind an append of one byte. -/
theorem bytes_rel {B S0 : Nat} {W wr w1 : World} {u v' : Value} {l : List UInt8} {c : UInt8} {n : Nat} {o : Obj}
    (hown : wr.ownsRow B 5 1 u n (Lib.byteCells l)) (hnx : Below S0 W wr) (hBT : S0 ≤ B) (hBs : S0 ≤ wr.heap.size)
    (hown' : w1.ownsRow B 5 1 v' (n + 1) (Lib.byteCells l ++ [.int .u8 c.toNat])) (hgrow : (wr.alloc o).grownBy w1 u.ownBlock) :
    w1.ownsRow B 5 1 v' (n + 1) (Lib.byteCells (l ++ [c])) ∧ Below S0 W w1 := by
  refine ⟨by rw [byteCells_snoc]; exact hown', ?_⟩
  exact (hnx.alloc hBs o).grown hgrow (by simp; omega) (fun j hj => Nat.le_trans hBT (hown.lt j hj).1)

theorem bytes_start (w : World) (o : Obj) : ((w.alloc o).alloc (.cells #[] 5)).ownsRow (w.heap.size + 1) 5 1 (.slice (some ⟨w.heap.size + 1, 0, none⟩) 0 0) 0 (Lib.byteCells []) := by
  have h := World.ownsRow_made (base := w.heap.size + 1) (e := 5) (size := 1) (w.alloc o) #[] 0 (by simp) (by decide) rfl
  simp at h
  exact h

theorem signs_assoc (a b : List UInt8) (c : UInt8) : a ++ ([40] ++ (b ++ [c])) = a ++ ([40] ++ b) ++ [c] := by simp

theorem signsOf_take_length (t : List Bool) (k : Nat) (h : k ≤ t.length) : (signsOf (t.take k)).length = k := by rw [signsOf_length, List.length_take]; omega

theorem bytes_back {w : World} {B g n cap : Nat} {l : List UInt8} (h : w.ownsRow B 5 1 (.slice (some ⟨g, 0, none⟩) n cap) n (Lib.byteCells l)) (hn : l.length = n) :
    (convert 22 9 (.slice (some ⟨g, 0, none⟩) n cap)).run Try.prog w = .ok (.string ⟨l.toArray⟩) w := by
  subst hn
  refine run_convert_bytes_back w _ _ 5 ⟨g, 0, none⟩ cap l Try.underlying22 Try.underlying5 Try.underlying9 ?_
  intro j hj
  have h1 := h.cellAt j (by omega)
  have e : (⟨g, 0, none⟩ : Addr).add j = ⟨g, j, none⟩ := by unfold Addr.add; split <;> simp_all
  rw [e, h1]
  unfold Lib.byteCells
  rw [List.getElem?_map, List.getElem?_eq_getElem hj]; rfl

set_option maxRecDepth 100000 in
set_option maxHeartbeats 4000000 in
theorem write_any (t r : List Bool) (a1 : Option Addr) (n1 c1 : Nat) (a2 : Option Addr) (n2 c2 : Nat) (w : World) (h : LessIn w t r a1 n1 c1 a2 n2 c2) :
    Calls Try.prog 140 #[.agg #[.slice a1 n1 c1, .slice a2 n2 c2]] w fun e w' => e = .returned (.string ⟨(textOf t r).toArray⟩) ∧ Below w.heap.size w w' := by
  obtain ⟨i0, hi, hz0, hz1, hz2⟩ := info_parts infoByte
  have hle1 := h.le1
  have hle2 := h.le2
  have H := Lib.hid (h.below (B := w.heap.size) ((Below.refl _ _).alloc (Nat.le_refl _) (.cells #[.slice a1 n1 c1, .slice a2 n2 c2] 77)) (Nat.le_refl _))
  clear h
  go_enter Try.func140, Try.ntmps140
  go_wp2
  go_loopw [3, 4] (fun v i wr => ∃ k : Nat, k ≤ n1 ∧ i = .int .i64 k ∧ Below (w.alloc (.cells #[.slice a1 n1 c1, .slice a2 n2 c2] 77)).heap.size (w.alloc (.cells #[.slice a1 n1 c1, .slice a2 n2 c2] 77)) wr ∧
      wr.ownsRow (w.heap.size + 1) 5 1 v k (Lib.byteCells (signsOf (t.take k))))
    (fun _ i _ => n1 - (intOf i).toNat)
  case atStart => exact ⟨0, Nat.zero_le _, rfl, (Below.refl _ _).alloc (Nat.le_refl _) _, bytes_start _ _⟩
  case round =>
    obtain ⟨k, hk, rfl, hB, hown⟩ := hrel
    obtain ⟨q0, q1⟩ := box_later hB
    have hsz := hB.size
    simp at hsz
    by_cases hlt : k < n1
    · have HL := Lib.hid (signsOf_take_length t k (by rw [H.out.tail.len]; omega))
      have HSn := Lib.hid (signsOf_snoc t k (by rw [H.out.tail.len]; exact hlt))
      rcases (H.out.tail.below hB (Nat.le_refl _)).cells with h0 | ⟨g, o, rfl, hg, hc⟩
      · omega
      have qc := hc k hlt
      clear hc
      cases hv : t.getD k false
      · rw [hv] at qc
        have HV := Lib.hid hv
        have HB := Lib.hid hB
        clear hv hB
        go_wp2_with fail
        refine (bit_false _).mono ?_
        rintro e w3 ⟨rfl, rfl⟩
        go_wp2_with
          (at_builtin; refine wpList_append_own _ rfl _ _ 22 rfl (w.heap.size + 1) 5 i0 (.int .u8 0) 1 1 Try.underlying22 hi hz0 hz1 hz2 rfl (by decide) _ _ _ rfl (hown.alloc _) ⟨wr.heap.size, 0, none⟩ 1 1 [.int .u8 48] rfl rfl ?c1 ?c2 ?c3 ?c4 ?c5 ?_)
        case c1 =>
          intro j u hj
          match j, hj with
          | 0, hj => simp at hj; subst hj; simp [Addr.add]; rfl
        case c2 => intro u hu; simp at hu; subst hu; rfl
        case c3 => unfold maxLen; omega
        case c4 => omega
        case c5 => simp; omega
        intro v' w4 hown4 hgrow _
        have R := Lib.hid (bytes_rel (c := 48) hown HB.out (by simp) (by simp; omega) hown4 hgrow)
        clear hown4 hgrow hown
        go_wp2
        go_roundw
        case rel => exact ⟨k + 1, by omega, by go_num, R.out.2, by rw [HSn.out, HV.out]; exact R.out.1⟩
        case measure => simp [intOf]; omega
      · rw [hv] at qc
        have HV := Lib.hid hv
        have HB := Lib.hid hB
        clear hv hB
        go_wp2_with fail
        refine (bit_true _).mono ?_
        rintro e w3 ⟨rfl, rfl⟩
        go_wp2_with
          (at_builtin; refine wpList_append_own _ rfl _ _ 22 rfl (w.heap.size + 1) 5 i0 (.int .u8 0) 1 1 Try.underlying22 hi hz0 hz1 hz2 rfl (by decide) _ _ _ rfl (hown.alloc _) ⟨wr.heap.size, 0, none⟩ 1 1 [.int .u8 49] rfl rfl ?c1 ?c2 ?c3 ?c4 ?c5 ?_)
        case c1 =>
          intro j u hj
          match j, hj with
          | 0, hj => simp at hj; subst hj; simp [Addr.add]; rfl
        case c2 => intro u hu; simp at hu; subst hu; rfl
        case c3 => unfold maxLen; omega
        case c4 => omega
        case c5 => simp; omega
        intro v' w4 hown4 hgrow _
        have R := Lib.hid (bytes_rel (c := 49) hown HB.out (by simp) (by simp; omega) hown4 hgrow)
        clear hown4 hgrow hown
        go_wp2
        go_roundw
        case rel => exact ⟨k + 1, by omega, by go_num, R.out.2, by rw [HSn.out, HV.out]; exact R.out.1⟩
        case measure => simp [intOf]; omega
    · have hkn : k = n1 := by omega
      subst hkn
      have HT : Hid (t.take k = t) := Lib.hid (List.take_of_length_le (by rw [H.out.tail.len]; exact Nat.le_refl _))
      rw [HT.out] at hown
      have HB := Lib.hid hB
      clear hB
      go_wp2_with
        (at_builtin; refine wpList_append_own _ rfl _ _ 22 rfl (w.heap.size + 1) 5 i0 (.int .u8 0) 1 1 Try.underlying22 hi hz0 hz1 hz2 rfl (by decide) _ _ _ rfl (hown.alloc _) ⟨wr.heap.size, 0, none⟩ 1 1 [.int .u8 40] rfl rfl ?e1 ?e2 ?e3 ?e4 ?e5 ?_)
      case e1 =>
        intro j u hj
        match j, hj with
        | 0, hj => simp at hj; subst hj; simp [Addr.add]
      case e2 => intro u hu; simp at hu; subst hu; rfl
      case e3 => unfold maxLen; omega
      case e4 => omega
      case e5 => simp; omega
      intro v1 w1 hown1 hgrow _
      have R1 := Lib.hid (bytes_rel (c := 40) hown HB.out (by simp) (by simp; omega) hown1 hgrow)
      clear hown1 hgrow hown q0 q1
      obtain ⟨q0, q1⟩ := box_later R1.out.2
      go_wp2
      go_loopw [3, 5] (fun v i wr => ∃ z : Nat, z ≤ n2 ∧ i = .int .i64 z ∧ Below (w.alloc (.cells #[.slice a1 k c1, .slice a2 n2 c2] 77)).heap.size (w.alloc (.cells #[.slice a1 k c1, .slice a2 n2 c2] 77)) wr ∧
          wr.ownsRow (w.heap.size + 1) 5 1 v (k + 1 + z) (Lib.byteCells (signsOf t ++ ([40] ++ signsOf (r.take z)))))
        (fun _ i _ => n2 - (intOf i).toNat)
      case atStart => exact ⟨0, Nat.zero_le _, rfl, R1.out.2, R1.out.1⟩
      case round =>
        obtain ⟨z, hz, rfl, hB2, hown2⟩ := hrel
        clear q0 q1
        obtain ⟨q0, q1⟩ := box_later hB2
        have hsz2 := hB2.size
        simp at hsz2
        by_cases hlt2 : z < n2
        · have HSn := Lib.hid (signsOf_snoc r z (by rw [H.out.ring.len]; exact hlt2))
          rcases (H.out.ring.below hB2 (Nat.le_refl _)).cells with h0 | ⟨g, o, rfl, hg, hc⟩
          · omega
          have qc := hc z hlt2
          clear hc
          cases hv : r.getD z false
          · rw [hv] at qc
            have HV := Lib.hid hv
            have HB := Lib.hid hB2
            clear hv hB2
            go_wp2_with fail
            refine (bit_false _).mono ?_
            rintro e w3 ⟨rfl, rfl⟩
            go_wp2_with
              (at_builtin; refine wpList_append_own _ rfl _ _ 22 rfl (w.heap.size + 1) 5 i0 (.int .u8 0) 1 1 Try.underlying22 hi hz0 hz1 hz2 rfl (by decide) _ _ _ rfl (hown2.alloc _) ⟨wr.heap.size, 0, none⟩ 1 1 [.int .u8 48] rfl rfl ?d1 ?d2 ?d3 ?d4 ?d5 ?_)
            case d1 =>
              intro j u hj
              match j, hj with
              | 0, hj => simp at hj; subst hj; simp [Addr.add]; rfl
            case d2 => intro u hu; simp at hu; subst hu; rfl
            case d3 => unfold maxLen; omega
            case d4 => omega
            case d5 => simp; omega
            intro v' w4 hown4 hgrow _
            have R := Lib.hid (bytes_rel (c := 48) hown2 HB.out (by simp) (by simp; omega) hown4 hgrow)
            clear hown4 hgrow hown2
            go_wp2
            go_roundw
            case rel => exact ⟨z + 1, by omega, by go_num, R.out.2, by rw [show k + 1 + (z + 1) = k + 1 + z + 1 from rfl, HSn.out, HV.out, signs_assoc]; exact R.out.1⟩
            case measure => simp [intOf]; omega
          · rw [hv] at qc
            have HV := Lib.hid hv
            have HB := Lib.hid hB2
            clear hv hB2
            go_wp2_with fail
            refine (bit_true _).mono ?_
            rintro e w3 ⟨rfl, rfl⟩
            go_wp2_with
              (at_builtin; refine wpList_append_own _ rfl _ _ 22 rfl (w.heap.size + 1) 5 i0 (.int .u8 0) 1 1 Try.underlying22 hi hz0 hz1 hz2 rfl (by decide) _ _ _ rfl (hown2.alloc _) ⟨wr.heap.size, 0, none⟩ 1 1 [.int .u8 49] rfl rfl ?d1 ?d2 ?d3 ?d4 ?d5 ?_)
            case d1 =>
              intro j u hj
              match j, hj with
              | 0, hj => simp at hj; subst hj; simp [Addr.add]; rfl
            case d2 => intro u hu; simp at hu; subst hu; rfl
            case d3 => unfold maxLen; omega
            case d4 => omega
            case d5 => simp; omega
            intro v' w4 hown4 hgrow _
            have R := Lib.hid (bytes_rel (c := 49) hown2 HB.out (by simp) (by simp; omega) hown4 hgrow)
            clear hown4 hgrow hown2
            go_wp2
            go_roundw
            case rel => exact ⟨z + 1, by omega, by go_num, R.out.2, by rw [show k + 1 + (z + 1) = k + 1 + z + 1 from rfl, HSn.out, HV.out, signs_assoc]; exact R.out.1⟩
            case measure => simp [intOf]; omega
        · have hzn : z = n2 := by omega
          subst hzn
          have HR : Hid (r.take z = r) := Lib.hid (List.take_of_length_le (by rw [H.out.ring.len]; exact Nat.le_refl _))
          rw [HR.out] at hown2
          have HB3 := Lib.hid hB2
          clear hB2
          go_wp2_with
            (at_builtin; refine wpList_append_own _ rfl _ _ 22 rfl (w.heap.size + 1) 5 i0 (.int .u8 0) 1 1 Try.underlying22 hi hz0 hz1 hz2 rfl (by decide) _ _ _ rfl (hown2.alloc _) ⟨wr.heap.size, 0, none⟩ 1 1 [.int .u8 41] rfl rfl ?f1 ?f2 ?f3 ?f4 ?f5 ?_)
          case f1 =>
            intro j u hj
            match j, hj with
            | 0, hj => simp at hj; subst hj; simp [Addr.add]
          case f2 => intro u hu; simp at hu; subst hu; rfl
          case f3 => unfold maxLen; omega
          case f4 => omega
          case f5 => simp; omega
          intro v5 w5 hown5 hgrow5 _
          have R5 := bytes_rel (c := 41) hown2 HB3.out (by simp) (by simp; omega) hown5 hgrow5
          clear hown5 hgrow5 hown2
          obtain ⟨g, cap, rfl⟩ : ∃ g cap, v5 = .slice (some ⟨g, 0, none⟩) (k + 1 + z + 1) cap := by
            rcases R5.1.2 with ⟨_, h0⟩ | ⟨g, cap, cur, hv, _⟩
            · omega
            · exact ⟨g, cap, hv⟩
          have hlen : (signsOf t ++ ([40] ++ signsOf r) ++ [41]).length = k + 1 + z + 1 := by
            simp only [List.length_append, signsOf_length, H.out.tail.len, H.out.ring.len, List.length_cons, List.length_nil]; omega
          have hconv := bytes_back R5.1 hlen
          have HE : Hid ((signsOf t ++ ([40] ++ signsOf r) ++ [41]) = textOf t r) := Lib.hid (by unfold textOf; simp)
          rw [HE.out] at hconv
          have HB5 := Lib.hid R5.2
          clear R5 hlen
          go_wp2
          go_ret
          exact ⟨rfl, ((Below.refl _ _).alloc (Nat.le_refl _) _).trans (HB5.out.mono (by simp))⟩

end Go.Proofs.Ytiphooodijbhiab
