/-
  The walk of spec.l1Signs: it reads a text of signs into new memory, or it fails. The walk of spec.l1Read: the reference model's reading of a set text. What spec.l1Read answers.
-/
import Derived.Test.YtojjfkabepkhdaaHasMath
import Derived.Test.YtojjfkabepkhdaaSetDef
namespace Go.Proofs.Ytojjfkabepkhdaa
open Go.RowKit

theorem signs_rel {s : ByteArray} {k : Nat} {w wr w1 : World} {u v' : Value} {b : Bool} {o : Obj} (hlt : k < s.size) (hb : (s[k] == 49) = b)
    (hown : wr.ownsRow w.heap.size 4 1 u k (bits (s.data.toList.take k))) (hnx : Below w.heap.size w wr)
    (hown' : w1.ownsRow w.heap.size 4 1 v' (k + 1) (bits (s.data.toList.take k) ++ [.bool b])) (hgrow : (wr.alloc o).grownBy w1 u.ownBlock) :
    w1.ownsRow w.heap.size 4 1 v' (k + 1) (bits (s.data.toList.take (k + 1))) ∧ Below w.heap.size w w1 := by
  refine ⟨by rw [take_snoc s k hlt, bits_snoc, hb]; exact hown', ?_⟩
  exact (hnx.alloc (by have := hnx.size; omega) o).grown hgrow (by have := hnx.size; simp; omega) (fun j hj => (hown.lt j hj).1)

set_option maxHeartbeats 400000 in
theorem signs_any (s : ByteArray) (w : World) (hs : s.size ≤ 1048576) :
    Calls Try.prog 88 #[.string s] w fun e w' =>
      ∃ v, e = .returned (.tuple #[v, .bool (allSigns s.data.toList)]) ∧ Below w.heap.size w w' ∧ (allSigns s.data.toList = true → w'.ownsRow w.heap.size 4 1 v s.size (bits s.data.toList)) := by
  obtain ⟨i0, hi, hz0, hz1, hz2⟩ := info_parts Try.infoBool
  go_enter Try.func88, Try.ntmps88
  go_wp2
  go_loopw [4, 5] (fun v i wr => ∃ k : Nat, k ≤ s.size ∧ i = .int .i64 k ∧ wr.ownsRow w.heap.size 4 1 v k (bits (s.data.toList.take k)) ∧ allSigns (s.data.toList.take k) = true ∧ Below w.heap.size w wr)
    (fun _ i _ => s.size - (intOf i).toNat)
  case atStart => exact ⟨0, Nat.zero_le _, rfl, World.ownsRow_made _ _ _ (Nat.le_refl _) (by decide) rfl, rfl, (Below.refl _ _).alloc (Nat.le_refl _) _⟩
  case round =>
    obtain ⟨k, hk, rfl, hown, hall, hnx⟩ := hrel
    have HA := Lib.hid hall
    clear hall
    by_cases hlt : k < s.size
    · by_cases h0 : (s[k].toNat : Int) = 48
      · go_wp2_with
          (at_builtin; refine wpList_append_own _ rfl _ _ 46 rfl w.heap.size 4 i0 (.bool false) 1 1 Try.underlying46 hi hz0 hz1 hz2 rfl (by decide) _ _ _ rfl (hown.alloc _) ⟨wr.heap.size, 0, none⟩ 1 1 [.bool false] rfl rfl ?c1 ?c2 ?c3 ?c4 ?c5 ?_)
        case c1 =>
          intro j u hj
          match j, hj with
          | 0, hj => simp at hj; subst hj; simp [Addr.add]
        case c2 => intro u hu; simp at hu; subst hu; rfl
        case c3 => unfold maxLen; omega
        case c4 => omega
        case c5 => have := hnx.size; simp; omega
        intro v' w1 hown' hgrow _
        have R := signs_rel hlt (sign0 h0) hown hnx hown' hgrow
        clear hown' hgrow hown hnx
        go_wp2
        go_roundw
        case rel => exact ⟨k + 1, by omega, by go_num, R.1, allSigns_step s k hlt HA.out (.inl h0), R.2⟩
        case measure => simp [intOf]; omega
      · by_cases h1 : (s[k].toNat : Int) = 49
        · go_wp2_with
            (at_builtin; refine wpList_append_own _ rfl _ _ 46 rfl w.heap.size 4 i0 (.bool false) 1 1 Try.underlying46 hi hz0 hz1 hz2 rfl (by decide) _ _ _ rfl (hown.alloc _) ⟨wr.heap.size, 0, none⟩ 1 1 [.bool true] rfl rfl ?c1 ?c2 ?c3 ?c4 ?c5 ?_)
          case c1 =>
            intro j u hj
            match j, hj with
            | 0, hj => simp at hj; subst hj; simp [Addr.add]
          case c2 => intro u hu; simp at hu; subst hu; rfl
          case c3 => unfold maxLen; omega
          case c4 => omega
          case c5 => have := hnx.size; simp; omega
          intro v' w1 hown' hgrow _
          have R := signs_rel hlt (sign1 h1) hown hnx hown' hgrow
          clear hown' hgrow hown hnx
          go_wp2
          go_roundw
          case rel => exact ⟨k + 1, by omega, by go_num, R.1, allSigns_step s k hlt HA.out (.inr h1), R.2⟩
          case measure => simp [intOf]; omega
        · have b0 : ((s[k].toNat : Int) != 48) = true := by simpa using h0
          have b1 : ((s[k].toNat : Int) != 49) = true := by simpa using h1
          have hbad := Lib.hid (allSigns_bad s k hlt (by omega))
          go_wp2
          go_ret2
          exact ⟨_, ret2_bool hbad.out.symm, hnx.alloc (by have := hnx.size; omega) _, fun h => absurd h (by rw [hbad.out]; decide)⟩
    · have hgood : Hid (allSigns s.data.toList = true) := by have := HA.out; rw [take_size s k hlt] at this; exact Lib.hid this
      obtain rfl : k = s.size := by omega
      go_wp2
      go_ret2
      exact ⟨_, ret2_bool hgood.out.symm, hnx, fun _ => by have h := hown; rw [take_size s _ hlt] at h; exact h⟩

theorem signs_yes (s : ByteArray) (l : List UInt8) (w : World) (hl : s.data.toList = l) (hle : l.length ≤ 1048576) (hg : allSigns l = true) :
    Calls Try.prog 88 #[.string s] w fun e w' =>
      ∃ a cap, e = .returned (.tuple #[.slice a l.length cap, .bool true]) ∧ Below w.heap.size w w' ∧ w'.ownsRow w.heap.size 4 1 (.slice a l.length cap) l.length (bits l) := by
  subst hl
  rw [size_eq] at hle
  refine (signs_any s w hle).mono ?_
  rintro e w' ⟨v, rfl, hb, ho⟩
  have ho' := ho hg
  obtain ⟨a, cap, rfl⟩ := own_form ho'
  rw [size_eq, hg]
  exact ⟨a, cap, rfl, hb, ho'⟩
theorem signs_no (s : ByteArray) (l : List UInt8) (w : World) (hl : s.data.toList = l) (hle : l.length ≤ 1048576) (hg : allSigns l = false) :
    Calls Try.prog 88 #[.string s] w fun e w' =>
      ∃ v, e = .returned (.tuple #[v, .bool false]) ∧ Below w.heap.size w w' := by
  subst hl
  rw [size_eq] at hle
  refine (signs_any s w hle).mono ?_
  rintro e w' ⟨v, rfl, hb, _⟩
  rw [hg]
  exact ⟨v, rfl, hb⟩

theorem text_tailAt {s : ByteArray} {t r : List UInt8} (h : IsText s.data.toList t r) (k : Nat) (hk : k < s.size) (hkt : k < t.length) : ¬ (s[k].toNat : Int) = 40 := by
  have e : s[k] = t[k] := by
    show s.data.toList[k]'(by simpa using hk) = t[k]
    have := h.eq
    simp only [this]
    rw [List.getElem_append_left hkt]
  rw [e]
  have := (part_free h.tail t[k] (List.getElem_mem hkt)).1
  intro e2; apply this; rw [← UInt8.toNat_inj]; have : (40 : UInt8).toNat = 40 := rfl; omega
theorem text_openAt {s : ByteArray} {t r : List UInt8} (h : IsText s.data.toList t r) (hk : t.length < s.size) : (s[t.length].toNat : Int) = 40 := by
  have e : s[t.length] = 40 := by
    show s.data.toList[t.length]'(by simpa using hk) = 40
    have := h.eq
    simp only [this]
    rw [List.getElem_append_right (Nat.le_refl _)]
    simp
  rw [e]; rfl
theorem text_closeAt {s : ByteArray} {t r : List UInt8} (h : IsText s.data.toList t r) (hk : s.size - 1 < s.size) : (s[s.size - 1].toNat : Int) = 41 := by
  have hl := text_length h
  rw [size_eq] at hl
  have e : s[s.size - 1] = 41 := by
    show s.data.toList[s.size - 1]'(by simpa using hk) = 41
    have h1 : s.data.toList = (t ++ 40 :: r) ++ [41] := by rw [h.eq]; simp
    have h2 : s.size - 1 = (t ++ 40 :: r).length := by simp; omega
    simp only [h1, h2]
    rw [List.getElem_append_right (Nat.le_refl _)]
    simp
  rw [e]; rfl

theorem text_extract1 {s : ByteArray} {t r : List UInt8} (h : IsText s.data.toList t r) : (s.extract 0 t.length).data.toList = t := by
  rw [Lib.extract_data, h.eq]; simp
theorem text_extract2 {s : ByteArray} {t r : List UInt8} (h : IsText s.data.toList t r) : (s.extract (t.length + 1) (s.size - 1)).data.toList = r := by
  have hl := text_length h
  rw [size_eq] at hl
  rw [Lib.extract_data, h.eq, show s.size - 1 - (t.length + 1) = r.length from by omega]
  have e : t ++ 40 :: (r ++ [41]) = (t ++ [40]) ++ (r ++ [41]) := by simp
  rw [e, show t.length + 1 = (t ++ [40]).length from by simp, List.drop_left]
  simp

/-- The world of l1Read behind its first two statements. -/
abbrev readW (w : World) : World := (((w.alloc (Obj.cells #[Value.slice none 0 0, Value.slice none 0 0] 48)).alloc (Obj.cells #[] 4)).alloc (Obj.cells #[Value.bool false] 4)).alloc
  (Obj.cells #[Value.slice (some { block := w.heap.size + 1, off := 0 }) 0 0, Value.slice (some { block := w.heap.size + 1 + 1, off := 0 }) 1 1] 48)
theorem readW_below (w : World) : Below w.heap.size w (readW w) :=
  ((((Below.refl _ _).alloc (Nat.le_refl _) _).alloc (by simp) _).alloc (by simp; omega) _).alloc (by simp; omega) _
theorem readW_size (w : World) : (readW w).heap.size = w.heap.size + 4 := by simp
theorem readW_cells (w : World) : (readW w).cell? ⟨w.heap.size, 0, none⟩ = some (.slice none 0 0) ∧ (readW w).cell? ⟨w.heap.size, 1, none⟩ = some (.slice none 0 0) ∧
    (readW w).frozen? ⟨w.heap.size, 0, none⟩ = false ∧ (readW w).frozen? ⟨w.heap.size, 1, none⟩ = false := by
  refine ⟨?_, ?_, ?_, ?_⟩ <;> go_simp
theorem read_cells {w w1 w2 : World} (hb1 : Below (readW w).heap.size (readW w) w1) (hb2 : Below w1.heap.size w1 w2) :
    w2.cell? ⟨w.heap.size, 0, none⟩ = some (.slice none 0 0) ∧ w2.cell? ⟨w.heap.size, 1, none⟩ = some (.slice none 0 0) ∧
    w2.frozen? ⟨w.heap.size, 0, none⟩ = false ∧ w2.frozen? ⟨w.heap.size, 1, none⟩ = false ∧ w.heap.size + 4 ≤ w2.heap.size := by
  obtain ⟨c0, c1, f0, f1⟩ := readW_cells w
  have hs := readW_size w
  have h1 := hb1.size
  have h2 := hb2.size
  have l0 : w.heap.size < (readW w).heap.size := by omega
  have l1 : w.heap.size < w1.heap.size := by omega
  exact ⟨((hb2.cell (p := ⟨w.heap.size, 0, none⟩) l1).trans (hb1.cell (p := ⟨w.heap.size, 0, none⟩) l0)).trans c0,
    ((hb2.cell (p := ⟨w.heap.size, 1, none⟩) l1).trans (hb1.cell (p := ⟨w.heap.size, 1, none⟩) l0)).trans c1,
    ((hb2.frozen (p := ⟨w.heap.size, 0, none⟩) l1).trans (hb1.frozen (p := ⟨w.heap.size, 0, none⟩) l0)).trans f0,
    ((hb2.frozen (p := ⟨w.heap.size, 1, none⟩) l1).trans (hb1.frozen (p := ⟨w.heap.size, 1, none⟩) l0)).trans f1, by omega⟩
theorem read_own {w w1 w2 : World} {v1 v2 : Value} {n1 n2 : Nat} {x1 x2 : List Value} (hb1 : Below (readW w).heap.size (readW w) w1) (hr1 : w1.ownsRow (readW w).heap.size 4 1 v1 n1 x1)
    (hb2 : Below w1.heap.size w1 w2) (hr2 : w2.ownsRow w1.heap.size 4 1 v2 n2 x2) :
    Below w.heap.size w ((w2.setCell ⟨w.heap.size, 0, none⟩ v1).setCell ⟨w.heap.size, 1, none⟩ v2) ∧
    ((w2.setCell ⟨w.heap.size, 0, none⟩ v1).setCell ⟨w.heap.size, 1, none⟩ v2).ownsRow w.heap.size 4 1 v1 n1 x1 ∧
    ((w2.setCell ⟨w.heap.size, 0, none⟩ v1).setCell ⟨w.heap.size, 1, none⟩ v2).ownsRow w.heap.size 4 1 v2 n2 x2 := by
  have hs := readW_size w
  have h1 := hb1.size
  have hB : Below w.heap.size w w2 := ((readW_below w).trans (hb1.mono (by omega))).trans (hb2.mono (by omega))
  exact ⟨below_two hB _ _, own_base (own_two (own_below hr1 hb2 (Nat.le_refl _)) (by omega) v1 v2) (by omega), own_base (own_two hr2 (by omega) v1 v2) (by omega)⟩

set_option maxHeartbeats 1000000 in
theorem read_yes (s : ByteArray) (w : World) (hs : s.size ≤ 1048576) (hok : setOk s.data.toList = true) :
    Calls Try.prog 80 #[.string s] w fun e w' =>
      ∃ a1 c1 a2 c2, e = .returned (.tuple #[.agg #[.slice a1 (setTail s.data.toList).length c1, .slice a2 (setRing s.data.toList).length c2], .bool true]) ∧ Below w.heap.size w w' ∧
        w'.ownsRow w.heap.size 4 1 (.slice a1 (setTail s.data.toList).length c1) (setTail s.data.toList).length (bits (setTail s.data.toList)) ∧
        w'.ownsRow w.heap.size 4 1 (.slice a2 (setRing s.data.toList).length c2) (setRing s.data.toList).length (bits (setRing s.data.toList)) := by
  have HT := Lib.hid (ok_text hok)
  clear hok
  obtain ⟨t, ht⟩ : ∃ t, t = setTail s.data.toList := ⟨_, rfl⟩
  obtain ⟨r, hr⟩ : ∃ r, r = setRing s.data.toList := ⟨_, rfl⟩
  rw [← ht, ← hr] at HT ⊢
  clear ht hr
  have hsz := text_length HT.out
  rw [size_eq] at hsz
  have hr0 : 0 < r.length := List.length_pos_iff.2 HT.out.some
  have b1 : t.length + 2 < s.size := by omega
  have b2 : s.size ≤ t.length + r.length + 2 := by omega
  have HZ := Lib.hid hsz
  clear hsz
  go_enter Try.func80, Try.ntmps80
  go_wp2
  go_loop [5] (fun i => ∃ k : Nat, k ≤ t.length ∧ i = .int .i64 k) (fun i => s.size - (intOf i).toNat)
  case atStart => exact ⟨0, Nat.zero_le _, rfl⟩
  case round =>
    obtain ⟨k, hk, rfl⟩ := hrel
    by_cases hlt : k < t.length
    · have hne : ((s[k]'(by omega)).toNat : Int) ≠ 40 := text_tailAt HT.out k (by omega) hlt
      have hks : k < s.size := by omega
      go_wp2
      go_round
      case rel => exact ⟨k + 1, by omega, by go_num⟩
      case measure => simp [intOf]; omega
    · obtain rfl : k = t.length := by omega
      have hks : t.length < s.size := by omega
      have heq : ((s[t.length]'(by omega)).toNat : Int) = 40 := text_openAt HT.out (by omega)
      have hcl : ((s[s.size - 1]'(by omega)).toNat : Int) = 41 := text_closeAt HT.out (by omega)
      have hclb : (((s[s.size - 1]'(by omega)).toNat : Int) != 41) = false := by simp [hcl]
      have l1 := part_len HT.out.tail
      have l2 := part_len HT.out.ring
      have E1 := Lib.hid (text_extract1 HT.out)
      have E2 := Lib.hid (text_extract2 HT.out)
      go_wp2_with fail
      refine (signs_yes _ t _ E1.out (by omega) (part_signs HT.out.tail)).mono ?_
      rintro e w1 ⟨a1, c1, rfl, hb1, hr1⟩
      go_wp2_with fail
      refine (signs_yes _ r _ E2.out (by omega) (part_signs HT.out.ring)).mono ?_
      rintro e w2 ⟨a2, c2, rfl, hb2, hr2⟩
      obtain ⟨q0, q1, f0, f1, hz⟩ := read_cells hb1 hb2
      have HR := Lib.hid (read_own hb1 hr1 hb2 hr2)
      clear hb1 hr1 hb2 hr2
      go_wp2
      refine bodyPost_ret (v := .tuple #[.agg #[.slice a1 t.length c1, .slice a2 r.length c2], .bool true]) (by simp [results, Try.results80, go_sem, q0, q1]) rfl ⟨_, _, _, _, rfl, HR.out⟩

/-- What l1Read hands back where it fails. -/
abbrev noneV (w : World) : Value := .agg #[Value.slice (some { block := w.heap.size + 1, off := 0 }) 0 0, Value.slice (some { block := w.heap.size + 1 + 1, off := 0 }) 1 1]
theorem read_none {w w1 w2 : World} (hb1 : Below (readW w).heap.size (readW w) w1) (hb2 : Below w1.heap.size w1 w2) :
    w2.cell? ⟨w.heap.size + 1 + 1 + 1, 0, none⟩ = some (Value.slice (some { block := w.heap.size + 1, off := 0 }) 0 0) ∧ w2.cell? ⟨w.heap.size + 1 + 1 + 1, 1, none⟩ = some (Value.slice (some { block := w.heap.size + 1 + 1, off := 0 }) 1 1) ∧
    ∀ u v, Below w.heap.size w ((w2.setCell ⟨w.heap.size, 0, none⟩ u).setCell ⟨w.heap.size, 1, none⟩ v) := by
  have hs := readW_size w
  have h1 := hb1.size
  have h2 := hb2.size
  have l0 : w.heap.size + 1 + 1 + 1 < (readW w).heap.size := by omega
  have l1 : w.heap.size + 1 + 1 + 1 < w1.heap.size := by omega
  have hB : Below w.heap.size w w2 := ((readW_below w).trans (hb1.mono (by omega))).trans (hb2.mono (by omega))
  refine ⟨((hb2.cell (p := ⟨w.heap.size + 1 + 1 + 1, 0, none⟩) l1).trans (hb1.cell (p := ⟨w.heap.size + 1 + 1 + 1, 0, none⟩) l0)).trans ?_,
    ((hb2.cell (p := ⟨w.heap.size + 1 + 1 + 1, 1, none⟩) l1).trans (hb1.cell (p := ⟨w.heap.size + 1 + 1 + 1, 1, none⟩) l0)).trans ?_, fun u v => below_two hB u v⟩
  · go_simp
  · go_simp

/-- No '(' among the first k bytes. -/
def NoOpen (s : ByteArray) (k : Nat) : Prop := ∀ x ∈ s.data.toList.take k, x ≠ 40
theorem noOpen_step {s : ByteArray} {k : Nat} (h : NoOpen s k) (hk : k < s.size) (hc : ¬ (s[k].toNat : Int) = 40) : NoOpen s (k + 1) := by
  intro x hx
  rw [take_snoc s k hk] at hx
  simp only [List.mem_append, List.mem_singleton] at hx
  rcases hx with hx | rfl
  · exact h x hx
  · intro e; apply hc; rw [e]; rfl
/-- The text is one where all tests are met. -/
theorem tests_text {s : ByteArray} {k : Nat} (h : k + 2 < s.size) (ho : (s[k].toNat : Int) = 40) (hc : ((s[s.size - 1]'(by omega)).toNat : Int) = 41)
    (h1 : allSigns (s.extract 0 k).data.toList = true) (h2 : allSigns (s.extract (k + 1) (s.size - 1)).data.toList = true)
    (l1 : (s.extract 0 k).data.toList.length ≤ 60) (l2 : (s.extract (k + 1) (s.size - 1)).data.toList.length ≤ 60) :
    IsText s.data.toList (s.extract 0 k).data.toList (s.extract (k + 1) (s.size - 1)).data.toList := by
  have e1 : (s.extract 0 k).data.toList = s.data.toList.take k := by rw [Lib.extract_data]; simp
  have e2 : (s.extract (k + 1) (s.size - 1)).data.toList = (s.data.toList.drop (k + 1)).take (s.size - 1 - (k + 1)) := Lib.extract_data _ _ _
  have c1 : s[k] = 40 := by rw [← UInt8.toNat_inj]; have : (40 : UInt8).toNat = 40 := rfl; omega
  have c2 : s[s.size - 1] = 41 := by rw [← UInt8.toNat_inj]; have : (41 : UInt8).toNat = 41 := rfl; omega
  refine ⟨?_, by unfold partB; rw [h1, decide_eq_true l1]; rfl, by unfold partB; rw [h2, decide_eq_true l2]; rfl, ?_⟩
  · rw [e1, e2]
    have hd : s.data.toList.drop k = s[k] :: s.data.toList.drop (k + 1) := by
      rw [List.drop_eq_getElem_cons (by simp; omega)]; rfl
    have hlast : (s.data.toList.drop (k + 1)).take (s.size - 1 - (k + 1)) ++ [41] = s.data.toList.drop (k + 1) := by
      rw [← c2]
      apply List.ext_getElem
      · simp; omega
      · intro i hi1 hi2
        simp only [List.length_append, List.length_take, List.length_drop, size_eq, List.length_singleton] at hi1
        by_cases hi : i < s.size - 1 - (k + 1)
        · rw [List.getElem_append_left (by simp; omega)]; simp
        · have hie : i = s.size - 1 - (k + 1) := by omega
          rw [List.getElem_append_right (by simp; omega)]
          simp only [List.getElem_singleton, List.getElem_drop]
          show s[s.size - 1] = s.data.toList[k + 1 + i]'_
          have : k + 1 + i = s.size - 1 := by omega
          simp only [this]; rfl
    rw [hlast, ← c1, ← hd, List.take_append_drop]
  · intro e
    have := congrArg List.length e
    rw [e2] at this
    simp at this
    omega
theorem tests_not {s : ByteArray} {k : Nat} (hno : setOk s.data.toList = false) (h : k + 2 < s.size) (ho : (s[k].toNat : Int) = 40) (hc : ((s[s.size - 1]'(by omega)).toNat : Int) = 41)
    (h1 : allSigns (s.extract 0 k).data.toList = true) (h2 : allSigns (s.extract (k + 1) (s.size - 1)).data.toList = true)
    (l1 : (s.extract 0 k).data.toList.length ≤ 60) (l2 : (s.extract (k + 1) (s.size - 1)).data.toList.length ≤ 60) : False := by
  rw [text_ok (tests_text h ho hc h1 h2 l1 l2)] at hno; cases hno

theorem below_four (w : World) (o1 o2 o3 o4 : Obj) : Below w.heap.size w ((((w.alloc o1).alloc o2).alloc o3).alloc o4) :=
  ((((Below.refl _ _).alloc (Nat.le_refl _) _).alloc (by simp) _).alloc (by simp; omega) _).alloc (by simp; omega) _
def ReadNo (w : World) (e : Ending) (w' : World) : Prop := ∃ a1 n1 c1 a2 n2 c2, e = .returned (.tuple #[.agg #[.slice a1 n1 c1, .slice a2 n2 c2], .bool false]) ∧ Below w.heap.size w w'

set_option maxHeartbeats 2000000 in
theorem read_no (s : ByteArray) (w : World) (hs : s.size ≤ 1048576) (hok : setOk s.data.toList = false) :
    Calls Try.prog 80 #[.string s] w (ReadNo w) := by
  have HN := Lib.hid hok
  clear hok
  go_enter Try.func80, Try.ntmps80
  go_wp2
  go_loop [5] (fun i => ∃ k : Nat, k ≤ s.size ∧ i = .int .i64 k) (fun i => s.size - (intOf i).toNat)
  case atStart => exact ⟨0, Nat.zero_le _, rfl⟩
  case round =>
    obtain ⟨k, hk, rfl⟩ := hrel
    by_cases hlt : k < s.size
    · by_cases heq : (s[k].toNat : Int) = 40
      · by_cases h2 : k + 2 < s.size
        · by_cases hcl : ((s[s.size - 1]'(by omega)).toNat : Int) = 41
          · have hclb : (((s[s.size - 1]'(by omega)).toNat : Int) != 41) = false := by simp [hcl]
            have HX := Lib.hid (tests_not HN.out h2 heq hcl)
            cases hs1 : allSigns (s.extract 0 k).data.toList
            · cases hs2 : allSigns (s.extract (k + 1) (s.size - 1)).data.toList
              · go_wp2_with fail
                refine (signs_no _ _ _ rfl (by simp; omega) hs1).mono ?_
                rintro e w1 ⟨v1, rfl, hb1⟩
                go_wp2_with fail
                refine (signs_no _ _ _ rfl (by simp; omega) hs2).mono ?_
                rintro e w2 ⟨v2, rfl, hb2⟩
                obtain ⟨q0, q1, f0, f1, hz⟩ := read_cells hb1 hb2
                obtain ⟨g0, g1, HB0⟩ := read_none hb1 hb2
                have HB := Lib.hid HB0
                clear hb1 hb2 HB0
                go_wp2
                refine bodyPost_ret (v := .tuple #[noneV w, .bool false]) (by simp [results, Try.results80, go_sem, noneV, q0, q1]) rfl ⟨_, _, _, _, _, _, rfl, HB.out _ _⟩
              · go_wp2_with fail
                refine (signs_no _ _ _ rfl (by simp; omega) hs1).mono ?_
                rintro e w1 ⟨v1, rfl, hb1⟩
                go_wp2_with fail
                refine (signs_yes _ _ _ rfl (by simp; omega) hs2).mono ?_
                rintro e w2 ⟨a2, c2, rfl, hb2, _⟩
                obtain ⟨q0, q1, f0, f1, hz⟩ := read_cells hb1 hb2
                obtain ⟨g0, g1, HB0⟩ := read_none hb1 hb2
                have HB := Lib.hid HB0
                clear hb1 hb2 HB0
                go_wp2
                refine bodyPost_ret (v := .tuple #[noneV w, .bool false]) (by simp [results, Try.results80, go_sem, noneV, q0, q1]) rfl ⟨_, _, _, _, _, _, rfl, HB.out _ _⟩
            · cases hs2 : allSigns (s.extract (k + 1) (s.size - 1)).data.toList
              · go_wp2_with fail
                refine (signs_yes _ _ _ rfl (by simp; omega) hs1).mono ?_
                rintro e w1 ⟨a1, c1, rfl, hb1, _⟩
                go_wp2_with fail
                refine (signs_no _ _ _ rfl (by simp; omega) hs2).mono ?_
                rintro e w2 ⟨v2, rfl, hb2⟩
                obtain ⟨q0, q1, f0, f1, hz⟩ := read_cells hb1 hb2
                obtain ⟨g0, g1, HB0⟩ := read_none hb1 hb2
                have HB := Lib.hid HB0
                clear hb1 hb2 HB0
                go_wp2
                refine bodyPost_ret (v := .tuple #[noneV w, .bool false]) (by simp [results, Try.results80, go_sem, noneV, q0, q1]) rfl ⟨_, _, _, _, _, _, rfl, HB.out _ _⟩
              · obtain ⟨t, ht⟩ : ∃ t, (s.extract 0 k).data.toList = t := ⟨_, rfl⟩
                obtain ⟨r, hr⟩ : ∃ r, (s.extract (k + 1) (s.size - 1)).data.toList = r := ⟨_, rfl⟩
                have ht1 : t.length ≤ 1048576 := by rw [← ht]; simp; omega
                have hr1 : r.length ≤ 1048576 := by rw [← hr]; simp; omega
                rw [ht] at hs1; rw [hr] at hs2
                have HX2 : Hid (60 < t.length ∨ 60 < r.length) := by
                  refine Lib.hid ?_
                  have hx := HX.out
                  rw [ht, hr] at hx
                  by_cases q1 : t.length ≤ 60
                  · by_cases q2 : r.length ≤ 60
                    · exact (hx hs1 hs2 q1 q2).elim
                    · exact .inr (by omega)
                  · exact .inl (by omega)
                clear HX
                have HT := Lib.hid ht; have HR := Lib.hid hr
                clear ht hr
                by_cases ht60 : t.length ≤ 60
                · have hr60 : ¬ r.length ≤ 60 := by have := HX2.out; omega
                  have hrd : (60 : Int) < (r.length : Int) := by omega
                  go_wp2_with fail
                  refine (signs_yes _ t _ HT.out ht1 hs1).mono ?_
                  rintro e w1 ⟨a1, c1, rfl, hb1, _⟩
                  go_wp2_with fail
                  refine (signs_yes _ r _ HR.out hr1 hs2).mono ?_
                  rintro e w2 ⟨a2, c2, rfl, hb2, _⟩
                  obtain ⟨q0, q1, f0, f1, hz⟩ := read_cells hb1 hb2
                  obtain ⟨g0, g1, HB0⟩ := read_none hb1 hb2
                  have HB := Lib.hid HB0
                  clear hb1 hb2 HB0
                  go_wp2
                  refine bodyPost_ret (v := .tuple #[noneV w, .bool false]) (by simp [results, Try.results80, go_sem, noneV, q0, q1]) rfl ⟨_, _, _, _, _, _, rfl, HB.out _ _⟩
                · have htd : (60 : Int) < (t.length : Int) := by omega
                  go_wp2_with fail
                  refine (signs_yes _ t _ HT.out ht1 hs1).mono ?_
                  rintro e w1 ⟨a1, c1, rfl, hb1, _⟩
                  go_wp2_with fail
                  refine (signs_yes _ r _ HR.out hr1 hs2).mono ?_
                  rintro e w2 ⟨a2, c2, rfl, hb2, _⟩
                  obtain ⟨q0, q1, f0, f1, hz⟩ := read_cells hb1 hb2
                  obtain ⟨g0, g1, HB0⟩ := read_none hb1 hb2
                  have HB := Lib.hid HB0
                  clear hb1 hb2 HB0
                  go_wp2
                  refine bodyPost_ret (v := .tuple #[noneV w, .bool false]) (by simp [results, Try.results80, go_sem, noneV, q0, q1]) rfl ⟨_, _, _, _, _, _, rfl, HB.out _ _⟩
          · have hclb : (((s[s.size - 1]'(by omega)).toNat : Int) != 41) = true := by simpa using hcl
            go_wp2
            refine bodyPost_ret (v := .tuple #[noneV w, .bool false]) (by simp [results, Try.results80, go_sem, noneV]) rfl ⟨_, _, _, _, _, _, rfl, below_four _ _ _ _ _⟩
        · have h2' : (s.size : Int) ≤ (k : Int) + 2 := by omega
          go_wp2
          refine bodyPost_ret (v := .tuple #[noneV w, .bool false]) (by simp [results, Try.results80, go_sem, noneV]) rfl ⟨_, _, _, _, _, _, rfl, below_four _ _ _ _ _⟩
      · have hne : ((s[k].toNat : Int) != 40) = true := by simpa using heq
        go_wp2
        go_round
        case rel => exact ⟨k + 1, by omega, by go_num⟩
        case measure => simp [intOf]; omega
    · have h2' : (s.size : Int) ≤ (k : Int) + 2 := by omega
      go_wp2
      refine bodyPost_ret (v := .tuple #[noneV w, .bool false]) (by simp [results, Try.results80, go_sem, noneV]) rfl ⟨_, _, _, _, _, _, rfl, below_four _ _ _ _ _⟩

theorem read_on (s : ByteArray) (w : World) (hs : s.size ≤ 1048576) (hok : okS s = true) :
    Calls Try.prog 80 #[.string s] w fun e w' =>
      ∃ a1 n1 c1 a2 n2 c2, e = .returned (.tuple #[.agg #[.slice a1 n1 c1, .slice a2 n2 c2], .bool true]) ∧ Below w.heap.size w w' ∧ IsRead w' s a1 n1 a2 n2 := by
  have hok' : setOk s.data.toList = true := hok
  refine (read_yes s w hs hok').mono ?_
  rintro e w' ⟨a1, c1, a2, c2, rfl, hb, h1, h2⟩
  exact ⟨_, _, _, _, _, _, rfl, hb, reads_own h1 rfl, reads_own h2 rfl, tail_le hok', ring_le hok', ring_pos hok'⟩

theorem read_off (s : ByteArray) (w : World) (hs : s.size ≤ 1048576) (hok : okS s = false) :
    Calls Try.prog 80 #[.string s] w fun e w' =>
      ∃ a1 n1 c1 a2 n2 c2, e = .returned (.tuple #[.agg #[.slice a1 n1 c1, .slice a2 n2 c2], .bool false]) ∧ Below w.heap.size w w' := read_no s w hs hok

/-- The same, and what no memory has no room. -/
theorem read_room (s : ByteArray) (w : World) (hs : s.size ≤ 1048576) (hok : okS s = true) :
    Calls Try.prog 80 #[.string s] w fun e w' =>
      ∃ a1 n1 c1 a2 n2 c2, e = .returned (.tuple #[.agg #[.slice a1 n1 c1, .slice a2 n2 c2], .bool true]) ∧ Below w.heap.size w w' ∧ IsRead w' s a1 n1 a2 n2 ∧ (a1 = none → c1 = 0) ∧ n1 ≤ c1 ∧ c1 ≤ maxLen ∧ n2 ≤ c2 ∧ c2 ≤ maxLen := by
  have hok' : setOk s.data.toList = true := hok
  refine (read_yes s w hs hok').mono ?_
  rintro e w' ⟨a1, c1, a2, c2, rfl, hb, h1, h2⟩
  refine ⟨_, _, _, _, _, _, rfl, hb, ⟨reads_own h1 rfl, reads_own h2 rfl, tail_le hok', ring_le hok', ring_pos hok'⟩, fun hn => ?_, (own_cap h1).1, (own_cap h1).2, (own_cap h2).1, (own_cap h2).2⟩
  rcases h1.2 with ⟨hv, _⟩ | ⟨g, cap, cur, hv, _⟩
  · injection hv
  · subst hn; injection hv with ha _ _; cases ha

/-- The same, and where it lies. -/
theorem read_from (s : ByteArray) (w : World) (hs : s.size ≤ 1048576) (hok : okS s = true) :
    Calls Try.prog 80 #[.string s] w fun e w' =>
      ∃ a1 n1 c1 a2 n2 c2, e = .returned (.tuple #[.agg #[.slice a1 n1 c1, .slice a2 n2 c2], .bool true]) ∧ Below w.heap.size w w' ∧ IsRead w' s a1 n1 a2 n2 ∧ (∀ b, a1 = some b → w.heap.size ≤ b.block) ∧ (∀ b, a2 = some b → w.heap.size ≤ b.block) := by
  have hok' : setOk s.data.toList = true := hok
  refine (read_yes s w hs hok').mono ?_
  rintro e w' ⟨a1, c1, a2, c2, rfl, hb, h1, h2⟩
  exact ⟨_, _, _, _, _, _, rfl, hb, ⟨reads_own h1 rfl, reads_own h2 rfl, tail_le hok', ring_le hok', ring_pos hok'⟩, fun b hb => (h1.lt b.block (by rw [hb]; rfl)).1, fun b hb => (h2.lt b.block (by rw [hb]; rfl)).1⟩

end Go.Proofs.Ytojjfkabepkhdaa
