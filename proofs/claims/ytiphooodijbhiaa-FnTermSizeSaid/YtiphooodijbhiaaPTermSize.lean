/-
  The walk of the law FnTermSize.
-/
import Derived.Test.YtiphooodijbhiaaPTermBase
import Derived.Test.YtiphooodijbhiaaHasI
import Derived.Test.YtiphooodijbhiaaTermSize
set_option linter.unusedVariables false
set_option linter.unusedSimpArgs false
namespace Go.Proofs.Ytiphooodijbhiaa
open Go.RowKit

theorem sizeI (s : ByteArray) (w : World)  (hs : s.size ≤ 1048576) : Calls Try.prog 37 #[.string s] w fun e w' => e = .returned (.tuple #[.int .i64 (sizeV s), .bool (termOf s.data.toList).isSome]) ∧ Below w.heap.size w w' := by
  refine (implTermSize s w hs).mono ?_
  rintro e w' ⟨rfl, m, rfl⟩
  exact ⟨rfl, below_drewN (Below.refl _ _) m⟩
theorem size_is (s : ByteArray) : (termOf s.data.toList).isSome = true → sizeV s = tmSigns s.data.toList ∧ 1 ≤ sizeV s := fun h => by
  have e : sizeV s = tmSigns s.data.toList := by unfold sizeV; rw [if_pos h]
  refine ⟨e, ?_⟩
  cases ht : termOf s.data.toList with
  | none => rw [ht] at h; cases h
  | some t =>
    obtain ⟨h1, h2, _⟩ := termOf_some ht
    rw [e, h1, tmSigns_text h2]
    exact tmSize_pos t
theorem signsLe (l : List UInt8) : tmSigns l ≤ l.length := by unfold tmSigns; exact List.length_filter_le _ _
theorem signs_snoc (s : ByteArray) (i : Nat) (h : i < s.size) : tmSigns (s.data.toList.take (i + 1)) = if (s[i].toNat : Int) = 40 ∨ (s[i].toNat : Int) = 41 then tmSigns (s.data.toList.take i) else tmSigns (s.data.toList.take i) + 1 := by
  rw [take_snoc s i h, tmSigns_append]
  by_cases hc : (s[i].toNat : Int) = 40 ∨ (s[i].toNat : Int) = 41
  · rw [if_pos hc]
    have : (s[i] == 40 || s[i] == 41) = true := by
      rcases hc with hc | hc
      · rw [(byte_is (k := 40) (by decide)).1 hc]; rfl
      · rw [(byte_is (k := 41) (by decide)).1 hc]; rfl
    rw [tmSigns_skip [] this]; rfl
  · rw [if_neg hc]
    have : (s[i] == 40 || s[i] == 41) = false := by
      rw [Bool.or_eq_false_iff, beq_eq_false_iff_ne, beq_eq_false_iff_ne]
      refine ⟨fun e => hc (.inl ((byte_is (k := 40) (by decide)).2 e)), fun e => hc (.inr ((byte_is (k := 41) (by decide)).2 e))⟩
    rw [tmSigns_cons [] this]; rfl

set_option maxRecDepth 100000 in
set_option maxHeartbeats 4000000 in
theorem drawTermSize (a : Option Addr) (n c : Nat) (w : World) (h : Bytes w a n) (hn : n ≤ 1048576) (hc : n ≤ c) :
    Calls Try.prog 56 #[.slice a n c] w fun e w' => ∃ s : ByteArray, e = .returned (.string s) ∧ s.size ≤ 30 ∧ Below w.heap.size w w' := by
  go_enter Try.func56, Try.ntmps56
  go_wp2_with fail
  refine (open_rd a n c _ h hn hc).mono ?_
  rintro e w1 ⟨n', rfl, hrd, hap⟩
  go_wp2_with fail
  refine (said_rd hrd (by omega)).mono ?_
  rintro e w2 ⟨s, p2, rfl, hs, hp2, hrd2, hap2⟩
  go_wp2
  go_ret
  exact ⟨s, rfl, hs, (hap.trans hap2).below⟩

set_option maxRecDepth 100000 in
set_option maxHeartbeats 4000000 in
theorem pTermSize (a : Option Addr) (n c : Nat) (zs : List Int) (w : World) (hr : IsRow .u8 w a n c zs) (m : Int) (hg : 0 < w.heap.size) (hm : w.cell? ⟨0, 0, none⟩ = some (.int .i64 m)) :
    Calls Try.prog 14 #[.slice a n c] w fun e w' => e = .returned (.bool true) ∧ Below w.heap.size w w' := by
  by_cases hn : n ≤ 1048576
  · have hL : LibAt m w := ⟨hg, hm⟩
    clear hg hm
    have hB := Lib.hid hr.bytes
    have hC := Lib.hid hr.cap
    clear hr
    go_enter Try.func14, Try.ntmps14
    go_wp2_with fail
    refine (drawTermSize a n c _ hB.out hn hC.out).mono ?_
    rintro e w1 ⟨s, rfl, hs, hb1⟩
    have HB1 := Lib.hid hb1
    have HL1 := Lib.hid (hL.below hb1)
    clear hb1
    have H1 := Lib.hid (fun W => sizeI s W (by omega))
    have H2 := Lib.hid (fun W => specTermSize s W (by omega))
    have hsp := size_is s
    obtain ⟨b, hb⟩ : ∃ b, b = (termOf s.data.toList).isSome := ⟨_, rfl⟩
    obtain ⟨N, hN⟩ : ∃ N, N = sizeV s := ⟨_, rfl⟩
    rw [← hb] at H1 H2 hsp
    rw [← hN] at H1 H2 hsp
    clear hb hN
    go_wp2_with fail
    refine (H1.out _).mono ?_
    rintro e w2 ⟨rfl, hx2⟩
    have HB2 := Lib.hid (below_step HB1.out hx2)
    have HL2 := Lib.hid (HL1.out.below hx2)
    clear hx2
    go_wp2_with fail
    refine (H2.out _).mono ?_
    rintro e w3 ⟨rfl, hx3⟩
    have HB3 := Lib.hid (below_step HB2.out hx3)
    have HL3 := Lib.hid (HL2.out.below hx3)
    clear hx3
    cases b
    · go_wp2
      go_ret
      exact ⟨ret_bool (by simp), HB3.out⟩
    · obtain ⟨hN, hpos⟩ := hsp rfl
      go_wp2
      go_loopw [9, 10] (fun nv iv wr => ∃ i : Nat, i ≤ s.size ∧ iv = .int .i64 i ∧ nv = .int .i64 (tmSigns (s.data.toList.take i) : Nat) ∧ Below w.heap.size w wr) (fun _ iv _ => s.size - (intOf iv).toNat)
      case atStart => exact ⟨0, Nat.zero_le _, rfl, rfl, HB3.out⟩
      case round =>
        obtain ⟨i, hi, rfl, rfl, hbr⟩ := hrel
        have HBr := Lib.hid hbr
        clear hbr
        have hle := signsLe (s.data.toList.take i)
        have hle2 : (s.data.toList.take i).length ≤ 30 := by rw [List.length_take]; have := size_eq s; omega
        by_cases hlt : i < s.size
        · have hsn := signs_snoc s i hlt
          have hii : (i : Int) < (s.size : Int) := by omega
          obtain ⟨z, hz⟩ : ∃ z, z = tmSigns (s.data.toList.take i) := ⟨_, rfl⟩
          rw [← hz] at hle hsn ⊢
          have HSn := Lib.hid hsn
          clear hz hsn
          by_cases h40 : (s[i].toNat : Int) = 40
          · have HN2 : Hid (tmSigns (s.data.toList.take (i + 1)) = z) := Lib.hid (by rw [HSn.out, if_pos (.inl h40)])
            go_wp2
            go_roundw
            case rel => exact ⟨i + 1, by omega, by go_num, by rw [HN2.out], HBr.out⟩
            case measure => simp [intOf]; omega
          · by_cases h41 : (s[i].toNat : Int) = 41
            · have HN2 : Hid (tmSigns (s.data.toList.take (i + 1)) = z) := Lib.hid (by rw [HSn.out, if_pos (.inr h41)])
              go_wp2
              go_roundw
              case rel => exact ⟨i + 1, by omega, by go_num, by rw [HN2.out], HBr.out⟩
              case measure => simp [intOf]; omega
            · have HN2 : Hid (tmSigns (s.data.toList.take (i + 1)) = z + 1) := Lib.hid (by rw [HSn.out, if_neg (fun h => h.elim h40 h41)])
              have n40 : ((s[i].toNat : Int) != 40) = true := by simpa using h40
              have n41 : ((s[i].toNat : Int) != 41) = true := by simpa using h41
              go_wp2
              go_roundw
              case rel => exact ⟨i + 1, by omega, by go_num, by rw [HN2.out]; go_num, HBr.out⟩
              case measure => simp [intOf]; omega
        · obtain rfl : i = s.size := by omega
          rw [show s.data.toList.take s.size = s.data.toList from List.take_of_length_le (by rw [size_eq]; exact Nat.le_refl _), ← hN]
          have hN1 : (1 : Int) ≤ (N : Int) := by omega
          go_wp2
          go_ret
          exact ⟨ret_bool (by simp; omega), HBr.out⟩
  · have hd : (1048576 : Int) < (n : Int) := by omega
    go_enter Try.func14, Try.ntmps14
    go_wp2
    go_ret
    exact ⟨rfl, Below.refl _ _⟩

end Go.Proofs.Ytiphooodijbhiaa
