/-
  The walks of strings.Builder's WriteByte and of impl.signs, which writes truths as a text. The walk of impl.text: the tidy text of a set that is told by its first 180 numbers.
-/
import Derived.Test.YtojjfkabepkhdaaTidyText
import Derived.Test.YtojjfkabepkhdaaShelf
import Derived.Lib.Builder
import Derived.Laws.Externs
import Derived.Test.YtojjfkabepkhdaaRing
import Derived.Deep.RegionWith
namespace Go.Proofs.Ytojjfkabepkhdaa
open Go.RowKit

theorem builderSize : (Try.prog.info? 106).map (fun i => (i.size)) = some 2 := by kernel_rfl

set_option maxHeartbeats 1000000 in
set_option maxRecDepth 100000 in
theorem copyCheck_used (b : Nat) (w : World) (h0 : w.cell? ⟨b, 0, none⟩ = some (.pointer (some ⟨b, 0, none⟩))) :
    Calls Try.prog 99 #[.pointer (some ⟨b, 0, none⟩)] w fun e w' => e = .returned (.tuple #[]) ∧ w' = w := by
  obtain ⟨j, hj, _⟩ := Option.map_eq_some_iff.1 builderSize
  go_enter Try.func99, Try.ntmps99
  go_wp2
  rw [Lib.run_neq_ptr_same w _ Try.underlying104 hj]
  go_wp2
  go_end0
  exact ⟨rfl, rfl⟩

set_option maxHeartbeats 1000000 in
set_option maxRecDepth 100000 in
theorem copyCheck_fresh (b : Nat) (w : World) (h0 : w.cell? ⟨b, 0, none⟩ = some (.pointer none)) (hsh : w.shape? b = some (106, 2)) (hfz : w.frozen? ⟨b, 0, none⟩ = false) :
    Calls Try.prog 99 #[.pointer (some ⟨b, 0, none⟩)] w fun e w' => e = .returned (.tuple #[]) ∧ w' = w.setCell ⟨b, 0, none⟩ (.pointer (some ⟨b, 0, none⟩)) := by
  obtain ⟨j, hj, hjs⟩ := Option.map_eq_some_iff.1 builderSize
  go_enter Try.func99, Try.ntmps99
  go_wp2
  rw [Lib.run_to_unsafe w ⟨b, 0, none⟩ Try.underlying104 Try.underlying116 hj (by rw [hjs]; decide) hsh (Nat.zero_lt_succ 1)]
  simp only [Result.andThen]
  rw [Oper.upon_value]
  go_wp2
  rw [run_callFunc_extern Try.func102 (by kernel_rfl) (by kernel_rfl) (by kernel_rfl) (e := Extern.AbiNoEscape.same) (by kernel_rfl)]
  rw [Lib.run_noEscape]
  simp only [Result.andThen]
  rw [Oper.upon_value]
  go_wp2
  rw [Lib.run_from_unsafe w ⟨b, 0, none⟩ Try.underlying116 Try.underlying104 hj hsh (by kernel_rfl)]
  simp only [Result.andThen]
  rw [Oper.upon_value]
  go_wp2
  go_end0
  exact ⟨rfl, rfl⟩

theorem copyCheck_any (B b : Nat) (bs : List Value) (w : World) (h : Lib.IsBuilder 106 5 B b bs w) :
    Calls Try.prog 99 #[.pointer (some ⟨b, 0, none⟩)] w fun e w' => e = .returned (.tuple #[]) ∧ (Lib.BuilderAt 106 5 B b (.pointer (some ⟨b, 0, none⟩)) bs w' ∧ Below B w w') := by
  rcases h with h | h
  · refine (copyCheck_fresh b w h.cell0 h.shape h.frozen0).mono ?_
    rintro e w' ⟨rfl, rfl⟩
    exact ⟨rfl, h.used _, (Below.refl B w).setCell (p := ⟨b, 0, none⟩) h.1 _⟩
  · refine (copyCheck_used b w h.cell0).mono ?_
    rintro e w' ⟨rfl, rfl⟩
    exact ⟨rfl, h, Below.refl B _⟩

set_option maxHeartbeats 2000000 in
set_option maxRecDepth 100000 in
theorem writeByte_any (B b : Nat) (bs : List Value) (c : Int) (w : World) (h : Lib.IsBuilder 106 5 B b bs w) (hlen : bs.length + 1 ≤ 140737488355328) (hBw : B ≤ w.heap.size) :
    Calls Try.prog 93 #[.pointer (some ⟨b, 0, none⟩), .int .u8 c] w fun e w' => e = .returned .nilIface ∧ (Lib.BuilderAt 106 5 B b (.pointer (some ⟨b, 0, none⟩)) (bs ++ [.int .u8 c]) w' ∧ Below B w w') := by
  obtain ⟨i0, hi, hz0, hz1, hz2⟩ := info_parts infoByte
  go_enter Try.func93, Try.ntmps93
  go_wp2_with fail
  refine (copyCheck_any B b bs _ h).mono ?_
  rintro e w1 ⟨rfl, h1, hb1⟩
  obtain ⟨hB, v, hbk, hown, hne⟩ := h1
  have c0 : w1.cell? ⟨b, 0, none⟩ = some (.pointer (some ⟨b, 0, none⟩)) := by rw [Lib.cell_of_heap hbk]; rfl
  have c1 : w1.cell? ⟨b, 1, none⟩ = some v := by rw [Lib.cell_of_heap hbk]; rfl
  go_wp2_with (at_builtin; refine wpList_append_own _ rfl _ _ 22 rfl B 5 i0 (.int .u8 0) 1 1 Try.underlying22 hi hz0 hz1 hz2 rfl (by decide) _ _ _ rfl (hown.alloc _) ⟨w1.heap.size, 0, none⟩ 1 1 [.int .u8 c] rfl rfl ?c1 ?c2 ?c3 ?c4 ?c5 ?_)
  case c1 =>
    intro j u hj
    match j, hj with
    | 0, hj => simp at hj; subst hj; simp [Addr.add]
  case c2 => intro u hu; simp at hu; subst hu; rfl
  case c3 => unfold maxLen; omega
  case c4 => omega
  case c5 => have := hb1.size; simp; omega
  intro v' w2 hown' hgrow _
  have hlt : b < w1.heap.size := by
    rcases Nat.lt_or_ge b w1.heap.size with h' | h'
    · exact h'
    · simp [Array.getElem?_eq_none h'] at hbk
  have hb2 : w2.heap[b]? = some (.cells #[.pointer (some ⟨b, 0, none⟩), v] 106 (0, 0)) := by
    rw [hgrow.block b (by simp; omega) (fun e => hne e.symm), Lib.alloc_old w1 _ b hlt]
    exact hbk
  have d0 : w2.cell? ⟨b, 0, none⟩ = some (.pointer (some ⟨b, 0, none⟩)) := by rw [Lib.cell_of_heap hb2]; rfl
  have d1 : w2.cell? ⟨b, 1, none⟩ = some v := by rw [Lib.cell_of_heap hb2]; rfl
  have f1 : w2.frozen? ⟨b, 1, none⟩ = false := Lib.frozen_of_heap hb2 1
  obtain ⟨g, cap, rfl⟩ : ∃ g cap, v' = .slice (some ⟨g, 0, none⟩) (bs.length + 1) cap := by
    rcases hown'.2 with ⟨_, h0⟩ | ⟨g, cap, cur, hv, _⟩
    · omega
    · exact ⟨g, cap, hv⟩
  go_wp2
  go_ret
  refine ⟨rfl, ?_, ?_⟩
  · exact Lib.BuilderAt.put (T := 106) (e := 5) hB hb2 (bs' := bs ++ [.int .u8 c]) (by simpa using hown') (by decide)
  · exact ((hb1.alloc (by have := hb1.size; omega) _).grown hgrow (by have := hb1.size; simp; omega) (fun k hk => (hown.lt k hk).1)).setCell (p := ⟨b, 1, none⟩) hB _

set_option maxRecDepth 100000 in
set_option maxHeartbeats 1000000 in
theorem signsText_any (a : Option Addr) (n c : Nat) (bs : List Bool) (w : World) (h : Reads w a n bs) (hn : n ≤ 1048576) :
    Calls Try.prog 91 #[.slice a n c] w fun e w' => e = .returned (.string ⟨(signsOf bs).toArray⟩) ∧ Below w.heap.size w w' := by
  have H := Lib.hid h
  clear h
  go_enter Try.func91, Try.ntmps91
  go_wp2
  go_loopw [8] (fun i wr => ∃ k : Nat, k ≤ n ∧ i = .int .i64 k ∧ Lib.IsBuilder 106 5 w.heap.size w.heap.size (Lib.byteCells (signsOf (bs.take k))) wr ∧ Below w.heap.size w wr ∧ w.heap.size < wr.heap.size)
    (fun i _ => n - (intOf i).toNat)
  case atStart => exact ⟨0, Nat.zero_le _, rfl, Lib.fresh_isBuilder _ _ w, (Below.refl _ _).alloc (Nat.le_refl _) _, by simp⟩
  case round =>
    obtain ⟨k, hk, rfl, hbd, hB, hz⟩ := hrel
    by_cases hlt : k < n
    · rcases H.out.cells with h | ⟨g, o, rfl, hg, hc⟩
      · omega
      have q : wr.cell? ⟨g, o + k, none⟩ = some (.bool (bs.getD k false)) := (hB.cell (p := ⟨g, o + k, none⟩) hg).trans (hc k hlt)
      have HS := Lib.hid (signsOf_snoc bs k (by rw [H.out.len]; exact hlt))
      have hl : (Lib.byteCells (signsOf (bs.take k))).length + 1 ≤ 140737488355328 := by
        rw [Lib.byteCells_length, signsOf_length, List.length_take]; omega
      clear hc
      cases hv : bs.getD k false
      · rw [hv] at q
        have HV := Lib.hid hv
        have HB := Lib.hid hB
        have HD := Lib.hid hbd
        clear hv hB hbd
        go_wp2_with fail
        refine (writeByte_any w.heap.size w.heap.size _ 48 _ HD.out hl (by omega)).mono ?_
        rintro e w3 ⟨rfl, hbd3, hb3⟩
        have HD3 := Lib.hid hbd3
        have HB3 := Lib.hid hb3
        clear hbd3 hb3
        go_wp2
        go_roundw
        case rel => exact ⟨k + 1, by omega, by go_num, .inr (by rw [HS.out, byteCells_snoc, HV.out]; exact HD3.out), HB.out.trans HB3.out, by have := HB3.out.size; omega⟩
        case measure => simp [intOf]; omega
      · rw [hv] at q
        have HV := Lib.hid hv
        have HB := Lib.hid hB
        have HD := Lib.hid hbd
        clear hv hB hbd
        go_wp2_with fail
        refine (writeByte_any w.heap.size w.heap.size _ 49 _ HD.out hl (by omega)).mono ?_
        rintro e w3 ⟨rfl, hbd3, hb3⟩
        have HD3 := Lib.hid hbd3
        have HB3 := Lib.hid hb3
        clear hbd3 hb3
        go_wp2
        go_roundw
        case rel => exact ⟨k + 1, by omega, by go_num, .inr (by rw [HS.out, byteCells_snoc, HV.out]; exact HD3.out), HB.out.trans HB3.out, by have := HB3.out.size; omega⟩
        case measure => simp [intOf]; omega
    · obtain rfl : k = n := by omega
      have HE : Hid (bs.take k = bs) := Lib.hid (List.take_of_length_le (by rw [H.out.len]; exact Nat.le_refl _))
      rw [HE.out] at hbd
      go_wp2_with fail
      refine (Try.Builder_String_any w.heap.size w.heap.size (signsOf bs) _ hbd (by omega)).mono ?_
      rintro e w3 ⟨rfl, hb3⟩
      go_wp2
      go_ret
      exact ⟨rfl, hB.trans hb3⟩

theorem reads_part {w w' : World} (f : Nat → Bool) (a n : Nat) (han : a + n ≤ 180) (hb : Below (w.alloc (.cells (firstV f) 92)).heap.size (w.alloc (.cells (firstV f) 92)) w') :
    Reads w' (some ⟨w.heap.size, a, none⟩) n (part f a n) := by
  refine ⟨part_length f a n, .inr ⟨w.heap.size, a, rfl, by have := hb.size; simp at this; omega, fun i hi => ?_⟩⟩
  rw [part_getD f a n i hi]
  exact (hb.cell (p := ⟨w.heap.size, a + i, none⟩) (by simp)).trans (box180 w f (a + i) (by omega))

/-- T is the text of these truths. -/
def SignsIs (T : ByteArray) (bs : List Bool) : Prop := T.data.toList = signsOf bs

theorem signsText_on (a : Option Addr) (n c : Nat) (bs : List Bool) (w : World) (h : Reads w a n bs) (hn : n ≤ 60) :
    Calls Try.prog 91 #[.slice a n c] w fun e w' => ∃ T : ByteArray, e = .returned (.string T) ∧ SignsIs T bs ∧ T.size ≤ 60 ∧ Below w.heap.size w w' := by
  refine (signsText_any a n c bs w h (by omega)).mono ?_
  rintro e w' ⟨rfl, hb⟩
  refine ⟨_, rfl, by unfold SignsIs; simp, ?_, hb⟩
  show (signsOf bs).length ≤ 60
  rw [signsOf_length, h.len]; exact hn

theorem text_val {T R : ByteArray} {t r : List Bool} (hT : SignsIs T t) (hR : SignsIs R r) : T ++ ⟨#[40]⟩ ++ R ++ ⟨#[41]⟩ = (⟨(textOf t r).toArray⟩ : ByteArray) := by
  unfold SignsIs at hT hR
  apply ByteArray.ext
  apply Array.toList_inj.1
  simp only [ByteArray.data_append, Array.toList_append, hT, hR]
  unfold textOf
  simp

theorem ret_string {a b : ByteArray} (h : a = b) : Ending.returned (.string a) = .returned (.string b) := by rw [h]

set_option maxRecDepth 100000 in
set_option maxHeartbeats 1000000 in
theorem text_any (f : Nat → Bool) (m q : Nat) (w : World) (h : Tidy f m q) (hm : m ≤ 60) (hq : q ≤ 60) :
    Calls Try.prog 83 #[.agg (firstV f)] w fun e w' => e = .returned (.string ⟨(textOf (part f 0 m) (part f m q)).toArray⟩) ∧ Below w.heap.size w w' := by
  have H := Lib.hid h
  have hq0 := h.pos
  clear h
  go_enter Try.func83, Try.ntmps83
  go_wp2_with (refine wpList_load_row rfl 92 _ rfl w.heap.size rfl 92 (firstV f) (0, 0) _ (heap_alloc_new w _) Try.underlying92 rfl (by rw [firstV_size]; exact Try.infoFirst) ?_)
  refine (ringSize_any f m q _ H.out hm hq).mono ?_
  rintro e w1 ⟨rfl, hb1⟩
  have hrow : w1.heap[w.heap.size]? = some (.cells (firstV f) 92 (0, 0)) := (hb1.block w.heap.size (by simp)).trans (heap_alloc_new w _)
  have HR := Lib.hid hrow
  have HB1 := Lib.hid hb1
  clear hrow hb1
  go_wp2_with (refine wpList_load_row rfl 92 _ rfl w.heap.size rfl 92 (firstV f) (0, 0) _ HR.out Try.underlying92 rfl (by rw [firstV_size]; exact Try.infoFirst) ?_)
  refine (tailSize_any f m q _ H.out hm hq).mono ?_
  rintro e w2 ⟨rfl, hb2⟩
  have HB2 := Lib.hid (HB1.out.trans (hb2.mono HB1.out.size))
  clear hb2
  go_wp2
  have c1 : (m : Int) ≤ 180 := by omega
  have c2 : (0 : Int) ≤ (m : Int) := by omega
  have c3 : (m : Int) + (q : Int) ≤ 180 := by omega
  have c4 : (m : Int) ≤ (m : Int) + (q : Int) := by omega
  have e2 : ((m : Int) + (q : Int)).toNat = m + q := by omega
  have e1 : IntKind.i64.wrap ((m : Int) + (q : Int)) = (m : Int) + (q : Int) := by rw [IntWalk.i64_in _ (by omega)]
  have K1 : ∀ W', Below (w.alloc (.cells (firstV f) 92)).heap.size (w.alloc (.cells (firstV f) 92)) W' → _ := fun W' hb => signsText_on (some ⟨w.heap.size, 0, none⟩) m 180 (part f 0 m) W' (reads_part f 0 m (by omega) hb) hm
  have K2 : ∀ W', Below (w.alloc (.cells (firstV f) 92)).heap.size (w.alloc (.cells (firstV f) 92)) W' → _ := fun W' hb => signsText_on (some ⟨w.heap.size, m, none⟩) q (180 - m) (part f m q) W' (reads_part f m q (by omega) hb) hq
  have HK1 := Lib.hid K1
  have HK2 := Lib.hid K2
  have HBD := Lib.hid HB2.out.drew
  clear K1 K2
  go_region_with (first
    | (go_at_call 91; (with_reducible refine (HK1.out _ ?_).mono ?_); (first | exact HBD.out | exact HN4.out); rintro e w3 ⟨T, rfl, hT, hTs, hb3⟩; (first | have HN3 := Lib.hid (HBD.out.trans (hb3.mono HBD.out.size)) | have HN3 := Lib.hid (HN4.out.trans (hb3.mono HN4.out.size))))
    | (go_at_call 91; (with_reducible refine (HK2.out _ ?_).mono ?_); (first | exact HBD.out | exact HN3.out); rintro e w4 ⟨R, rfl, hR, hRs, hb4⟩; (first | have HN4 := Lib.hid (HBD.out.trans (hb4.mono HBD.out.size)) | have HN4 := Lib.hid (HN3.out.trans (hb4.mono HN3.out.size)))))
  all_goals
    go_wp2
    go_ret
    exact ⟨ret_string (text_val hT hR), ((Below.refl _ _).alloc (Nat.le_refl _) _).trans ((by first | exact HN4.out | exact HN3.out : Below (w.alloc (.cells (firstV f) 92)).heap.size (w.alloc (.cells (firstV f) 92)) _).mono (by simp))⟩

end Go.Proofs.Ytojjfkabepkhdaa
