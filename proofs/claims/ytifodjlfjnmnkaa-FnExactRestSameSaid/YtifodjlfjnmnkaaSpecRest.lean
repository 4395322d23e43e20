/-
  What the model's RestText and RestFirst answer.
-/
import Derived.Test.YtifodjlfjnmnkaaRestDownS
import Derived.Test.YtifodjlfjnmnkaaRestMath
set_option linter.unusedVariables false
set_option linter.unusedSimpArgs false
namespace Go.Proofs.Ytifodjlfjnmnkaa
open Go.RowKit

theorem given_any (s : ByteArray) (k : Int) (w : World) (hs : s.size ≤ 1048576) :
    Calls Try.prog 60 #[.string s, .int .i64 k] w fun e w' => GivenIs (okS s && inR k 0 1000) s e w' ∧ Below w.heap.size w w' := by
  cases h : okS s
  · exact given_off s k w hs h
  · exact given_on s k _ w hs h (Bool.true_and _).symm

set_option maxHeartbeats 1000000 in
theorem specRest (s : ByteArray) (k : Int) (w : World) (hs : s.size ≤ 1048576) :
    Calls Try.prog 34 #[.string s, .int .i64 k] w fun e w' => MakeEnd (okS s && inR k 0 1000) (downF (fS s) k.toNat) e ∧ Below w.heap.size w w' := by
  have hg := given_any s k w hs
  revert hg
  cases ho : (okS s && inR k 0 1000) <;> intro hg
  · go_enter Try.func34, Try.ntmps34
    go_wp2_with fail
    refine hg.mono ?_
    rintro e w1 ⟨⟨a1, n1, c1, a2, n2, c2, rfl, hr⟩, hb⟩
    have HB := Lib.hid (hb.alloc hb.size (.cells #[.slice a1 n1 c1, .slice a2 n2 c2] 66))
    clear hb hr
    go_wp2
    go_ret2
    exact ⟨makeEnd_off rfl, HB.out⟩
  · go_enter Try.func34, Try.ntmps34
    go_wp2_with fail
    refine hg.mono ?_
    rintro e w1 ⟨⟨a1, n1, c1, a2, n2, c2, rfl, hr⟩, hb⟩
    have HB := Lib.hid (hb.alloc hb.size (.cells #[.slice a1 n1 c1, .slice a2 n2 c2] 66))
    have hR := (hr rfl).alloc (.cells #[.slice a1 n1 c1, .slice a2 n2 c2] 66)
    rw [Bool.and_eq_true] at ho
    obtain ⟨hok, hk⟩ := ho
    obtain ⟨k, rfl⟩ : ∃ n : Nat, k = n := by
      rcases inR_cases k 0 1000 with ⟨_, h, _⟩ | ⟨h, _⟩
      · exact Int.eq_ofNat_of_zero_le h
      · rw [h] at hk; cases hk
    have hk2 : k ≤ 1000 := by
      rcases inR_cases (k : Int) 0 1000 with ⟨_, _, h⟩ | ⟨h, _⟩
      · omega
      · rw [h] at hk; cases hk
    obtain ⟨m, q, ht, hm, hq⟩ := tidy_there hok
    have hcall := l5Down_any s a1 a2 n1 c1 n2 c2 k m q _ hR ht (by omega)
    have HT := Lib.hid (downT_tidy ht hm hq k)
    clear hb hr hR hk ht hok
    go_wp2_with fail
    refine hcall.mono ?_
    rintro e w2 ⟨rfl, hb2⟩
    have HB2 := Lib.hid (below_step HB.out hb2)
    clear hb2 hcall
    go_wp2
    go_ret2
    exact ⟨⟨_, true, rfl, And.intro (fun _ => .inl ⟨rfl, HT.out⟩) (fun h => by cases h)⟩, HB2.out⟩

set_option maxHeartbeats 1000000 in
theorem specFirst (s : ByteArray) (k : Int) (w : World) (hs : s.size ≤ 1048576) :
    Calls Try.prog 32 #[.string s, .int .i64 k] w fun e w' => NumIs (okS s && inR k 0 1000) (FirstIs (fS s) k.toNat) e ∧ Below w.heap.size w w' := by
  have hg := given_any s k w hs
  revert hg
  cases ho : (okS s && inR k 0 1000) <;> intro hg
  · go_enter Try.func32, Try.ntmps32
    go_wp2_with fail
    refine hg.mono ?_
    rintro e w1 ⟨⟨a1, n1, c1, a2, n2, c2, rfl, hr⟩, hb⟩
    have HB := Lib.hid (hb.alloc hb.size (.cells #[.slice a1 n1 c1, .slice a2 n2 c2] 66))
    clear hb hr
    go_wp2
    go_ret2
    exact ⟨⟨0, rfl, And.intro (fun h => by cases h) (fun _ => rfl)⟩, HB.out⟩
  · go_enter Try.func32, Try.ntmps32
    go_wp2_with fail
    refine hg.mono ?_
    rintro e w1 ⟨⟨a1, n1, c1, a2, n2, c2, rfl, hr⟩, hb⟩
    have HB := Lib.hid (hb.alloc hb.size (.cells #[.slice a1 n1 c1, .slice a2 n2 c2] 66))
    have hR := (hr rfl).alloc (.cells #[.slice a1 n1 c1, .slice a2 n2 c2] 66)
    rw [Bool.and_eq_true] at ho
    obtain ⟨hok, hk⟩ := ho
    obtain ⟨k, rfl⟩ : ∃ n : Nat, k = n := by
      rcases inR_cases k 0 1000 with ⟨_, h, _⟩ | ⟨h, _⟩
      · exact Int.eq_ofNat_of_zero_le h
      · rw [h] at hk; cases hk
    have hk2 : k ≤ 1000 := by
      rcases inR_cases (k : Int) 0 1000 with ⟨_, _, h⟩ | ⟨h, _⟩
      · omega
      · rw [h] at hk; cases hk
    obtain ⟨m, q, ht, hm, hq⟩ := tidy_there hok
    have hcall := l5Down_any s a1 a2 n1 c1 n2 c2 k m q _ hR ht (by omega)
    have HT := Lib.hid ht
    have HR := Lib.hid hR
    have HX : Hid (∀ n, downT (fS s) m q n = downT (fS s) m q k ↔ placeF m q n = placeF m q k) := Lib.hid fun n => (downT_same ht hm hq n k).trans (down_same ht n k)
    have hpk := place_lt ht.pos (m := m) k
    have hps := place_self hpk
    clear hb hr hR hk ht hok
    go_wp2_with fail
    refine hcall.mono ?_
    rintro e w2 ⟨rfl, hb2⟩
    have HB2 := Lib.hid (below_step HB.out hb2)
    have q0 := box_later hb2
    clear hcall
    obtain ⟨X, hX⟩ : ∃ X, X = downT (fS s) m q k := ⟨_, rfl⟩
    have hbx := Lib.hid hb2
    rw [← hX] at HX ⊢
    clear hX hb2 q0
    go_wp2
    go_loopw [9] (fun i wr => ∃ n : Nat, i = .int .i64 n ∧ n ≤ placeF m q k ∧ Below w.heap.size w wr ∧ Below (w1.alloc (.cells #[.slice a1 n1 c1, .slice a2 n2 c2] 66)).heap.size (w1.alloc (.cells #[.slice a1 n1 c1, .slice a2 n2 c2] 66)) wr) (fun i _ => placeF m q k + 1 - (intOf i).toNat)
    case atStart => exact ⟨0, rfl, Nat.zero_le _, HB2.out, hbx.out⟩
    case round =>
      obtain ⟨n, rfl, hn, hbw, hbb⟩ := hrel
      obtain ⟨q0, q1⟩ := box_later hbb
      have hcall := l5Down_any s a1 a2 n1 c1 n2 c2 n m q wr (HR.out.below hbb (Nat.le_refl _)) HT.out (by omega)
      have HW := Lib.hid hbw
      have HW2 := Lib.hid hbb
      clear hbw hbb
      by_cases he : n = placeF m q k
      · have hTX : downT (fS s) m q n = X := (HX.out n).2 (by rw [he]; exact hps)
        rw [hTX] at hcall
        have HE : Hid (FirstIs (fS s) ((k : Int).toNat) n) := Lib.hid ⟨m, q, HT.out, he⟩
        clear he hTX hps hpk
        go_wp2_with fail
        refine hcall.mono ?_
        rintro e w5 ⟨rfl, hb5⟩
        have HB5 := Lib.hid (below_step HW.out hb5)
        clear hb5 hcall
        go_wp2
        go_ret2
        exact ⟨⟨n, rfl, And.intro (fun _ => HE.out) (fun h => by cases h)⟩, HB5.out⟩
      · have hTX : downT (fS s) m q n ≠ X := fun e => he (by
          have := (HX.out n).1 e
          rw [place_self (by omega)] at this
          exact this)
        obtain ⟨Y, hY⟩ : ∃ Y, Y = downT (fS s) m q n := ⟨_, rfl⟩
        rw [← hY] at hcall hTX
        have hb0 : (Y.toList == X.toList) = false := by
          cases h : (Y.toList == X.toList)
          · rfl
          · have h := eq_of_beq h
            rw [Go.Lib.toList_data, Go.Lib.toList_data] at h
            exact absurd (by cases Y; cases X; simp at h; rw [h]) hTX
        have hbn : ¬ Y.toList = X.toList := by intro h; rw [h] at hb0; simp at hb0
        clear hY hTX
        go_wp2_with fail
        refine hcall.mono ?_
        rintro e w5 ⟨rfl, hb5⟩
        have HB5 := Lib.hid (below_step HW.out hb5)
        have HB6 := Lib.hid (HW2.out.trans (hb5.mono HW2.out.size))
        clear hb5 hcall
        go_wp2
        go_roundw
        case rel => exact ⟨n + 1, by go_num, by omega, HB5.out, HB6.out⟩
        case measure => simp [intOf]; omega
end Go.Proofs.Ytifodjlfjnmnkaa
