/-
  The walk of spec.l1Signs: it reads a text of signs into new memory, or it fails.
-/
import Derived.Test.YtonphojjlilcnabBase
namespace Go.Proofs.Ytonphojjlilcnab
open Go.RowKit

theorem signs_rel {s : ByteArray} {k : Nat} {w wr w1 : World} {u v' : Value} {b : Bool} {o : Obj} (hlt : k < s.size) (hb : (s[k] == 49) = b)
    (hown : wr.ownsRow w.heap.size 4 1 u k (bits (s.data.toList.take k))) (hnx : Below w.heap.size w wr)
    (hown' : w1.ownsRow w.heap.size 4 1 v' (k + 1) (bits (s.data.toList.take k) ++ [.bool b])) (hgrow : (wr.alloc o).grownBy w1 u.ownBlock) :
    w1.ownsRow w.heap.size 4 1 v' (k + 1) (bits (s.data.toList.take (k + 1))) ∧ Below w.heap.size w w1 := by
  refine ⟨by rw [take_snoc s k hlt, bits_snoc, hb]; exact hown', ?_⟩
  exact (hnx.alloc (by have := hnx.size; omega) o).grown hgrow (by have := hnx.size; simp; omega) (fun j hj => (hown.lt j hj).1)

set_option maxHeartbeats 400000 in
theorem signs_any (s : ByteArray) (w : World) (hs : s.size ≤ 1048576) :
    Calls Try.prog 51 #[.string s] w fun e w' =>
      ∃ v, e = .returned (.tuple #[v, .bool (allSigns s.data.toList)]) ∧ Below w.heap.size w w' ∧ (allSigns s.data.toList = true → w'.ownsRow w.heap.size 4 1 v s.size (bits s.data.toList)) := by
  obtain ⟨i0, hi, hz0, hz1, hz2⟩ := info_parts Try.infoBool
  go_enter Try.func51, Try.ntmps51
  go_wp2
  go_loopw [4, 5] (fun v i wr => ∃ k : Nat, k ≤ s.size ∧ i = .int .i64 k ∧ wr.ownsRow w.heap.size 4 1 v k (bits (s.data.toList.take k)) ∧ allSigns (s.data.toList.take k) = true ∧ Below w.heap.size w wr)
    (fun _ i _ => s.size - (intOf i).toNat)
  case atStart => exact ⟨0, Nat.zero_le _, rfl, World.ownsRow_made _ _ _ (Nat.le_refl _) (by decide) rfl, rfl, (Below.refl _ _).alloc (Nat.le_refl _) _⟩
  case round =>
    obtain ⟨k, hk, rfl, hown, hall, hnx⟩ := hrel
    have HA := Lib.hid hall
    clear hall
    by_cases hlt : k < s.size
    · by_cases h0 : (s[k].toNat : Int) = 48
      · go_wp2_with
          (at_builtin; refine wpList_append_own _ rfl _ _ 33 rfl w.heap.size 4 i0 (.bool false) 1 1 Try.underlying33 hi hz0 hz1 hz2 rfl (by decide) _ _ _ rfl (hown.alloc _) ⟨wr.heap.size, 0, none⟩ 1 1 [.bool false] rfl rfl ?c1 ?c2 ?c3 ?c4 ?c5 ?_)
        case c1 =>
          intro j u hj
          match j, hj with
          | 0, hj => simp at hj; subst hj; simp [Addr.add]
        case c2 => intro u hu; simp at hu; subst hu; rfl
        case c3 => unfold maxLen; omega
        case c4 => omega
        case c5 => have := hnx.size; simp; omega
        intro v' w1 hown' hgrow _
        have R := signs_rel hlt (sign0 h0) hown hnx hown' hgrow
        clear hown' hgrow hown hnx
        go_wp2
        go_roundw
        case rel => exact ⟨k + 1, by omega, by go_num, R.1, allSigns_step s k hlt HA.out (.inl h0), R.2⟩
        case measure => simp [intOf]; omega
      · by_cases h1 : (s[k].toNat : Int) = 49
        · go_wp2_with
            (at_builtin; refine wpList_append_own _ rfl _ _ 33 rfl w.heap.size 4 i0 (.bool false) 1 1 Try.underlying33 hi hz0 hz1 hz2 rfl (by decide) _ _ _ rfl (hown.alloc _) ⟨wr.heap.size, 0, none⟩ 1 1 [.bool true] rfl rfl ?c1 ?c2 ?c3 ?c4 ?c5 ?_)
          case c1 =>
            intro j u hj
            match j, hj with
            | 0, hj => simp at hj; subst hj; simp [Addr.add]
          case c2 => intro u hu; simp at hu; subst hu; rfl
          case c3 => unfold maxLen; omega
          case c4 => omega
          case c5 => have := hnx.size; simp; omega
          intro v' w1 hown' hgrow _
          have R := signs_rel hlt (sign1 h1) hown hnx hown' hgrow
          clear hown' hgrow hown hnx
          go_wp2
          go_roundw
          case rel => exact ⟨k + 1, by omega, by go_num, R.1, allSigns_step s k hlt HA.out (.inr h1), R.2⟩
          case measure => simp [intOf]; omega
        · have b0 : ((s[k].toNat : Int) != 48) = true := by simpa using h0
          have b1 : ((s[k].toNat : Int) != 49) = true := by simpa using h1
          have hbad := Lib.hid (allSigns_bad s k hlt (by omega))
          go_wp2
          go_ret2
          exact ⟨_, ret2_bool hbad.out.symm, hnx.alloc (by have := hnx.size; omega) _, fun h => absurd h (by rw [hbad.out]; decide)⟩
    · have hgood : Hid (allSigns s.data.toList = true) := by have := HA.out; rw [take_size s k hlt] at this; exact Lib.hid this
      obtain rfl : k = s.size := by omega
      go_wp2
      go_ret2
      exact ⟨_, ret2_bool hgood.out.symm, hnx, fun _ => by have h := hown; rw [take_size s _ hlt] at h; exact h⟩

theorem signs_yes (s : ByteArray) (l : List UInt8) (w : World) (hl : s.data.toList = l) (hle : l.length ≤ 1048576) (hg : allSigns l = true) :
    Calls Try.prog 51 #[.string s] w fun e w' =>
      ∃ a cap, e = .returned (.tuple #[.slice a l.length cap, .bool true]) ∧ Below w.heap.size w w' ∧ w'.ownsRow w.heap.size 4 1 (.slice a l.length cap) l.length (bits l) := by
  subst hl
  rw [size_eq] at hle
  refine (signs_any s w hle).mono ?_
  rintro e w' ⟨v, rfl, hb, ho⟩
  have ho' := ho hg
  obtain ⟨a, cap, rfl⟩ := own_form ho'
  rw [size_eq, hg]
  exact ⟨a, cap, rfl, hb, ho'⟩
theorem signs_no (s : ByteArray) (l : List UInt8) (w : World) (hl : s.data.toList = l) (hle : l.length ≤ 1048576) (hg : allSigns l = false) :
    Calls Try.prog 51 #[.string s] w fun e w' =>
      ∃ v, e = .returned (.tuple #[v, .bool false]) ∧ Below w.heap.size w w' := by
  subst hl
  rw [size_eq] at hle
  refine (signs_any s w hle).mono ?_
  rintro e w' ⟨v, rfl, hb, _⟩
  rw [hg]
  exact ⟨v, rfl, hb⟩
end Go.Proofs.Ytonphojjlilcnab
