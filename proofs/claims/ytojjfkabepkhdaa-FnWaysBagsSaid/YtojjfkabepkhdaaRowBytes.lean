/-
  A slice of bytes that came in: some bytes.
-/
import Derived.Test.YtojjfkabepkhdaaIsRow
import Derived.Test.YtojjfkabepkhdaaSetDef
import Derived.Test.YtojjfkabepkhdaaDrawOpen
namespace Go.Proofs.Ytojjfkabepkhdaa
open Go.RowKit

theorem IsRow.bytes {w : World} {a : Option Addr} {len cap : Nat} {zs : List Int} (h : IsRow .u8 w a len cap zs) : Bytes w a len := by
  rcases h with ⟨rfl, rfl, rfl, rfl⟩ | ⟨x, rfl, hl, hm, hz, hc, hw⟩
  · exact .inl rfl
  · rcases Nat.eq_zero_or_pos len with h0 | h0
    · exact .inl h0
    · right
      obtain ⟨b, off, spot⟩ := x
      have h1 := hc 0 (by omega)
      have hspot : spot = none := by simpa [Addr.add] using World.cell?_spot h1
      subst hspot
      have hadd : ∀ j, (⟨b, off, none⟩ : Addr).add j = ⟨b, off + j, none⟩ := fun j => by unfold Addr.add; split <;> simp_all
      refine ⟨b, off, rfl, lt_of_some (by rw [hadd] at h1; exact h1), fun i hi => ⟨zs.getD i 0, ?_, ?_⟩⟩
      · have := hc i (by omega)
        rw [hadd] at this
        exact this
      · have hmem : zs.getD i 0 ∈ zs := by
          rw [List.getD_eq_getElem?_getD, List.getElem?_eq_getElem (by omega)]; exact List.getElem_mem _
        have := hw _ hmem
        simp only [Lit.wf, Bool.and_eq_true, decide_eq_true_eq] at this
        have e1 : IntKind.u8.min = 0 := rfl
        have e2 : IntKind.u8.max = 255 := rfl
        rw [e1, e2] at this
        exact this
end Go.Proofs.Ytojjfkabepkhdaa
