/-
  The walk of the law FnMachOf.
-/
import Derived.Test.YtiphooodijbhiaaPMachBase
import Derived.Test.YtiphooodijbhiaaOfI
import Derived.Test.YtiphooodijbhiaaOfS
import Derived.Test.YtiphooodijbhiaaOfSays
import Derived.Test.YtiphooodijbhiaaSingleI
import Derived.Test.YtiphooodijbhiaaMachFewI
import Derived.Test.YtiphooodijbhiaaSetTidyI
import Derived.Test.YtiphooodijbhiaaDrawSet
set_option linter.unusedVariables false
set_option linter.unusedSimpArgs false
namespace Go.Proofs.Ytiphooodijbhiaa
open Go.RowKit

set_option maxRecDepth 100000 in
set_option maxHeartbeats 1000000 in
theorem drawMachOf (a : Option Addr) (n c : Nat) (w : World) (h : Bytes w a n) (hn : n ≤ 1048576) (hc : n ≤ c) :
    Calls Try.prog 21 #[.slice a n c] w fun e w' => ∃ s : ByteArray, e = .returned (.string s) ∧ s.size ≤ 12 ∧ Below w.heap.size w w' := by
  go_enter Try.func21, Try.ntmps21
  go_wp2_with fail
  refine (open_rd a n c _ h hn hc).mono ?_
  rintro e w1 ⟨n', rfl, hrd, hap⟩
  go_wp2_with fail
  refine (set_rd hrd (by omega)).mono ?_
  rintro e w2 ⟨s, p2, rfl, hs, hp2, hrd2, hap2⟩
  go_wp2
  go_ret
  exact ⟨s, rfl, hs, (hap.trans hap2).below⟩

def MachAs (ok : Bool) (zs : List Int) (n : Nat) (x y : Int) (w : World) (e : Ending) (w' : World) : Prop :=
  ∃ a c, e = .returned (.tuple #[.agg #[.slice a n c, .int .i64 x, .int .i64 y], .bool ok]) ∧ w'.ownsRow w.heap.size 3 1 (.slice a n c) n (ints zs) ∧ Below w.heap.size w w'
theorem asOf {ok : Bool} {L : List Nat} {s t : Nat} {w w' : World} {e : Ending} (h : MachEnd ok L s t w e w') : MachAs ok (castM L) L.length s t w e w' := by
  obtain ⟨a, n, c, rfl, h1, rfl, h2⟩ := h
  exact ⟨a, c, rfl, h1, h2⟩
theorem of_short {k : Bool} {f : Nat → Bool} {ok : Bool} {L : List Nat} {t : Nat} (h : OfIs k f ok L t) : L.length ≤ 5 := by
  cases ok
  · obtain ⟨rfl, _⟩ := h.2 rfl
    decide
  · obtain ⟨_, m, q, _, h5, rfl, _⟩ := h.1 rfl
    rw [ofL_length]; exact h5

set_option maxRecDepth 100000 in
set_option maxHeartbeats 4000000 in
theorem pMachOf (a : Option Addr) (n c : Nat) (zs : List Int) (w : World) (hr : IsRow .u8 w a n c zs) (m0 : Int) (hg : 0 < w.heap.size) (hm : w.cell? ⟨0, 0, none⟩ = some (.int .i64 m0)) :
    Calls Try.prog 5 #[.slice a n c] w fun e w' => e = .returned (.bool true) ∧ Below w.heap.size w w' := by
  by_cases hn : n ≤ 1048576
  · have hB := Lib.hid hr.bytes
    have hC := Lib.hid hr.cap
    have HLA : Hid (LibAt m0 w) := Lib.hid ⟨hg, hm⟩
    clear hg hm
    clear hr
    go_enter Try.func5, Try.ntmps5
    go_wp2_with fail
    refine (drawMachOf a n c _ hB.out hn hC.out).mono ?_
    rintro e1 w1 ⟨s, rfl, hs, hb1⟩
    have HB := Lib.hid hb1
    clear hb1
    go_wp2_with fail
    refine (implOf s m0 _ (by omega) (HLA.out.below HB.out)).mono ?_
    rintro e1 w2 ⟨ok, L, t, hU, hM⟩
    obtain ⟨a1, c1, rfl, hown1, hx⟩ := asOf hM
    have hn5 := of_short hU
    have hsp : ∀ W, Calls Try.prog 23 #[.string s] W (MachAs ok (castM L) L.length ((if ok then 1 else 0 : Nat) : Int) t W) := fun W => by
      refine (specOf s W (by omega)).mono ?_
      rintro e w' ⟨ok2, L2, t2, hU2, h⟩
      obtain ⟨rfl, rfl, rfl⟩ := ofIs_unique hU hU2
      exact asOf h
    have hsay : ok = true → ∃ m q, Tidy (fS s) m q ∧ m + q ≤ 5 ∧ L.length = m + q ∧ okS s = true ∧ okM (castM L) 1 t = true ∧ fM (castM L) 1 t = fS s ∧ singleM (castM L) 1 t = true := fun h => by subst h; exact of_says hU
    have HB2 := Lib.hid (HB.out.trans (hx.mono HB.out.size))
    have R1 := Lib.hid (readsI_own hown1)
    obtain ⟨zs, hzs⟩ : ∃ zs, zs = castM L := ⟨_, rfl⟩
    obtain ⟨N, hNN⟩ : ∃ N, N = L.length := ⟨_, rfl⟩
    obtain ⟨T, hT⟩ : ∃ T : Int, T = (t : Int) := ⟨_, rfl⟩
    rw [← hzs, ← hNN, ← hT] at hsp hsay
    rw [← hzs, ← hNN] at R1
    rw [← hNN] at hn5 ⊢
    rw [← hT]
    have HSP := Lib.hid hsp
    have HSAY := Lib.hid hsay
    clear hU hM hown1 hx hsp hsay hzs hNN hT
    cases ok
    · simp only [if_true, Bool.false_eq_true, if_false] at HSP ⊢
      have XB2 := Lib.hid (boxM_start a1 N c1 0 T w2 25)
      go_wp2_with fail
      refine (HSP.out _).mono ?_
      rintro e1 w3 ⟨a2, c2, rfl, hown2, hx⟩
      have hal := (Below.refl w3.heap.size w3).alloc (Nat.le_refl _) (.cells #[.slice a2 N c2, .int .i64 0, .int .i64 T] 25)
      have R2 := Lib.hid (readsI_own hown2)
      have WB3 := Lib.hid (boxM_start a2 N c2 0 T w3 25)
      have XB3 := Lib.hid ((XB2.out.step hx).step hal)
      clear hx hown2 hal
      have s0 := XB3.out.q0
      have s1 := XB3.out.q1
      have s2 := XB3.out.q2
      have t0 := WB3.out.q0
      have t1 := WB3.out.q1
      have t2 := WB3.out.q2
      go_wp2_with fail
      refine (sameMachine_same a1 a2 N c1 c2 zs 0 T _ (R1.out.below XB3.out.below (Nat.le_refl _)) (R2.out.below WB3.out.below (Nat.le_refl _)) (by omega)).mono ?_
      rintro e1 w4 ⟨rfl, hx⟩
      have XB4 := Lib.hid (XB3.out.step hx)
      clear hx s0 s1 s2 t0 t1 t2
      go_wp2
      go_ret
      exact ⟨rfl, HB2.out.trans (XB4.out.below.mono HB2.out.size)⟩

    · simp only [if_true, Bool.false_eq_true, if_false] at HSP ⊢
      have XB2 := Lib.hid (boxM_start a1 N c1 1 T w2 25)
      go_wp2_with fail
      refine (HSP.out _).mono ?_
      rintro e1 w3 ⟨a2, c2, rfl, hown2, hx⟩
      have hal := (Below.refl w3.heap.size w3).alloc (Nat.le_refl _) (.cells #[.slice a2 N c2, .int .i64 1, .int .i64 T] 25)
      have R2 := Lib.hid (readsI_own hown2)
      have WB3 := Lib.hid (boxM_start a2 N c2 1 T w3 25)
      have XB3 := Lib.hid ((XB2.out.step hx).step hal)
      clear hx hown2 hal
      have s0 := XB3.out.q0
      have s1 := XB3.out.q1
      have s2 := XB3.out.q2
      have t0 := WB3.out.q0
      have t1 := WB3.out.q1
      have t2 := WB3.out.q2
      go_wp2_with fail
      refine (sameMachine_same a1 a2 N c1 c2 zs 1 T _ (R1.out.below XB3.out.below (Nat.le_refl _)) (R2.out.below WB3.out.below (Nat.le_refl _)) (by omega)).mono ?_
      rintro e1 w4 ⟨rfl, hx⟩
      have XB4 := Lib.hid (XB3.out.step hx)
      clear hx s0 s1 s2 t0 t1 t2
      obtain ⟨m, q, ht, h5, hlen, hk, hok, hf, hsg⟩ := HSAY.out trivial
      have s0 := XB4.out.q0
      have s1 := XB4.out.q1
      have s2 := XB4.out.q2
      have HK := Lib.hid hk
      have HT := Lib.hid ht
      have HST := Lib.hid (fun W hW => implSet a1 N c1 zs 1 T W hW (by omega))
      have HFW := Lib.hid (fun W hW hL => implFew a1 N c1 zs 1 T m0 W hW (by omega) hL)
      have HSG := Lib.hid (fun W hW => implSingle a1 N c1 zs 1 T W hW (by omega))
      rw [hok, hf] at HST HFW
      rw [hsg] at HSG
      have hNI : (N : Int) = (m : Int) + (q : Int) := by omega
      have HNI := Lib.hid hNI
      clear hk ht hok hf hsg HSAY hNI hlen
      go_wp2_with fail
      refine (HST.out _ (R1.out.below XB4.out.below (Nat.le_refl _))).mono ?_
      rintro e1 w5 ⟨⟨U, rfl, hU⟩, hx⟩
      have XB5 := Lib.hid (XB4.out.step hx)
      have HU := Lib.hid (hU.1 rfl)
      clear hU
      clear hx s0 s1 s2
      have s0 := XB5.out.q0
      have s1 := XB5.out.q1
      have s2 := XB5.out.q2
      go_wp2_with fail
      refine (implTidy_on s U m0 _ (by omega) (HLA.out.below (HB2.out.trans (XB5.out.below.mono HB2.out.size))) HK.out HU.out).mono ?_
      rintro e1 w6 ⟨rfl, hx⟩
      have XB6 := Lib.hid (XB5.out.step hx)
      clear hx s0 s1 s2
      have s0 := XB6.out.q0
      have s1 := XB6.out.q1
      have s2 := XB6.out.q2
      go_wp2_with fail
      refine (HFW.out _ (R1.out.below XB6.out.below (Nat.le_refl _)) (HLA.out.below (HB2.out.trans (XB6.out.below.mono HB2.out.size)))).mono ?_
      rintro e1 w7 ⟨⟨v, rfl, hv, _⟩, hx⟩
      have XB7 := Lib.hid (XB6.out.step hx)
      obtain ⟨m', q', ht', hv'⟩ := hv rfl
      obtain ⟨rfl, rfl⟩ := tidy_unique HT.out ht'
      obtain rfl : v = N := by have := HNI.out; omega
      clear hv ht' hv'
      clear hx s0 s1 s2
      have s0 := XB7.out.q0
      have s1 := XB7.out.q1
      have s2 := XB7.out.q2
      go_wp2_with fail
      refine (HSG.out _ (R1.out.below XB7.out.below (Nat.le_refl _))).mono ?_
      rintro e1 w8 ⟨rfl, hx⟩
      have XB8 := Lib.hid (XB7.out.step hx)
      clear hx s0 s1 s2
      have s0 := XB8.out.q0
      have s1 := XB8.out.q1
      have s2 := XB8.out.q2
      go_wp2
      go_ret
      exact ⟨rfl, HB2.out.trans (XB8.out.below.mono HB2.out.size)⟩
  · have hd : (1048576 : Int) < (n : Int) := by omega
    go_enter Try.func5, Try.ntmps5
    go_wp2
    go_ret
    exact ⟨rfl, Below.refl _ _⟩
end Go.Proofs.Ytiphooodijbhiaa
