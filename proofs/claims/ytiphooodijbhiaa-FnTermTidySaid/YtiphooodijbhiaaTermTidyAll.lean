/-
  The walks of tidyTerm and TermTidy, of the program.
-/
import Derived.Test.YtiphooodijbhiaaTermPairI
set_option linter.unusedVariables false
set_option linter.unusedSimpArgs false
namespace Go.Proofs.Ytiphooodijbhiaa
open Go.RowKit

set_option maxRecDepth 100000 in
set_option maxHeartbeats 1000000 in
theorem tidyTerm_sign (c : UInt8) (w : World) : Calls Try.prog 91 #[tmV (.sign c)] w fun e w' => e = .returned (tmV (.sign c)) ∧ Below w.heap.size w w' := by
  have a0 := fun W v => assert_sign_star W v
  have a1 := fun W v => assert_sign_times W v
  have a2 := fun W v => assert_sign_pair W v
  show Calls Try.prog 91 #[.iface 164 (.int .u8 c.toNat)] w fun e w' => e = .returned (.iface 164 (.int .u8 c.toNat)) ∧ Below w.heap.size w w'
  go_enter Try.func91, Try.ntmps91
  go_wp2_with fail
  go_ret
  exact ⟨rfl, Below.refl _ _⟩

set_option maxRecDepth 100000 in
set_option maxHeartbeats 1000000 in
theorem tidyTerm_star (t : Tm) (w : World) (ih : ∀ w, Calls Try.prog 91 #[tmV t] w fun e w' => e = .returned (tmV (tidy t)) ∧ Below w.heap.size w w') :
    Calls Try.prog 91 #[tmV (.star t)] w fun e w' => e = .returned (tmV (tidyStar (tidy t))) ∧ Below w.heap.size w w' := by
  have HS := Lib.hid (fun w => tidyStar_any (tidy t) w)
  have HI := Lib.hid ih
  clear ih
  have a0 := fun W v => assert_star W v
  generalize tmV (tidyStar (tidy t)) = U at HS
  generalize tmV (tidy t) = V at HS HI
  show Calls Try.prog 91 #[.iface 146 (.agg #[.iface (tmTy t) (tmRecv t)])] w fun e w' => e = .returned U ∧ Below w.heap.size w w'
  simp only [tmV] at HI
  generalize tmTy t = T at HI
  generalize tmRecv t = v at HI
  go_enter Try.func91, Try.ntmps91
  go_wp2_with fail
  refine (HI.out _).mono ?_
  rintro e w1 ⟨rfl, hb1⟩
  have HB1 := Lib.hid (((Below.refl w.heap.size w).alloc (Nat.le_refl _) _).trans (hb1.mono (by simp)))
  clear hb1
  go_wp2_with fail
  refine (HS.out _).mono ?_
  rintro e w2 ⟨rfl, hb2⟩
  go_wp2_with fail
  go_ret
  exact ⟨rfl, HB1.out.trans (hb2.mono HB1.out.size)⟩

set_option maxRecDepth 100000 in
set_option maxHeartbeats 4000000 in
theorem tidyTerm_times (d : UInt8) (t : Tm) (w : World) (iht : ∀ w, Calls Try.prog 91 #[tmV t] w fun e w' => e = .returned (tmV (tidy t)) ∧ Below w.heap.size w w') (hn : (tmText (tidy t)).length ≤ 1000) :
    Calls Try.prog 91 #[tmV (.times d t)] w fun e w' => e = .returned (tmV (tidyTimes d (tidy t))) ∧ Below w.heap.size w w' := by
  have HS := Lib.hid (fun w => tidyTimes_any d (tidy t) w hn)
  have a0 := fun W v => assert_times_star W v
  have a1 := fun W v => assert_times W v
  generalize tmV (tidyTimes d (tidy t)) = U at HS
  generalize tmV (tidy t) = Vt at HS iht
  show Calls Try.prog 91 #[.iface 148 (.agg #[.int .u8 d.toNat, .iface (tmTy t) (tmRecv t)])] w fun e w' => e = .returned U ∧ Below w.heap.size w w'
  simp only [tmV] at iht
  generalize tmTy t = Tt at iht
  generalize tmRecv t = vt at iht
  have keepB : ∀ (W1 w1 : World), Below W1.heap.size W1 w1 → (W1.cell? ⟨w.heap.size, 0, none⟩ = some (.int .u8 d.toNat) ∧ W1.cell? ⟨w.heap.size, 1, none⟩ = some (.iface Tt vt) ∧ Below w.heap.size w W1) → (w1.cell? ⟨w.heap.size, 0, none⟩ = some (.int .u8 d.toNat) ∧ w1.cell? ⟨w.heap.size, 1, none⟩ = some (.iface Tt vt) ∧ Below w.heap.size w w1) :=
    fun W1 w1 hb h => ⟨(hb.cell (p := ⟨w.heap.size, 0, none⟩) (lt_of_some h.1)).trans h.1, (hb.cell (p := ⟨w.heap.size, 1, none⟩) (lt_of_some h.2.1)).trans h.2.1, h.2.2.trans (hb.mono h.2.2.size)⟩
  have Kt : ∀ W1 : World, (W1.cell? ⟨w.heap.size, 0, none⟩ = some (.int .u8 d.toNat) ∧ W1.cell? ⟨w.heap.size, 1, none⟩ = some (.iface Tt vt) ∧ Below w.heap.size w W1) → Calls Try.prog 91 #[.iface Tt vt] W1 fun e w1 => e = .returned Vt ∧ (w1.cell? ⟨w.heap.size, 0, none⟩ = some (.int .u8 d.toNat) ∧ w1.cell? ⟨w.heap.size, 1, none⟩ = some (.iface Tt vt) ∧ Below w.heap.size w w1) :=
    fun W1 h => (iht W1).mono fun e w1 ⟨he, hb⟩ => ⟨he, keepB _ _ hb h⟩
  have KS : ∀ W1 : World, (W1.cell? ⟨w.heap.size, 0, none⟩ = some (.int .u8 d.toNat) ∧ W1.cell? ⟨w.heap.size, 1, none⟩ = some (.iface Tt vt) ∧ Below w.heap.size w W1) → Calls Try.prog 122 #[.int .u8 d.toNat, Vt] W1 fun e w1 => e = .returned U ∧ (w1.cell? ⟨w.heap.size, 0, none⟩ = some (.int .u8 d.toNat) ∧ w1.cell? ⟨w.heap.size, 1, none⟩ = some (.iface Tt vt) ∧ Below w.heap.size w w1) :=
    fun W1 h => (HS.out W1).mono fun e w1 ⟨he, hb⟩ => ⟨he, keepB _ _ hb h⟩
  have HKt := Lib.hid Kt
  have HKS := Lib.hid KS
  have HSD : (w.alloc (.cells #[.int .u8 d.toNat, .iface Tt vt] 148)).drew.cell? ⟨w.heap.size, 0, none⟩ = some (.int .u8 d.toNat) ∧ (w.alloc (.cells #[.int .u8 d.toNat, .iface Tt vt] 148)).drew.cell? ⟨w.heap.size, 1, none⟩ = some (.iface Tt vt) ∧ Below w.heap.size w (w.alloc (.cells #[.int .u8 d.toNat, .iface Tt vt] 148)).drew := ⟨by rw [World.cell?_drew, World.cell?_alloc_at _ _ _ _ rfl]; rfl, by rw [World.cell?_drew, World.cell?_alloc_at _ _ _ _ rfl]; rfl, ((Below.refl _ _).alloc (Nat.le_refl _) _).drew⟩
  clear Kt KS keepB iht HS
  go_enter Try.func91, Try.ntmps91
  go_wp2_with fail
  go_region_held (fun w' => w'.cell? ⟨w.heap.size, 0, none⟩ = some (.int .u8 d.toNat) ∧ w'.cell? ⟨w.heap.size, 1, none⟩ = some (.iface Tt vt) ∧ Below w.heap.size w w') (first | assumption | exact ⟨by assumption, by assumption, by assumption⟩)
    (first
      | (go_at_call 91; (with_reducible refine (HKt.out _ ?_).mono ?_); assumption; rintro e wt ⟨rfl, hkt⟩)
      | (go_at_call 122; (with_reducible refine (HKS.out _ ?_).mono ?_); assumption; rintro e w5 ⟨rfl, hk5⟩))
  all_goals
    go_wp2
    go_ret
    exact ⟨rfl, hk5.2.2⟩

set_option maxRecDepth 100000 in
set_option maxHeartbeats 4000000 in
theorem tidyTerm_pair (l : Tm) (s : UInt8) (r : Tm) (w : World) (ihl : ∀ w, Calls Try.prog 91 #[tmV l] w fun e w' => e = .returned (tmV (tidy l)) ∧ Below w.heap.size w w') (ihr : ∀ w, Calls Try.prog 91 #[tmV r] w fun e w' => e = .returned (tmV (tidy r)) ∧ Below w.heap.size w w') (hs : isMid s = true) (hnl : (tmText (tidy l)).length ≤ 1000) (hnr : (tmText (tidy r)).length ≤ 1000) :
    Calls Try.prog 91 #[tmV (.pair l s r)] w fun e w' => e = .returned (tmV (tidyPair (tidy l) s (tidy r))) ∧ Below w.heap.size w w' := by
  have HS := Lib.hid (fun w => tidyPair_any (tidy l) (tidy r) s w hs hnl hnr)
  have a0 := fun W v => assert_pair_star W v
  have a1 := fun W v => assert_pair_times W v
  have a2 := fun W v => assert_pair W v
  generalize tmV (tidyPair (tidy l) s (tidy r)) = U at HS
  generalize tmV (tidy l) = Vl at HS ihl
  generalize tmV (tidy r) = Vr at HS ihr
  show Calls Try.prog 91 #[.iface 151 (.agg #[.iface (tmTy l) (tmRecv l), .int .u8 s.toNat, .iface (tmTy r) (tmRecv r)])] w fun e w' => e = .returned U ∧ Below w.heap.size w w'
  simp only [tmV] at ihl
  generalize tmTy l = Tl at ihl
  generalize tmRecv l = vl at ihl
  simp only [tmV] at ihr
  generalize tmTy r = Tr at ihr
  generalize tmRecv r = vr at ihr
  have keepB : ∀ (W1 w1 : World), Below W1.heap.size W1 w1 → (W1.cell? ⟨w.heap.size, 0, none⟩ = some (.iface Tl vl) ∧ W1.cell? ⟨w.heap.size, 1, none⟩ = some (.int .u8 s.toNat) ∧ W1.cell? ⟨w.heap.size, 2, none⟩ = some (.iface Tr vr) ∧ Below w.heap.size w W1) → (w1.cell? ⟨w.heap.size, 0, none⟩ = some (.iface Tl vl) ∧ w1.cell? ⟨w.heap.size, 1, none⟩ = some (.int .u8 s.toNat) ∧ w1.cell? ⟨w.heap.size, 2, none⟩ = some (.iface Tr vr) ∧ Below w.heap.size w w1) :=
    fun W1 w1 hb h => ⟨(hb.cell (p := ⟨w.heap.size, 0, none⟩) (lt_of_some h.1)).trans h.1, (hb.cell (p := ⟨w.heap.size, 1, none⟩) (lt_of_some h.2.1)).trans h.2.1, (hb.cell (p := ⟨w.heap.size, 2, none⟩) (lt_of_some h.2.2.1)).trans h.2.2.1, h.2.2.2.trans (hb.mono h.2.2.2.size)⟩
  have Kl : ∀ W1 : World, (W1.cell? ⟨w.heap.size, 0, none⟩ = some (.iface Tl vl) ∧ W1.cell? ⟨w.heap.size, 1, none⟩ = some (.int .u8 s.toNat) ∧ W1.cell? ⟨w.heap.size, 2, none⟩ = some (.iface Tr vr) ∧ Below w.heap.size w W1) → Calls Try.prog 91 #[.iface Tl vl] W1 fun e w1 => e = .returned Vl ∧ (w1.cell? ⟨w.heap.size, 0, none⟩ = some (.iface Tl vl) ∧ w1.cell? ⟨w.heap.size, 1, none⟩ = some (.int .u8 s.toNat) ∧ w1.cell? ⟨w.heap.size, 2, none⟩ = some (.iface Tr vr) ∧ Below w.heap.size w w1) :=
    fun W1 h => (ihl W1).mono fun e w1 ⟨he, hb⟩ => ⟨he, keepB _ _ hb h⟩
  have Kr : ∀ W1 : World, (W1.cell? ⟨w.heap.size, 0, none⟩ = some (.iface Tl vl) ∧ W1.cell? ⟨w.heap.size, 1, none⟩ = some (.int .u8 s.toNat) ∧ W1.cell? ⟨w.heap.size, 2, none⟩ = some (.iface Tr vr) ∧ Below w.heap.size w W1) → Calls Try.prog 91 #[.iface Tr vr] W1 fun e w1 => e = .returned Vr ∧ (w1.cell? ⟨w.heap.size, 0, none⟩ = some (.iface Tl vl) ∧ w1.cell? ⟨w.heap.size, 1, none⟩ = some (.int .u8 s.toNat) ∧ w1.cell? ⟨w.heap.size, 2, none⟩ = some (.iface Tr vr) ∧ Below w.heap.size w w1) :=
    fun W1 h => (ihr W1).mono fun e w1 ⟨he, hb⟩ => ⟨he, keepB _ _ hb h⟩
  have KS : ∀ W1 : World, (W1.cell? ⟨w.heap.size, 0, none⟩ = some (.iface Tl vl) ∧ W1.cell? ⟨w.heap.size, 1, none⟩ = some (.int .u8 s.toNat) ∧ W1.cell? ⟨w.heap.size, 2, none⟩ = some (.iface Tr vr) ∧ Below w.heap.size w W1) → Calls Try.prog 123 #[Vl, .int .u8 s.toNat, Vr] W1 fun e w1 => e = .returned U ∧ (w1.cell? ⟨w.heap.size, 0, none⟩ = some (.iface Tl vl) ∧ w1.cell? ⟨w.heap.size, 1, none⟩ = some (.int .u8 s.toNat) ∧ w1.cell? ⟨w.heap.size, 2, none⟩ = some (.iface Tr vr) ∧ Below w.heap.size w w1) :=
    fun W1 h => (HS.out W1).mono fun e w1 ⟨he, hb⟩ => ⟨he, keepB _ _ hb h⟩
  have HKl := Lib.hid Kl
  have HKr := Lib.hid Kr
  have HKS := Lib.hid KS
  have HSD : (w.alloc (.cells #[.iface Tl vl, .int .u8 s.toNat, .iface Tr vr] 151)).drew.cell? ⟨w.heap.size, 0, none⟩ = some (.iface Tl vl) ∧ (w.alloc (.cells #[.iface Tl vl, .int .u8 s.toNat, .iface Tr vr] 151)).drew.cell? ⟨w.heap.size, 1, none⟩ = some (.int .u8 s.toNat) ∧ (w.alloc (.cells #[.iface Tl vl, .int .u8 s.toNat, .iface Tr vr] 151)).drew.cell? ⟨w.heap.size, 2, none⟩ = some (.iface Tr vr) ∧ Below w.heap.size w (w.alloc (.cells #[.iface Tl vl, .int .u8 s.toNat, .iface Tr vr] 151)).drew := ⟨by rw [World.cell?_drew, World.cell?_alloc_at _ _ _ _ rfl]; rfl, by rw [World.cell?_drew, World.cell?_alloc_at _ _ _ _ rfl]; rfl, by rw [World.cell?_drew, World.cell?_alloc_at _ _ _ _ rfl]; rfl, ((Below.refl _ _).alloc (Nat.le_refl _) _).drew⟩
  clear Kl Kr KS keepB ihl ihr HS
  go_enter Try.func91, Try.ntmps91
  go_wp2_with fail
  go_region_held (fun w' => w'.cell? ⟨w.heap.size, 0, none⟩ = some (.iface Tl vl) ∧ w'.cell? ⟨w.heap.size, 1, none⟩ = some (.int .u8 s.toNat) ∧ w'.cell? ⟨w.heap.size, 2, none⟩ = some (.iface Tr vr) ∧ Below w.heap.size w w') (first | assumption | exact ⟨by assumption, by assumption, by assumption, by assumption⟩)
    (first
      | (go_at_call 91; (with_reducible refine (HKl.out _ ?_).mono ?_); assumption; rintro e wl ⟨rfl, hkl⟩)
      | (go_at_call 91; (with_reducible refine (HKr.out _ ?_).mono ?_); assumption; rintro e wr ⟨rfl, hkr⟩)
      | (go_at_call 123; (with_reducible refine (HKS.out _ ?_).mono ?_); assumption; rintro e w5 ⟨rfl, hk5⟩))
  all_goals
    go_wp2
    go_ret
    exact ⟨rfl, hk5.2.2.2⟩

/-- The walk of tidyTerm, whatever the term. -/
theorem tidyTerm_any : ∀ (t : Tm) (w : World), tmOk t = true → (tmText t).length ≤ 1000 → Calls Try.prog 91 #[tmV t] w fun e w' => e = .returned (tmV (tidy t)) ∧ Below w.heap.size w w' := by
  intro t
  induction t with
  | sign c => intro w _ _; exact tidyTerm_sign c w
  | star t ih => intro w ho h; simp [tmText] at h; exact tidyTerm_star t w (fun w => ih w ho (by omega))
  | times d t ih =>
    intro w ho h
    simp [tmText] at h
    rw [tmOk, Bool.and_eq_true] at ho
    exact tidyTerm_times d t w (fun w => ih w ho.2 (by omega)) (by have := (tidy_ok ho.2).2; omega)
  | pair l s r ihl ihr =>
    intro w ho h
    simp [tmText] at h
    rw [tmOk, Bool.and_eq_true, Bool.and_eq_true] at ho
    exact tidyTerm_pair l s r w (fun w => ihl w ho.1 (by omega)) (fun w => ihr w ho.2.2 (by omega)) ho.2.1 (by have := (tidy_ok ho.1).2; omega) (by have := (tidy_ok ho.2.2).2; omega)

/-- What TermTidy answers. -/
def tidyS (s : ByteArray) : ByteArray := match termOf s.data.toList with | some t => tmS (tidy t) | none => ⟨#[]⟩
theorem tidyS_none {s : ByteArray} (h : termOf s.data.toList = none) : tidyS s = ⟨#[]⟩ := by unfold tidyS; rw [h]
theorem tidyS_some {s : ByteArray} {t : Tm} (h : termOf s.data.toList = some t) : tidyS s = tmS (tidy t) := by unfold tidyS; rw [h]
set_option maxRecDepth 100000 in
set_option maxHeartbeats 1000000 in
theorem implTermTidy (s : ByteArray) (w : World) : Calls Try.prog 51 #[.string s] w fun e w' => e = .returned (.tuple #[.string (tidyS s), .bool (termOf s.data.toList).isSome]) ∧ Below w.heap.size w w' := by
  cases h : termOf s.data.toList with
  | none =>
    rw [tidyS_none h]
    have HI := Lib.hid (fun w => readTerm_any s w)
    rw [h] at HI
    clear h
    go_enter Try.func51, Try.ntmps51
    go_wp2_with fail
    refine (HI.out _).mono ?_
    rintro e w1 ⟨he, m, rfl⟩
    rw [show e = _ from he]
    clear he
    go_wp2_with fail
    go_ret2
    exact ⟨rfl, below_drewN (Below.refl _ _) m⟩
  | some t =>
    rw [tidyS_some h]
    have HI := Lib.hid (fun w => readTerm_any s w)
    rw [h] at HI
    obtain ⟨_, ho, hl⟩ := termOf_some h
    have hk := tidy_ok ho
    have HT := Lib.hid (fun w => tidyTerm_any t w ho (by omega))
    have HX := Lib.hid (fun w => termText_any (tidy t) w (by omega))
    have hm := method_text (tidy t)
    have he := text_enters (tidy t)
    clear h ho hl hk
    simp only [tmV] at HT
    generalize tmS (tidy t) = X at HX
    go_enter Try.func51, Try.ntmps51
    go_wp2_with fail
    refine (HI.out _).mono ?_
    rintro e w1 ⟨hr, m, rfl⟩
    rw [show e = _ from hr]
    clear hr
    simp only [tmV]
    go_wp2_with fail
    refine (HT.out _).mono ?_
    rintro e w1 ⟨rfl, hb1⟩
    have HB1 := Lib.hid ((below_drewN (Below.refl w.heap.size w) m).trans hb1)
    clear hb1
    go_wp2_with (go_at_fn (textF (tidy t)); refine (HX.out _).mono ?_; rintro e w2 ⟨rfl, hb2⟩)
    go_ret2
    exact ⟨rfl, HB1.out.trans (hb2.mono HB1.out.size)⟩

end Go.Proofs.Ytiphooodijbhiaa
