/-
  The walks of the methods that write a term.
-/
import Derived.Test.YtiphooodijbhiaaTermI
import Derived.Test.YtiphooodijbhiaaTermStr
import Derived.Test.YtiphooodijbhiaaTermSem
import Derived.Deep.RegionHeld
import Derived.Shelf.Abstract
set_option linter.unusedVariables false
set_option linter.unusedSimpArgs false
namespace Go.Proofs.Ytiphooodijbhiaa
open Go.RowKit

/-- The method that writes a term. -/
def textF : Tm → Nat
  | .sign _ => 201
  | .star _ => 176
  | .times _ _ => 188
  | .pair _ _ _ => 195
theorem method_text (t : Tm) (w : World) : (method 305 (tmTy t) (tmRecv t) "loop.example/oneletter/impl.text").run Try.prog w = .ok (textF t, tmRecv t) w := by
  cases t <;> kernel_rfl
theorem text_enters (t : Tm) : ∀ (args : Array Value) (w : World), (callFunc (textF t) args).run Try.prog w = .ok (.enter (textF t) args) w := by
  cases t
  · exact enters_of Try.func201 (by kernel_rfl) rfl
  · exact enters_of Try.func176 (by kernel_rfl) rfl
  · exact enters_of Try.func188 (by kernel_rfl) rfl
  · exact enters_of Try.func195 (by kernel_rfl) rfl
set_option maxRecDepth 100000 in
set_option maxHeartbeats 1000000 in
theorem text_sign (c : UInt8) (w : World) : Calls Try.prog 201 #[.int .u8 c.toNat] w fun e w' => e = .returned (.string (tmS (.sign c))) ∧ Below w.heap.size w w' := by
  have hc := conv_byte (w.alloc (.cells #[.int .u8 c.toNat] 5)) w.heap.size c (by rw [World.cell?_alloc_at _ _ _ _ rfl]; rfl)
  go_enter Try.func201, Try.ntmps201
  go_wp2
  go_ret
  exact ⟨rfl, (Below.refl _ _).alloc (Nat.le_refl _) _⟩

set_option maxRecDepth 100000 in
set_option maxHeartbeats 1000000 in
theorem text_star (t : Tm) (w : World) (hn : (tmText t).length ≤ 1000) (ih : ∀ w, Calls Try.prog (textF t) #[tmRecv t] w fun e w' => e = .returned (.string (tmS t)) ∧ Below w.heap.size w w') :
    Calls Try.prog 176 #[tmRecv (.star t)] w fun e w' => e = .returned (.string (tmS (.star t))) ∧ Below w.heap.size w w' := by
  have HI := Lib.hid ih
  clear ih
  have hs : (tmS t).size ≤ 1000 := by rw [tmS_size]; exact hn
  have hE : (⟨#[42]⟩ : ByteArray) ++ tmS t = tmS (.star t) := text_cat _ t rfl
  obtain ⟨S, hS⟩ : ∃ S, S = tmS t := ⟨_, rfl⟩
  rw [← hS] at hs hE HI
  clear hS
  have HE := Lib.hid hE
  clear hE
  show Calls Try.prog 176 #[.agg #[.iface (tmTy t) (tmRecv t)]] w _
  have hm := method_text t
  have he := text_enters t
  go_enter Try.func176, Try.ntmps176
  go_wp2_with (go_at_fn (textF t); refine (HI.out _).mono ?_; rintro e w1 ⟨rfl, hb⟩)
  go_ret
  exact ⟨by rw [← HE.out]; rfl, ((Below.refl w.heap.size w).alloc (Nat.le_refl _) _).trans (hb.mono (by simp))⟩

theorem lt_alloc {W w1 : World} {o : Obj} (h : (W.alloc o).heap.size ≤ w1.heap.size) : W.heap.size < w1.heap.size := by rw [World.size_alloc] at h; omega
set_option maxRecDepth 100000 in
set_option maxHeartbeats 4000000 in
theorem text_times (d : UInt8) (t : Tm) (w : World) (hn : (tmText t).length ≤ 1000) (ih : ∀ w, Calls Try.prog (textF t) #[tmRecv t] w fun e w' => e = .returned (.string (tmS t)) ∧ Below w.heap.size w w') :
    Calls Try.prog 188 #[tmRecv (.times d t)] w fun e w' => e = .returned (.string (tmS (.times d t))) ∧ Below w.heap.size w w' := by
  have hs : (tmS t).size ≤ 1000 := by rw [tmS_size]; exact hn
  have hE : (⟨#[d]⟩ : ByteArray) ++ tmS t = tmS (.times d t) := text_cat _ t rfl
  obtain ⟨S, hS⟩ : ∃ S, S = tmS t := ⟨_, rfl⟩
  rw [← hS] at hs hE ih
  clear hS
  have HE := Lib.hid hE
  clear hE
  show Calls Try.prog 188 #[.agg #[.int .u8 d.toNat, .iface (tmTy t) (tmRecv t)]] w _
  have hm := method_text t
  have he := text_enters t
  have hc := fun W g => conv_byte W g d
  have s0 : ¬ 9223372036854775807 < 1 + S.size := by omega
  have zd : (⟨#[d]⟩ : ByteArray).size = 1 := rfl
  have keepA : ∀ (W : World) (o : Obj), (W.cell? ⟨w.heap.size, 0, none⟩ = some (.int .u8 d.toNat) ∧ W.cell? ⟨w.heap.size, 1, none⟩ = some (.iface (tmTy t) (tmRecv t)) ∧ Below w.heap.size w W) → ((W.alloc o).cell? ⟨w.heap.size, 0, none⟩ = some (.int .u8 d.toNat) ∧ (W.alloc o).cell? ⟨w.heap.size, 1, none⟩ = some (.iface (tmTy t) (tmRecv t)) ∧ Below w.heap.size w (W.alloc o)) :=
    fun W o h => ⟨(World.cell?_alloc_some _ _ _ (by rw [h.1]; rfl)).trans h.1, (World.cell?_alloc_some _ _ _ (by rw [h.2.1]; rfl)).trans h.2.1, h.2.2.alloc h.2.2.size _⟩
  have K1 : ∀ W1 : World, (W1.cell? ⟨w.heap.size, 0, none⟩ = some (.int .u8 d.toNat) ∧ W1.cell? ⟨w.heap.size, 1, none⟩ = some (.iface (tmTy t) (tmRecv t)) ∧ Below w.heap.size w W1) → Calls Try.prog (textF t) #[tmRecv t] W1 fun e w1 =>
      e = .returned (.string S) ∧ (w1.cell? ⟨w.heap.size, 0, none⟩ = some (.int .u8 d.toNat) ∧ w1.cell? ⟨w.heap.size, 1, none⟩ = some (.iface (tmTy t) (tmRecv t)) ∧ Below w.heap.size w w1) ∧ (∀ p : Addr, p.block < W1.heap.size → w1.cell? p = W1.cell? p) ∧ W1.heap.size ≤ w1.heap.size :=
    fun W1 h => (ih W1).mono fun e w1 ⟨he, hb⟩ => ⟨he, ⟨(hb.cell (p := ⟨w.heap.size, 0, none⟩) (lt_of_some h.1)).trans h.1, (hb.cell (p := ⟨w.heap.size, 1, none⟩) (lt_of_some h.2.1)).trans h.2.1, h.2.2.trans (hb.mono h.2.2.size)⟩, fun p hp => hb.cell hp, hb.size⟩
  have HK1 := Lib.hid K1
  have HA := Lib.hid keepA
  have HSD : (w.alloc (.cells #[.int .u8 d.toNat, .iface (tmTy t) (tmRecv t)] 148)).drew.cell? ⟨w.heap.size, 0, none⟩ = some (.int .u8 d.toNat) ∧ (w.alloc (.cells #[.int .u8 d.toNat, .iface (tmTy t) (tmRecv t)] 148)).drew.cell? ⟨w.heap.size, 1, none⟩ = some (.iface (tmTy t) (tmRecv t)) ∧ Below w.heap.size w (w.alloc (.cells #[.int .u8 d.toNat, .iface (tmTy t) (tmRecv t)] 148)).drew := by
    exact ⟨by rw [World.cell?_drew, World.cell?_alloc_at _ _ _ _ rfl]; rfl, by rw [World.cell?_drew, World.cell?_alloc_at _ _ _ _ rfl]; rfl, ((Below.refl _ _).alloc (Nat.le_refl _) _).drew⟩
  clear K1 keepA ih
  go_enter Try.func188, Try.ntmps188
  go_wp2_with fail
  go_region_held (fun w' => w'.cell? ⟨w.heap.size, 0, none⟩ = some (.int .u8 d.toNat) ∧ w'.cell? ⟨w.heap.size, 1, none⟩ = some (.iface (tmTy t) (tmRecv t)) ∧ Below w.heap.size w w') (first | assumption | exact HA.out _ _ (by assumption))
    (first
      | (go_at_fn (textF t); (with_reducible refine (HK1.out _ ?_).mono ?_); assumption; rintro e w1 ⟨rfl, hk, hq, hz⟩; (try have hy := lt_alloc hz)))
  all_goals
    go_wp2
    go_ret
    exact ⟨by rw [← HE.out]; rfl, by first | exact hk.2.2 | exact hk.2.2.alloc hk.2.2.size _⟩

set_option maxRecDepth 100000 in
set_option maxHeartbeats 8000000 in
theorem text_pair (c : UInt8) (l r : Tm) (w : World) (hnl : (tmText l).length ≤ 1000) (hnr : (tmText r).length ≤ 1000) (ihl : ∀ w, Calls Try.prog (textF l) #[tmRecv l] w fun e w' => e = .returned (.string (tmS l)) ∧ Below w.heap.size w w')
    (ihr : ∀ w, Calls Try.prog (textF r) #[tmRecv r] w fun e w' => e = .returned (.string (tmS r)) ∧ Below w.heap.size w w') :
    Calls Try.prog 195 #[tmRecv (.pair l c r)] w fun e w' => e = .returned (.string (tmS (.pair l c r))) ∧ Below w.heap.size w w' := by
  have hsl : (tmS l).size ≤ 1000 := by rw [tmS_size]; exact hnl
  have hsr : (tmS r).size ≤ 1000 := by rw [tmS_size]; exact hnr
  have hE := text_pair_eq l r c
  obtain ⟨L, hL⟩ : ∃ S, S = tmS l := ⟨_, rfl⟩
  obtain ⟨R, hR⟩ : ∃ S, S = tmS r := ⟨_, rfl⟩
  rw [← hL] at hsl hE ihl
  rw [← hR] at hsr hE ihr
  clear hL hR
  have HE := Lib.hid hE
  clear hE
  show Calls Try.prog 195 #[.agg #[.iface (tmTy l) (tmRecv l), .int .u8 c.toNat, .iface (tmTy r) (tmRecv r)]] w _
  have hml := method_text l
  have hmr := method_text r
  have hel := text_enters l
  have her := text_enters r
  have hc := fun W g => conv_byte W g c
  have z40 : (⟨#[40]⟩ : ByteArray).size = 1 := rfl
  have zc : (⟨#[c]⟩ : ByteArray).size = 1 := rfl
  have z41 : (⟨#[41]⟩ : ByteArray).size = 1 := rfl
  have s0 : ¬ 9223372036854775807 < 1 + L.size := by omega
  have s1 : ¬ 9223372036854775807 < 1 + L.size + 1 := by omega
  have s2 : ¬ 9223372036854775807 < 1 + L.size + 1 + R.size := by omega
  have s3 : ¬ 9223372036854775807 < 1 + L.size + 1 + R.size + 1 := by omega
  have keepA : ∀ (W : World) (o : Obj), (W.cell? ⟨w.heap.size, 0, none⟩ = some (.iface (tmTy l) (tmRecv l)) ∧ W.cell? ⟨w.heap.size, 1, none⟩ = some (.int .u8 c.toNat) ∧ W.cell? ⟨w.heap.size, 2, none⟩ = some (.iface (tmTy r) (tmRecv r)) ∧ Below w.heap.size w W) → ((W.alloc o).cell? ⟨w.heap.size, 0, none⟩ = some (.iface (tmTy l) (tmRecv l)) ∧ (W.alloc o).cell? ⟨w.heap.size, 1, none⟩ = some (.int .u8 c.toNat) ∧ (W.alloc o).cell? ⟨w.heap.size, 2, none⟩ = some (.iface (tmTy r) (tmRecv r)) ∧ Below w.heap.size w (W.alloc o)) :=
    fun W o h => ⟨(World.cell?_alloc_some _ _ _ (by rw [h.1]; rfl)).trans h.1, (World.cell?_alloc_some _ _ _ (by rw [h.2.1]; rfl)).trans h.2.1, (World.cell?_alloc_some _ _ _ (by rw [h.2.2.1]; rfl)).trans h.2.2.1, h.2.2.2.alloc h.2.2.2.size _⟩
  have keepB : ∀ (W1 w1 : World), Below W1.heap.size W1 w1 → (W1.cell? ⟨w.heap.size, 0, none⟩ = some (.iface (tmTy l) (tmRecv l)) ∧ W1.cell? ⟨w.heap.size, 1, none⟩ = some (.int .u8 c.toNat) ∧ W1.cell? ⟨w.heap.size, 2, none⟩ = some (.iface (tmTy r) (tmRecv r)) ∧ Below w.heap.size w W1) → ((w1.cell? ⟨w.heap.size, 0, none⟩ = some (.iface (tmTy l) (tmRecv l)) ∧ w1.cell? ⟨w.heap.size, 1, none⟩ = some (.int .u8 c.toNat) ∧ w1.cell? ⟨w.heap.size, 2, none⟩ = some (.iface (tmTy r) (tmRecv r)) ∧ Below w.heap.size w w1) ∧ (∀ p : Addr, p.block < W1.heap.size → w1.cell? p = W1.cell? p) ∧ W1.heap.size ≤ w1.heap.size) :=
    fun W1 w1 hb h => ⟨⟨(hb.cell (p := ⟨w.heap.size, 0, none⟩) (lt_of_some h.1)).trans h.1, (hb.cell (p := ⟨w.heap.size, 1, none⟩) (lt_of_some h.2.1)).trans h.2.1, (hb.cell (p := ⟨w.heap.size, 2, none⟩) (lt_of_some h.2.2.1)).trans h.2.2.1, h.2.2.2.trans (hb.mono h.2.2.2.size)⟩, fun p hp => hb.cell hp, hb.size⟩
  have K1 : ∀ W1 : World, (W1.cell? ⟨w.heap.size, 0, none⟩ = some (.iface (tmTy l) (tmRecv l)) ∧ W1.cell? ⟨w.heap.size, 1, none⟩ = some (.int .u8 c.toNat) ∧ W1.cell? ⟨w.heap.size, 2, none⟩ = some (.iface (tmTy r) (tmRecv r)) ∧ Below w.heap.size w W1) → Calls Try.prog (textF l) #[tmRecv l] W1 fun e w1 => e = .returned (.string L) ∧ (w1.cell? ⟨w.heap.size, 0, none⟩ = some (.iface (tmTy l) (tmRecv l)) ∧ w1.cell? ⟨w.heap.size, 1, none⟩ = some (.int .u8 c.toNat) ∧ w1.cell? ⟨w.heap.size, 2, none⟩ = some (.iface (tmTy r) (tmRecv r)) ∧ Below w.heap.size w w1) ∧ (∀ p : Addr, p.block < W1.heap.size → w1.cell? p = W1.cell? p) ∧ W1.heap.size ≤ w1.heap.size :=
    fun W1 h => (ihl W1).mono fun e w1 ⟨he, hb⟩ => ⟨he, keepB _ _ hb h⟩
  have K2 : ∀ W1 : World, (W1.cell? ⟨w.heap.size, 0, none⟩ = some (.iface (tmTy l) (tmRecv l)) ∧ W1.cell? ⟨w.heap.size, 1, none⟩ = some (.int .u8 c.toNat) ∧ W1.cell? ⟨w.heap.size, 2, none⟩ = some (.iface (tmTy r) (tmRecv r)) ∧ Below w.heap.size w W1) → Calls Try.prog (textF r) #[tmRecv r] W1 fun e w1 => e = .returned (.string R) ∧ (w1.cell? ⟨w.heap.size, 0, none⟩ = some (.iface (tmTy l) (tmRecv l)) ∧ w1.cell? ⟨w.heap.size, 1, none⟩ = some (.int .u8 c.toNat) ∧ w1.cell? ⟨w.heap.size, 2, none⟩ = some (.iface (tmTy r) (tmRecv r)) ∧ Below w.heap.size w w1) ∧ (∀ p : Addr, p.block < W1.heap.size → w1.cell? p = W1.cell? p) ∧ W1.heap.size ≤ w1.heap.size :=
    fun W1 h => (ihr W1).mono fun e w1 ⟨he, hb⟩ => ⟨he, keepB _ _ hb h⟩
  have HK1 := Lib.hid K1
  have HK2 := Lib.hid K2
  have HA := Lib.hid keepA
  have HSD : (w.alloc (.cells #[.iface (tmTy l) (tmRecv l), .int .u8 c.toNat, .iface (tmTy r) (tmRecv r)] 151)).drew.cell? ⟨w.heap.size, 0, none⟩ = some (.iface (tmTy l) (tmRecv l)) ∧ (w.alloc (.cells #[.iface (tmTy l) (tmRecv l), .int .u8 c.toNat, .iface (tmTy r) (tmRecv r)] 151)).drew.cell? ⟨w.heap.size, 1, none⟩ = some (.int .u8 c.toNat) ∧ (w.alloc (.cells #[.iface (tmTy l) (tmRecv l), .int .u8 c.toNat, .iface (tmTy r) (tmRecv r)] 151)).drew.cell? ⟨w.heap.size, 2, none⟩ = some (.iface (tmTy r) (tmRecv r)) ∧ Below w.heap.size w (w.alloc (.cells #[.iface (tmTy l) (tmRecv l), .int .u8 c.toNat, .iface (tmTy r) (tmRecv r)] 151)).drew := by
    exact ⟨by rw [World.cell?_drew, World.cell?_alloc_at _ _ _ _ rfl]; rfl, by rw [World.cell?_drew, World.cell?_alloc_at _ _ _ _ rfl]; rfl, by rw [World.cell?_drew, World.cell?_alloc_at _ _ _ _ rfl]; rfl, ((Below.refl _ _).alloc (Nat.le_refl _) _).drew⟩
  clear K1 K2 keepA keepB ihl ihr
  go_enter Try.func195, Try.ntmps195
  go_wp2_with fail
  go_region_held (fun w' => w'.cell? ⟨w.heap.size, 0, none⟩ = some (.iface (tmTy l) (tmRecv l)) ∧ w'.cell? ⟨w.heap.size, 1, none⟩ = some (.int .u8 c.toNat) ∧ w'.cell? ⟨w.heap.size, 2, none⟩ = some (.iface (tmTy r) (tmRecv r)) ∧ Below w.heap.size w w') (first | assumption | exact HA.out _ _ (by assumption))
    (first
      | (go_at_fn (textF l); (with_reducible refine (HK1.out _ ?_).mono ?_); assumption; rintro e w1 ⟨rfl, hk1, hq1, hz1⟩; (try have hy1 : w.heap.size + 1 < w1.heap.size := (by have hy := lt_alloc hz1; simpa using hy)))
      | (go_at_fn (textF r); (with_reducible refine (HK2.out _ ?_).mono ?_); assumption; rintro e w2 ⟨rfl, hk2, hq2, hz2⟩; (try have hy2 := lt_alloc hz2)))
  all_goals
    go_wp2
    go_ret
    exact ⟨by rw [← HE.out]; rfl, by first | exact hk2.2.2.2 | exact hk2.2.2.2.alloc hk2.2.2.2.size _⟩

/-- The walk of the method that writes a term, whatever the term. -/
theorem termText_any : ∀ (t : Tm) (w : World), (tmText t).length ≤ 1000 → Calls Try.prog (textF t) #[tmRecv t] w fun e w' => e = .returned (.string (tmS t)) ∧ Below w.heap.size w w' := by
  intro t
  induction t with
  | sign c => intro w _; exact text_sign c w
  | star t ih => intro w h; simp [tmText] at h; exact text_star t w (by omega) (fun w => ih w (by omega))
  | times d t ih => intro w h; simp [tmText] at h; exact text_times d t w (by omega) (fun w => ih w (by omega))
  | pair l c r ihl ihr => intro w h; simp [tmText] at h; exact text_pair c l r w (by omega) (by omega) (fun w => ihl w (by omega)) (fun w => ihr w (by omega))

end Go.Proofs.Ytiphooodijbhiaa
