/-
  The walks of the methods that find the first numbers of a term.
-/
import Derived.Test.YtiphooodijbhiaaTermSignI
import Derived.Test.YtiphooodijbhiaaStarOfI
import Derived.Shelf.Abstract
import Derived.Deep.RegionHeld
set_option linter.unusedVariables false
set_option linter.unusedSimpArgs false
namespace Go.Proofs.Ytiphooodijbhiaa
open Go.RowKit

/-- The method that finds the first numbers of a term. -/
def firstF : Tm → Nat
  | .sign _ => 199
  | .star _ => 174
  | .times _ _ => 186
  | .pair _ _ _ => 193
theorem method_first (t : Tm) (w : World) : (method 305 (tmTy t) (tmRecv t) "loop.example/oneletter/impl.first").run Try.prog w = .ok (firstF t, tmRecv t) w := by
  cases t <;> kernel_rfl
theorem first_enters (t : Tm) : ∀ (args : Array Value) (w : World), (callFunc (firstF t) args).run Try.prog w = .ok (.enter (firstF t) args) w := by
  cases t
  · exact enters_of Try.func199 (by kernel_rfl) rfl
  · exact enters_of Try.func174 (by kernel_rfl) rfl
  · exact enters_of Try.func186 (by kernel_rfl) rfl
  · exact enters_of Try.func193 (by kernel_rfl) rfl
/-- What is answered where the first numbers of a set are found. -/
def FirstEnd (f : Nat → Bool) (w : World) (e : Ending) (w' : World) : Prop :=
  (∃ G o M, e = .returned (.slice (some ⟨G, o, none⟩) (201 : Nat) (201 : Nat)) ∧ w.heap.size ≤ G ∧ NumAt w' G o 201 M f) ∧ Below w.heap.size w w'

theorem one_tells {c : UInt8} (h : isOne c = true) {T R : ByteArray} (hs : IsSplit (signT c) T R) : Tells (oneF c) T R := by
  have ht := signT_tells h
  have he : fS (signT c) = oneF c := ht.told.set
  rw [← he] at ht
  obtain ⟨h1, h2⟩ := split_parts ht hs
  rw [he] at h1 h2
  have h3 : T.size ≤ 8 ∧ R.size ≤ 8 := by
    rcases one_cases h with rfl | rfl | rfl
    · obtain ⟨e1, e2⟩ := tidy_unique h1 tidy_noneF; omega
    · rw [oneF_one] at h1; obtain ⟨e1, e2⟩ := tidy_unique h1 tidy_zeroOnly; omega
    · obtain ⟨e1, e2⟩ := tidy_unique h1 tidy_aOnly; omega
  exact (h2 h3.1 h3.2).parts

set_option maxRecDepth 100000 in
set_option maxHeartbeats 1000000 in
theorem first_sign (c : UInt8) (m : Int) (w : World) (ho : isOne c = true) (hL : LibAt m w) : Calls Try.prog 199 #[.int .u8 c.toNat] w (FirstEnd (oneF c) w) := by
  have HS := Lib.hid (fun w => set_sign c w ho)
  have HO := Lib.hid ho
  have HL := Lib.hid hL
  clear ho hL
  go_enter Try.func199, Try.ntmps199
  go_wp2_with fail
  refine (HS.out w).mono ?_
  rintro e w1 ⟨⟨U, b, rfl, rfl, rfl⟩, hb⟩
  have HB := Lib.hid hb
  clear hb
  go_wp2_with fail
  refine (split_on (signT c) m w1 (termText_size (t := .sign c) HO.out ⟨rfl, rfl⟩) (HL.out.below HB.out) (signT_tells HO.out).told.ok).mono ?_
  rintro e w2 ⟨T, R, rfl, hb2, hsp⟩
  have HT := Lib.hid (one_tells HO.out hsp)
  have HB2 := Lib.hid ((HB.out.trans (hb2.mono HB.out.size)).alloc (Nat.le_trans HB.out.size hb2.size) (.cells #[.string T, .string R] 84))
  clear hb2 hsp
  go_wp2_with fail
  refine (numbersOf_any (oneF c) T R 201 _ HT.out (by omega)).mono ?_
  rintro e w3 ⟨G, rfl, hG, hr, hb3⟩
  have HR := Lib.hid hr
  have HB3 := Lib.hid (HB2.out.trans (hb3.mono HB2.out.size))
  have HG := Lib.hid (Nat.le_trans HB2.out.size hG)
  clear hr hb3 hG
  go_wp2_with fail
  go_ret
  exact ⟨⟨G, 0, 201, rfl, HG.out, HR.out.num⟩, HB3.out⟩

set_option maxRecDepth 100000 in
set_option maxHeartbeats 1000000 in
theorem first_star (t : Tm) (m : Int) (w : World) (hL : LibAt m w) (ih : ∀ w, LibAt m w → Calls Try.prog (firstF t) #[tmRecv t] w (FirstEnd (tmF t) w)) :
    Calls Try.prog 174 #[tmRecv (.star t)] w (FirstEnd (starB (tmF t)) w) := by
  have HI := Lib.hid ih
  have HL := Lib.hid hL
  clear ih hL
  have hm := method_first t
  have he := first_enters t
  show Calls Try.prog 174 #[.agg #[.iface (tmTy t) (tmRecv t)]] w _
  go_enter Try.func174, Try.ntmps174
  go_wp2_with (go_at_fn (firstF t); refine (HI.out _ (HL.out.alloc _)).mono ?_; rintro e w1 ⟨⟨G, o, M, rfl, hG, hN⟩, hb⟩; have HN := Lib.hid hN; have HB := Lib.hid (((Below.refl w.heap.size w).alloc (Nat.le_refl _) _).trans (hb.mono (by simp))); clear hG hN hb)
  refine (star_call G o 201 M 201 (tmF t) w1 HN.out (by omega) (by omega)).mono ?_
  rintro e w2 ⟨G2, a, c, rfl, hr, _, hG2, hb2⟩
  have HR := Lib.hid hr
  have HB2 := Lib.hid (HB.out.trans (hb2.mono HB.out.size))
  have HG2 := Lib.hid (Nat.le_trans HB.out.size hG2)
  clear hr hb2 hG2
  go_wp2_with fail
  go_ret
  refine ⟨⟨G2, 201, 402, rfl, HG2.out, starRowN 201 (tmF t) 201, HR.out, by omega, fun n hn => ?_⟩, HB2.out⟩
  unfold starRowN behind
  rw [decide_eq_true (by omega), Bool.true_and, show 201 + n - 201 = n from by omega, starB_less hn]

/-- The world of the loop that sums a set again and again. -/
structure TimesLoop (f : Nat → Bool) (G1 o1 M1 k : Nat) (v : Value) (w wr : World) : Prop where
  one : NumAt wr G1 o1 201 M1 f
  sum : ∃ G o M, v = .slice (some ⟨G, o, none⟩) (201 : Nat) (201 : Nat) ∧ w.heap.size ≤ G ∧ NumAt wr G o 201 M (sumK f k)
  below : Below w.heap.size w wr
set_option maxRecDepth 100000 in
set_option maxHeartbeats 2000000 in
theorem first_times (d : UInt8) (t : Tm) (m : Int) (w : World) (hd : isDig d = true) (hL : LibAt m w) (ih : ∀ w, LibAt m w → Calls Try.prog (firstF t) #[tmRecv t] w (FirstEnd (tmF t) w)) :
    Calls Try.prog 186 #[tmRecv (.times d t)] w (FirstEnd (sumK (tmF t) (d.toNat - 49)) w) := by
  have HI := Lib.hid ih
  have HL := Lib.hid hL
  have HD := Lib.hid hd
  obtain ⟨K, hK⟩ : ∃ K, K = d.toNat - 49 := ⟨_, rfl⟩
  have hKi : (d.toNat : Int) - 48 - 1 = (K : Int) := by rcases dig_cases hd with rfl | rfl | rfl | rfl <;> (subst hK; rfl)
  have hKl : K ≤ 4 := by rcases dig_cases hd with rfl | rfl | rfl | rfl <;> (subst hK; decide)
  obtain ⟨z, hz⟩ : ∃ z : Int, z = (d.toNat : Int) - 48 := ⟨_, rfl⟩
  have hzk : z = (K : Int) + 1 := by omega
  rw [← hK]
  have HV := Lib.hid (fun T v w => times_val d T v w hd)
  rw [← hz, hzk] at HV
  clear ih hL hd hK hKi hz hzk
  have hm := method_first t
  have he := first_enters t
  show Calls Try.prog 186 #[.agg #[.int .u8 d.toNat, .iface (tmTy t) (tmRecv t)]] w _
  go_enter Try.func186, Try.ntmps186
  go_wp2_with (go_at_fn (firstF t); refine (HI.out _ (HL.out.alloc _)).mono ?_; rintro e w1 ⟨⟨G, o, M, rfl, hG, hN⟩, hb⟩; have HN := Lib.hid hN; have HB := Lib.hid (((Below.refl w.heap.size w).alloc (Nat.le_refl _) _).trans (hb.mono (by simp))); have HG := Lib.hid (show w.heap.size ≤ G by simp at hG; omega); obtain ⟨d0, d1⟩ := box_later hb; clear hG hN hb)
  refine (HV.out _ _ w1).mono ?_
  rintro e w2 ⟨rfl, hb2⟩
  have HL0 : Hid (TimesLoop (tmF t) G o M 0 (.slice (some ⟨G, o, none⟩) (201 : Nat) (201 : Nat)) w w2) := Lib.hid ⟨HN.out.step hb2, ⟨G, o, M, rfl, HG.out, HN.out.step hb2⟩, HB.out.trans (hb2.mono HB.out.size)⟩
  clear hb2 d0 d1
  go_wp2
  go_loopw [4, 12] (fun v i wr => ∃ k : Nat, k ≤ K ∧ i = .int .i64 k ∧ TimesLoop (tmF t) G o M k v w wr) (fun _ i _ => K - (intOf i).toNat)
  case atStart => exact ⟨0, Nat.zero_le _, rfl, HL0.out⟩
  case round =>
    obtain ⟨k, hk, rfl, hl⟩ := hrel
    obtain ⟨G2, o2, M2, rfl, hG2, hN2⟩ := hl.sum
    have H1 := Lib.hid hl.one
    have H2 := Lib.hid hN2
    have HB2 := Lib.hid hl.below
    have HG2 := Lib.hid hG2
    clear hl hG2 hN2
    by_cases hlt : k < K
    · go_wp2_with fail
      refine (sumWith_any G2 o2 M2 201 G o M 201 201 (sumK (tmF t) k) (tmF t) wr H2.out H1.out (by omega) (by omega)).mono ?_
      rintro e w3 ⟨G3, rfl, hG3, hr3, hb3⟩
      have HX : Hid (TimesLoop (tmF t) G o M (k + 1) (.slice (some ⟨G3, 0, none⟩) (201 : Nat) (201 : Nat)) w w3) := Lib.hid ⟨H1.out.step hb3, ⟨G3, 0, 201, rfl, Nat.le_trans HB2.out.size hG3, hr3.num⟩, HB2.out.trans (hb3.mono HB2.out.size)⟩
      clear hG3 hr3 hb3
      go_wp2
      go_roundw
      case rel => exact ⟨k + 1, by omega, by go_num, HX.out⟩
      case measure => simp [intOf]; omega
    · obtain rfl : k = K := by omega
      go_wp2
      go_ret
      exact ⟨⟨G2, o2, M2, rfl, HG2.out, H2.out⟩, HB2.out⟩

set_option maxRecDepth 100000 in
set_option maxHeartbeats 4000000 in
theorem first_pair46 (l r : Tm) (m : Int) (w : World) (hL : LibAt m w) (ihl : ∀ w, LibAt m w → Calls Try.prog (firstF l) #[tmRecv l] w (FirstEnd (tmF l) w)) (ihr : ∀ w, LibAt m w → Calls Try.prog (firstF r) #[tmRecv r] w (FirstEnd (tmF r) w)) :
    Calls Try.prog 193 #[tmRecv (.pair l 46 r)] w (FirstEnd (midF 46 (tmF l) (tmF r)) w) := by
  have keepB : ∀ W1 w1 : World, Below W1.heap.size W1 w1 → (W1.cell? ⟨w.heap.size, 0, none⟩ = some (.iface (tmTy l) (tmRecv l)) ∧ W1.cell? ⟨w.heap.size, 1, none⟩ = some (.int .u8 46) ∧ W1.cell? ⟨w.heap.size, 2, none⟩ = some (.iface (tmTy r) (tmRecv r)) ∧ Below w.heap.size w W1) → (w1.cell? ⟨w.heap.size, 0, none⟩ = some (.iface (tmTy l) (tmRecv l)) ∧ w1.cell? ⟨w.heap.size, 1, none⟩ = some (.int .u8 46) ∧ w1.cell? ⟨w.heap.size, 2, none⟩ = some (.iface (tmTy r) (tmRecv r)) ∧ Below w.heap.size w w1) :=
    fun W1 w1 hb h => ⟨(hb.cell (p := ⟨w.heap.size, 0, none⟩) (lt_of_some h.1)).trans h.1, (hb.cell (p := ⟨w.heap.size, 1, none⟩) (lt_of_some h.2.1)).trans h.2.1, (hb.cell (p := ⟨w.heap.size, 2, none⟩) (lt_of_some h.2.2.1)).trans h.2.2.1, h.2.2.2.trans (hb.mono h.2.2.2.size)⟩
  have K1 : Hid (∀ W1 : World, (W1.cell? ⟨w.heap.size, 0, none⟩ = some (.iface (tmTy l) (tmRecv l)) ∧ W1.cell? ⟨w.heap.size, 1, none⟩ = some (.int .u8 46) ∧ W1.cell? ⟨w.heap.size, 2, none⟩ = some (.iface (tmTy r) (tmRecv r)) ∧ Below w.heap.size w W1) → Calls Try.prog (firstF l) #[tmRecv l] W1 fun e w' => (∃ G o M, e = .returned (.slice (some ⟨G, o, none⟩) (201 : Nat) (201 : Nat)) ∧ W1.heap.size ≤ G ∧ NumAt w' G o 201 M (tmF l)) ∧ (w'.cell? ⟨w.heap.size, 0, none⟩ = some (.iface (tmTy l) (tmRecv l)) ∧ w'.cell? ⟨w.heap.size, 1, none⟩ = some (.int .u8 46) ∧ w'.cell? ⟨w.heap.size, 2, none⟩ = some (.iface (tmTy r) (tmRecv r)) ∧ Below w.heap.size w w') ∧ Below W1.heap.size W1 w') :=
    Lib.hid (fun W1 h => (ihl W1 (hL.below h.2.2.2)).mono fun e w' ⟨he, hb⟩ => ⟨he, keepB _ _ hb h, hb⟩)
  have K2 : Hid (∀ W1 : World, (W1.cell? ⟨w.heap.size, 0, none⟩ = some (.iface (tmTy l) (tmRecv l)) ∧ W1.cell? ⟨w.heap.size, 1, none⟩ = some (.int .u8 46) ∧ W1.cell? ⟨w.heap.size, 2, none⟩ = some (.iface (tmTy r) (tmRecv r)) ∧ Below w.heap.size w W1) → Calls Try.prog (firstF r) #[tmRecv r] W1 fun e w' => (∃ G o M, e = .returned (.slice (some ⟨G, o, none⟩) (201 : Nat) (201 : Nat)) ∧ W1.heap.size ≤ G ∧ NumAt w' G o 201 M (tmF r)) ∧ (w'.cell? ⟨w.heap.size, 0, none⟩ = some (.iface (tmTy l) (tmRecv l)) ∧ w'.cell? ⟨w.heap.size, 1, none⟩ = some (.int .u8 46) ∧ w'.cell? ⟨w.heap.size, 2, none⟩ = some (.iface (tmTy r) (tmRecv r)) ∧ Below w.heap.size w w') ∧ Below W1.heap.size W1 w') :=
    Lib.hid (fun W1 h => (ihr W1 (hL.below h.2.2.2)).mono fun e w' ⟨he, hb⟩ => ⟨he, keepB _ _ hb h, hb⟩)
  have HSD : (w.alloc (.cells #[.iface (tmTy l) (tmRecv l), .int .u8 46, .iface (tmTy r) (tmRecv r)] 151)).drew.cell? ⟨w.heap.size, 0, none⟩ = some (.iface (tmTy l) (tmRecv l)) ∧ (w.alloc (.cells #[.iface (tmTy l) (tmRecv l), .int .u8 46, .iface (tmTy r) (tmRecv r)] 151)).drew.cell? ⟨w.heap.size, 1, none⟩ = some (.int .u8 46) ∧ (w.alloc (.cells #[.iface (tmTy l) (tmRecv l), .int .u8 46, .iface (tmTy r) (tmRecv r)] 151)).drew.cell? ⟨w.heap.size, 2, none⟩ = some (.iface (tmTy r) (tmRecv r)) ∧ Below w.heap.size w (w.alloc (.cells #[.iface (tmTy l) (tmRecv l), .int .u8 46, .iface (tmTy r) (tmRecv r)] 151)).drew := ⟨by rw [World.cell?_drew, World.cell?_alloc_at _ _ _ _ rfl]; rfl, by rw [World.cell?_drew, World.cell?_alloc_at _ _ _ _ rfl]; rfl, by rw [World.cell?_drew, World.cell?_alloc_at _ _ _ _ rfl]; rfl, ((Below.refl _ _).alloc (Nat.le_refl _) _).drew⟩
  have hml := method_first l
  have hel := first_enters l
  have hmr := method_first r
  have her := first_enters r
  generalize tmF l = f at *
  generalize tmF r = g at *
  clear keepB ihl ihr hL
  show Calls Try.prog 193 #[.agg #[.iface (tmTy l) (tmRecv l), .int .u8 46, .iface (tmTy r) (tmRecv r)]] w _
  go_enter Try.func193, Try.ntmps193
  go_wp2_with fail
  go_region_held (fun w' => w'.cell? ⟨w.heap.size, 0, none⟩ = some (.iface (tmTy l) (tmRecv l)) ∧ w'.cell? ⟨w.heap.size, 1, none⟩ = some (.int .u8 46) ∧ w'.cell? ⟨w.heap.size, 2, none⟩ = some (.iface (tmTy r) (tmRecv r)) ∧ Below w.heap.size w w') (first | assumption | exact ⟨by assumption, by assumption, by assumption, by assumption⟩)
    (first
      | (go_at_fn (firstF l); (with_reducible refine (K1.out _ ?_).mono ?_); assumption; rintro e w5 ⟨⟨G1, o1, M1, rfl, hG1, hN1⟩, hk5, hb5⟩)
      | (go_at_fn (firstF r); (with_reducible refine (K2.out _ ?_).mono ?_); assumption; rintro e w6 ⟨⟨G2, o2, M2, rfl, hG2, hN2⟩, hk6, hb6⟩))
  have hne : G1 ≠ G2 := by have := hN1.lt; omega
  have HG1 : Hid (w.heap.size ≤ G1) := Lib.hid (by simp at hG1; omega)
  have HN1 := Lib.hid (hN1.step hb6)
  have HN2 := Lib.hid hN2
  have HK := Lib.hid hk6
  have f1 := hk6.2.1
  clear hN1 hN2 hk5 hk6 hb5 hb6 hG1 hG2 HSD K1 K2
  go_wp2_with fail
  refine (sumWith_any G1 o1 M1 201 G2 o2 M2 201 201 f g w6 HN1.out HN2.out (by omega) (by omega)).mono ?_
  rintro e w7 ⟨G3, rfl, hG3, hr3, hb3⟩
  have HR := Lib.hid hr3
  have HB := Lib.hid (HK.out.2.2.2.trans (hb3.mono HK.out.2.2.2.size))
  have HG3 := Lib.hid (Nat.le_trans HK.out.2.2.2.size hG3)
  clear hr3 hb3 hG3 f1
  go_wp2_with fail
  go_ret
  exact ⟨⟨G3, 0, 201, rfl, HG3.out, HR.out.num⟩, HB.out⟩
theorem add_num {w : World} {G1 o1 M1 G2 o2 M2 : Nat} {f g : Nat → Bool} (h1 : NumAt w G1 o1 201 M1 f) (h2 : NumAt w G2 o2 201 M2 g) (hne : G1 ≠ G2) :
    Calls Try.prog 182 #[.slice (some ⟨G1, o1, none⟩) (201 : Nat) (201 : Nat), .slice (some ⟨G2, o2, none⟩) (201 : Nat) (201 : Nat)] w fun e w' =>
      e = .returned (.tuple #[]) ∧ NumAt w' G1 o1 201 M1 (fun n => f n || g n) ∧ Else G1 w w' := by
  obtain ⟨F, q1, q2, q3⟩ := h1
  refine (add_any G1 o1 G2 o2 201 M1 201 201 F (fun j => if o1 ≤ j then (F j || g (j - o1)) else F j) g w q1 q2 (by decide) (fun j hj => by rw [if_neg (by omega)]) (fun i hi => by rw [if_pos (by omega), Nat.add_sub_cancel_left]) (fun k w' hk _ he => (h2.else he (Ne.symm hne)).cell hk)).mono ?_
  rintro e w' ⟨rfl, hr, he⟩
  refine ⟨rfl, ⟨_, hr, q2, fun n hn => ?_⟩, he⟩
  unfold mix
  rw [if_pos (by omega)]
  show (if o1 ≤ o1 + n then _ else _) = _
  rw [if_pos (by omega), Nat.add_sub_cancel_left, q3 n hn]
set_option maxRecDepth 100000 in
set_option maxHeartbeats 4000000 in
theorem first_pair43 (l r : Tm) (m : Int) (w : World) (hL : LibAt m w) (ihl : ∀ w, LibAt m w → Calls Try.prog (firstF l) #[tmRecv l] w (FirstEnd (tmF l) w)) (ihr : ∀ w, LibAt m w → Calls Try.prog (firstF r) #[tmRecv r] w (FirstEnd (tmF r) w)) :
    Calls Try.prog 193 #[tmRecv (.pair l 43 r)] w (FirstEnd (midF 43 (tmF l) (tmF r)) w) := by
  have keepB : ∀ W1 w1 : World, Below W1.heap.size W1 w1 → (W1.cell? ⟨w.heap.size, 0, none⟩ = some (.iface (tmTy l) (tmRecv l)) ∧ W1.cell? ⟨w.heap.size, 1, none⟩ = some (.int .u8 43) ∧ W1.cell? ⟨w.heap.size, 2, none⟩ = some (.iface (tmTy r) (tmRecv r)) ∧ Below w.heap.size w W1) → (w1.cell? ⟨w.heap.size, 0, none⟩ = some (.iface (tmTy l) (tmRecv l)) ∧ w1.cell? ⟨w.heap.size, 1, none⟩ = some (.int .u8 43) ∧ w1.cell? ⟨w.heap.size, 2, none⟩ = some (.iface (tmTy r) (tmRecv r)) ∧ Below w.heap.size w w1) :=
    fun W1 w1 hb h => ⟨(hb.cell (p := ⟨w.heap.size, 0, none⟩) (lt_of_some h.1)).trans h.1, (hb.cell (p := ⟨w.heap.size, 1, none⟩) (lt_of_some h.2.1)).trans h.2.1, (hb.cell (p := ⟨w.heap.size, 2, none⟩) (lt_of_some h.2.2.1)).trans h.2.2.1, h.2.2.2.trans (hb.mono h.2.2.2.size)⟩
  have K1 : Hid (∀ W1 : World, (W1.cell? ⟨w.heap.size, 0, none⟩ = some (.iface (tmTy l) (tmRecv l)) ∧ W1.cell? ⟨w.heap.size, 1, none⟩ = some (.int .u8 43) ∧ W1.cell? ⟨w.heap.size, 2, none⟩ = some (.iface (tmTy r) (tmRecv r)) ∧ Below w.heap.size w W1) → Calls Try.prog (firstF l) #[tmRecv l] W1 fun e w' => (∃ G o M, e = .returned (.slice (some ⟨G, o, none⟩) (201 : Nat) (201 : Nat)) ∧ W1.heap.size ≤ G ∧ NumAt w' G o 201 M (tmF l)) ∧ (w'.cell? ⟨w.heap.size, 0, none⟩ = some (.iface (tmTy l) (tmRecv l)) ∧ w'.cell? ⟨w.heap.size, 1, none⟩ = some (.int .u8 43) ∧ w'.cell? ⟨w.heap.size, 2, none⟩ = some (.iface (tmTy r) (tmRecv r)) ∧ Below w.heap.size w w') ∧ Below W1.heap.size W1 w') :=
    Lib.hid (fun W1 h => (ihl W1 (hL.below h.2.2.2)).mono fun e w' ⟨he, hb⟩ => ⟨he, keepB _ _ hb h, hb⟩)
  have K2 : Hid (∀ W1 : World, (W1.cell? ⟨w.heap.size, 0, none⟩ = some (.iface (tmTy l) (tmRecv l)) ∧ W1.cell? ⟨w.heap.size, 1, none⟩ = some (.int .u8 43) ∧ W1.cell? ⟨w.heap.size, 2, none⟩ = some (.iface (tmTy r) (tmRecv r)) ∧ Below w.heap.size w W1) → Calls Try.prog (firstF r) #[tmRecv r] W1 fun e w' => (∃ G o M, e = .returned (.slice (some ⟨G, o, none⟩) (201 : Nat) (201 : Nat)) ∧ W1.heap.size ≤ G ∧ NumAt w' G o 201 M (tmF r)) ∧ (w'.cell? ⟨w.heap.size, 0, none⟩ = some (.iface (tmTy l) (tmRecv l)) ∧ w'.cell? ⟨w.heap.size, 1, none⟩ = some (.int .u8 43) ∧ w'.cell? ⟨w.heap.size, 2, none⟩ = some (.iface (tmTy r) (tmRecv r)) ∧ Below w.heap.size w w') ∧ Below W1.heap.size W1 w') :=
    Lib.hid (fun W1 h => (ihr W1 (hL.below h.2.2.2)).mono fun e w' ⟨he, hb⟩ => ⟨he, keepB _ _ hb h, hb⟩)
  have HSD : (w.alloc (.cells #[.iface (tmTy l) (tmRecv l), .int .u8 43, .iface (tmTy r) (tmRecv r)] 151)).drew.cell? ⟨w.heap.size, 0, none⟩ = some (.iface (tmTy l) (tmRecv l)) ∧ (w.alloc (.cells #[.iface (tmTy l) (tmRecv l), .int .u8 43, .iface (tmTy r) (tmRecv r)] 151)).drew.cell? ⟨w.heap.size, 1, none⟩ = some (.int .u8 43) ∧ (w.alloc (.cells #[.iface (tmTy l) (tmRecv l), .int .u8 43, .iface (tmTy r) (tmRecv r)] 151)).drew.cell? ⟨w.heap.size, 2, none⟩ = some (.iface (tmTy r) (tmRecv r)) ∧ Below w.heap.size w (w.alloc (.cells #[.iface (tmTy l) (tmRecv l), .int .u8 43, .iface (tmTy r) (tmRecv r)] 151)).drew := ⟨by rw [World.cell?_drew, World.cell?_alloc_at _ _ _ _ rfl]; rfl, by rw [World.cell?_drew, World.cell?_alloc_at _ _ _ _ rfl]; rfl, by rw [World.cell?_drew, World.cell?_alloc_at _ _ _ _ rfl]; rfl, ((Below.refl _ _).alloc (Nat.le_refl _) _).drew⟩
  have hml := method_first l
  have hel := first_enters l
  have hmr := method_first r
  have her := first_enters r
  generalize tmF l = f at *
  generalize tmF r = g at *
  clear keepB ihl ihr hL
  show Calls Try.prog 193 #[.agg #[.iface (tmTy l) (tmRecv l), .int .u8 43, .iface (tmTy r) (tmRecv r)]] w _
  go_enter Try.func193, Try.ntmps193
  go_wp2_with fail
  go_region_held (fun w' => w'.cell? ⟨w.heap.size, 0, none⟩ = some (.iface (tmTy l) (tmRecv l)) ∧ w'.cell? ⟨w.heap.size, 1, none⟩ = some (.int .u8 43) ∧ w'.cell? ⟨w.heap.size, 2, none⟩ = some (.iface (tmTy r) (tmRecv r)) ∧ Below w.heap.size w w') (first | assumption | exact ⟨by assumption, by assumption, by assumption, by assumption⟩)
    (first
      | (go_at_fn (firstF l); (with_reducible refine (K1.out _ ?_).mono ?_); assumption; rintro e w5 ⟨⟨G1, o1, M1, rfl, hG1, hN1⟩, hk5, hb5⟩)
      | (go_at_fn (firstF r); (with_reducible refine (K2.out _ ?_).mono ?_); assumption; rintro e w6 ⟨⟨G2, o2, M2, rfl, hG2, hN2⟩, hk6, hb6⟩))
  have hne : G1 ≠ G2 := by have := hN1.lt; omega
  have HG1 : Hid (w.heap.size ≤ G1) := Lib.hid (by simp at hG1; omega)
  have HN1 := Lib.hid (hN1.step hb6)
  have HN2 := Lib.hid hN2
  have HK := Lib.hid hk6
  have f1 := hk6.2.1
  clear hN1 hN2 hk5 hk6 hb5 hb6 hG1 hG2 HSD K1 K2
  go_wp2_with fail
  refine (add_num HN1.out HN2.out hne).mono ?_
  rintro e w7 ⟨rfl, hN7, he7⟩
  have HN7 := Lib.hid hN7
  have HB := Lib.hid (he7.below HK.out.2.2.2 HG1.out HN1.out.lt)
  clear hN7 he7 f1
  go_wp2_with fail
  go_ret
  exact ⟨⟨G1, o1, M1, rfl, HG1.out, HN7.out⟩, HB.out⟩
/-- The world of the loop that takes away what the second set has not. -/
structure BothLoop (F : Nat → Bool) (g : Nat → Bool) (G1 o1 M1 G2 o2 M2 k : Nat) (w wr : World) : Prop where
  row : BRow wr G1 M1 (mix F (fun j => if o1 ≤ j then (F j && g (j - o1)) else F j) o1 k)
  more : NumAt wr G2 o2 201 M2 g
  ne : G1 ≠ G2
  le : w.heap.size ≤ G1
  below : Below w.heap.size w wr
theorem BothLoop.set {F g : Nat → Bool} {G1 o1 M1 G2 o2 M2 k : Nat} {w wr : World} (h : BothLoop F g G1 o1 M1 G2 o2 M2 k w wr) : BothLoop F g G1 o1 M1 G2 o2 M2 (k + 1) w (wr.setCell ⟨G1, o1 + k, none⟩ (.bool (F (o1 + k) && g k))) := by
  have e : (fun j => if o1 ≤ j then (F j && g (j - o1)) else F j) (o1 + k) = (F (o1 + k) && g k) := by show (if o1 ≤ o1 + k then _ else _) = _; rw [if_pos (by omega), Nat.add_sub_cancel_left]
  exact ⟨(h.row.put (o1 + k) _).congr fun j _ => mix_put _ e j, by obtain ⟨F2, q1, q2⟩ := h.more; exact ⟨F2, q1.other (by simpa using Ne.symm h.ne) _, q2⟩, h.ne, h.le, h.below.setCell h.le _⟩
theorem BothLoop.cell {F g : Nat → Bool} {G1 o1 M1 G2 o2 M2 k : Nat} {w wr : World} (h : BothLoop F g G1 o1 M1 G2 o2 M2 k w wr) (hk : o1 + k < M1) : wr.cell? ⟨G1, o1 + k, none⟩ = some (.bool (F (o1 + k))) := by
  rw [h.row.cell hk]; unfold mix; rw [if_neg (by omega)]
set_option maxRecDepth 100000 in
set_option maxHeartbeats 4000000 in
theorem first_pair38 (l r : Tm) (m : Int) (w : World) (hL : LibAt m w) (ihl : ∀ w, LibAt m w → Calls Try.prog (firstF l) #[tmRecv l] w (FirstEnd (tmF l) w)) (ihr : ∀ w, LibAt m w → Calls Try.prog (firstF r) #[tmRecv r] w (FirstEnd (tmF r) w)) :
    Calls Try.prog 193 #[tmRecv (.pair l 38 r)] w (FirstEnd (midF 38 (tmF l) (tmF r)) w) := by
  have keepB : ∀ W1 w1 : World, Below W1.heap.size W1 w1 → (W1.cell? ⟨w.heap.size, 0, none⟩ = some (.iface (tmTy l) (tmRecv l)) ∧ W1.cell? ⟨w.heap.size, 1, none⟩ = some (.int .u8 38) ∧ W1.cell? ⟨w.heap.size, 2, none⟩ = some (.iface (tmTy r) (tmRecv r)) ∧ Below w.heap.size w W1) → (w1.cell? ⟨w.heap.size, 0, none⟩ = some (.iface (tmTy l) (tmRecv l)) ∧ w1.cell? ⟨w.heap.size, 1, none⟩ = some (.int .u8 38) ∧ w1.cell? ⟨w.heap.size, 2, none⟩ = some (.iface (tmTy r) (tmRecv r)) ∧ Below w.heap.size w w1) :=
    fun W1 w1 hb h => ⟨(hb.cell (p := ⟨w.heap.size, 0, none⟩) (lt_of_some h.1)).trans h.1, (hb.cell (p := ⟨w.heap.size, 1, none⟩) (lt_of_some h.2.1)).trans h.2.1, (hb.cell (p := ⟨w.heap.size, 2, none⟩) (lt_of_some h.2.2.1)).trans h.2.2.1, h.2.2.2.trans (hb.mono h.2.2.2.size)⟩
  have K1 : Hid (∀ W1 : World, (W1.cell? ⟨w.heap.size, 0, none⟩ = some (.iface (tmTy l) (tmRecv l)) ∧ W1.cell? ⟨w.heap.size, 1, none⟩ = some (.int .u8 38) ∧ W1.cell? ⟨w.heap.size, 2, none⟩ = some (.iface (tmTy r) (tmRecv r)) ∧ Below w.heap.size w W1) → Calls Try.prog (firstF l) #[tmRecv l] W1 fun e w' => (∃ G o M, e = .returned (.slice (some ⟨G, o, none⟩) (201 : Nat) (201 : Nat)) ∧ W1.heap.size ≤ G ∧ NumAt w' G o 201 M (tmF l)) ∧ (w'.cell? ⟨w.heap.size, 0, none⟩ = some (.iface (tmTy l) (tmRecv l)) ∧ w'.cell? ⟨w.heap.size, 1, none⟩ = some (.int .u8 38) ∧ w'.cell? ⟨w.heap.size, 2, none⟩ = some (.iface (tmTy r) (tmRecv r)) ∧ Below w.heap.size w w') ∧ Below W1.heap.size W1 w') :=
    Lib.hid (fun W1 h => (ihl W1 (hL.below h.2.2.2)).mono fun e w' ⟨he, hb⟩ => ⟨he, keepB _ _ hb h, hb⟩)
  have K2 : Hid (∀ W1 : World, (W1.cell? ⟨w.heap.size, 0, none⟩ = some (.iface (tmTy l) (tmRecv l)) ∧ W1.cell? ⟨w.heap.size, 1, none⟩ = some (.int .u8 38) ∧ W1.cell? ⟨w.heap.size, 2, none⟩ = some (.iface (tmTy r) (tmRecv r)) ∧ Below w.heap.size w W1) → Calls Try.prog (firstF r) #[tmRecv r] W1 fun e w' => (∃ G o M, e = .returned (.slice (some ⟨G, o, none⟩) (201 : Nat) (201 : Nat)) ∧ W1.heap.size ≤ G ∧ NumAt w' G o 201 M (tmF r)) ∧ (w'.cell? ⟨w.heap.size, 0, none⟩ = some (.iface (tmTy l) (tmRecv l)) ∧ w'.cell? ⟨w.heap.size, 1, none⟩ = some (.int .u8 38) ∧ w'.cell? ⟨w.heap.size, 2, none⟩ = some (.iface (tmTy r) (tmRecv r)) ∧ Below w.heap.size w w') ∧ Below W1.heap.size W1 w') :=
    Lib.hid (fun W1 h => (ihr W1 (hL.below h.2.2.2)).mono fun e w' ⟨he, hb⟩ => ⟨he, keepB _ _ hb h, hb⟩)
  have HSD : (w.alloc (.cells #[.iface (tmTy l) (tmRecv l), .int .u8 38, .iface (tmTy r) (tmRecv r)] 151)).drew.cell? ⟨w.heap.size, 0, none⟩ = some (.iface (tmTy l) (tmRecv l)) ∧ (w.alloc (.cells #[.iface (tmTy l) (tmRecv l), .int .u8 38, .iface (tmTy r) (tmRecv r)] 151)).drew.cell? ⟨w.heap.size, 1, none⟩ = some (.int .u8 38) ∧ (w.alloc (.cells #[.iface (tmTy l) (tmRecv l), .int .u8 38, .iface (tmTy r) (tmRecv r)] 151)).drew.cell? ⟨w.heap.size, 2, none⟩ = some (.iface (tmTy r) (tmRecv r)) ∧ Below w.heap.size w (w.alloc (.cells #[.iface (tmTy l) (tmRecv l), .int .u8 38, .iface (tmTy r) (tmRecv r)] 151)).drew := ⟨by rw [World.cell?_drew, World.cell?_alloc_at _ _ _ _ rfl]; rfl, by rw [World.cell?_drew, World.cell?_alloc_at _ _ _ _ rfl]; rfl, by rw [World.cell?_drew, World.cell?_alloc_at _ _ _ _ rfl]; rfl, ((Below.refl _ _).alloc (Nat.le_refl _) _).drew⟩
  have hml := method_first l
  have hel := first_enters l
  have hmr := method_first r
  have her := first_enters r
  generalize tmF l = f at *
  generalize tmF r = g at *
  clear keepB ihl ihr hL
  show Calls Try.prog 193 #[.agg #[.iface (tmTy l) (tmRecv l), .int .u8 38, .iface (tmTy r) (tmRecv r)]] w _
  go_enter Try.func193, Try.ntmps193
  go_wp2_with fail
  go_region_held (fun w' => w'.cell? ⟨w.heap.size, 0, none⟩ = some (.iface (tmTy l) (tmRecv l)) ∧ w'.cell? ⟨w.heap.size, 1, none⟩ = some (.int .u8 38) ∧ w'.cell? ⟨w.heap.size, 2, none⟩ = some (.iface (tmTy r) (tmRecv r)) ∧ Below w.heap.size w w') (first | assumption | exact ⟨by assumption, by assumption, by assumption, by assumption⟩)
    (first
      | (go_at_fn (firstF l); (with_reducible refine (K1.out _ ?_).mono ?_); assumption; rintro e w5 ⟨⟨G1, o1, M1, rfl, hG1, hN1⟩, hk5, hb5⟩)
      | (go_at_fn (firstF r); (with_reducible refine (K2.out _ ?_).mono ?_); assumption; rintro e w6 ⟨⟨G2, o2, M2, rfl, hG2, hN2⟩, hk6, hb6⟩))
  have hne : G1 ≠ G2 := by have := hN1.lt; omega
  have HG1 : Hid (w.heap.size ≤ G1) := Lib.hid (by simp at hG1; omega)
  have HN1 := Lib.hid (hN1.step hb6)
  have HN2 := Lib.hid hN2
  have HK := Lib.hid hk6
  have f1 := hk6.2.1
  clear hN1 hN2 hk5 hk6 hb5 hb6 hG1 hG2 HSD K1 K2
  obtain ⟨F, q1, q2, q3⟩ := HN1.out
  have HL0 : Hid (BothLoop F g G1 o1 M1 G2 o2 M2 0 w w6) := Lib.hid ⟨q1.congr fun j _ => mix_zero (d := fun j => if o1 ≤ j then (F j && g (j - o1)) else F j) (fun j hj => if_neg (by omega)) j, HN2.out, hne, HG1.out, HK.out.2.2.2⟩
  have HQ := Lib.hid (And.intro q2 q3)
  clear q1 q2 q3
  clear f1
  go_wp2
  go_loopw [29] (fun i wr => ∃ k : Nat, k ≤ 201 ∧ i = .int .i64 k ∧ BothLoop F g G1 o1 M1 G2 o2 M2 k w wr) (fun i _ => 201 - (intOf i).toNat)
  case atStart => exact ⟨0, Nat.zero_le _, rfl, HL0.out⟩
  case round =>
    obtain ⟨k, hk, rfl, hl⟩ := hrel
    by_cases hlt : k < 201
    · have c2 := hl.more.cell hlt
      have c1 := hl.cell (by have := HQ.out.1; omega)
      have hf := hl.row.free (o1 + k)
      have HS := hl.set
      clear hl
      cases hF : F (o1 + k)
      · rw [hF] at c1 HS
        have HS2 := Lib.hid HS
        clear hF HS
        go_wp2
        go_roundw
        case rel => exact ⟨k + 1, by omega, by go_num, HS2.out⟩
        case measure => simp [intOf]; omega
      · rw [hF] at c1 HS
        cases hg : g k
        · rw [hg] at c2 HS
          have HS2 := Lib.hid HS
          clear hF hg HS
          go_wp2
          go_roundw
          case rel => exact ⟨k + 1, by omega, by go_num, HS2.out⟩
          case measure => simp [intOf]; omega
        · rw [hg] at c2 HS
          have HS2 := Lib.hid HS
          clear hF hg HS
          go_wp2
          go_roundw
          case rel => exact ⟨k + 1, by omega, by go_num, HS2.out⟩
          case measure => simp [intOf]; omega
    · obtain rfl : k = 201 := by omega
      have HL := Lib.hid hl
      clear hl
      go_wp2
      go_ret
      refine ⟨⟨G1, o1, M1, rfl, HG1.out, _, HL.out.row, HQ.out.1, fun n hn => ?_⟩, HL.out.below⟩
      unfold mix
      rw [if_pos (by omega)]
      show (if o1 ≤ o1 + n then _ else _) = _
      rw [if_pos (by omega), Nat.add_sub_cancel_left, HQ.out.2 n hn]
      rfl

/-- The walk of the method that finds the first numbers of a term, whatever the term. -/
theorem termFirst_any (m : Int) : ∀ (t : Tm) (w : World), tmOk t = true → LibAt m w → Calls Try.prog (firstF t) #[tmRecv t] w (FirstEnd (tmF t) w) := by
  intro t
  induction t with
  | sign c => intro w ho hL; exact first_sign c m w ho hL
  | star t ih => intro w ho hL; exact first_star t m w hL (fun w hL => ih w ho hL)
  | times d t ih =>
    intro w ho hL
    rw [tmOk, Bool.and_eq_true] at ho
    exact first_times d t m w ho.1 hL (fun w hL => ih w ho.2 hL)
  | pair l s r ihl ihr =>
    intro w ho hL
    rw [tmOk, Bool.and_eq_true, Bool.and_eq_true] at ho
    rcases mid_cases ho.2.1 with rfl | rfl | rfl
    · exact first_pair43 l r m w hL (fun w hL => ihl w ho.1 hL) (fun w hL => ihr w ho.2.2 hL)
    · exact first_pair46 l r m w hL (fun w hL => ihl w ho.1 hL) (fun w hL => ihr w ho.2.2 hL)
    · exact first_pair38 l r m w hL (fun w hL => ihl w ho.1 hL) (fun w hL => ihr w ho.2.2 hL)


end Go.Proofs.Ytiphooodijbhiaa
