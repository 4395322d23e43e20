/-
  countBags, of the program (each once at most).
-/
import Derived.Test.YtojjfkabepkhdaaWayBagI
set_option linter.unusedVariables false
set_option linter.unusedSimpArgs false
namespace Go.Proofs.Ytojjfkabepkhdaa
open Go.RowKit

set_option maxRecDepth 100000 in
set_option maxHeartbeats 4000000 in
theorem countBags_off (f : Nat → Bool) (T R : ByteArray) (n : Nat) (w : World) (hf : Tells f T R) (hn : n ≤ 60) :
    Calls Try.prog 50 #[.agg #[.string T, .string R], .int .i64 n, .bool false] w fun e w' => e = .returned (.int .i64 (apartsI f n n)) ∧ Below w.heap.size w w' := by
  refine (callsIn_wide (n := 20)).1 ?_
  refine callsIn_of_wp_marks Try.func50 rfl trivial ?_ rfl
  simp only [Try.ntmps50, List.size_toArray, List.length_cons, List.length_nil, Nat.reduceAdd, Nat.reduceSub, Array.replicate_succ, Array.replicate_zero, List.push_toArray, List.append_toArray, List.nil_append, List.cons_append]
  obtain ⟨N, hN⟩ : ∃ N, N = n + 1 := ⟨_, rfl⟩
  have hNi : (n : Int) + 1 = (N : Int) := by omega
  have HN := Lib.hid hN
  gi_wp2_with fail
  refine ⟨trivial, (callsIn_wide.2 (noNumbers_any n _ (by omega))).mono ?_⟩
  rintro e w1 ⟨rfl, hr1, hb1⟩
  rw [← hN] at hr1 ⊢
  simp only [World.size_alloc] at hr1 hb1 ⊢
  have HVV := Lib.hid (bagBox_new w w1 N n T R false hb1 hr1.lt)
  have HR := Lib.hid (hr1.step ((Below.refl _ w1).alloc (Nat.le_refl _) (.cells #[.slice (some ⟨w.heap.size + 1 + 1 + 1, 0, none⟩) N N] 44)))
  have p0 := HVV.out.p0
  have p1 := HVV.out.p1
  have pn := HVV.out.num.cell
  have n1 : w1.cell? ⟨w.heap.size + 1, 0, none⟩ = some (.int .i64 n) := by
    have xn := (Boxed.new (w.alloc (.cells #[.string T, .string R] 41)) 3 (.int .i64 n)).alloc (.cells #[.bool false] 4)
    simp only [World.size_alloc] at xn
    exact Boxed.cell ((hb1.block (w.heap.size + 1) (by omega)).trans xn)
  clear hr1 hb1 hN
  gi_wp2_with fail
  refine ⟨trivial, (callsIn_wide.2 (pieces_call T R n _)).mono ?_⟩
  rintro e W0 ⟨rfl, rfl⟩
  generalize w1.alloc (.cells #[.slice (some ⟨w.heap.size + 1 + 1 + 1, 0, none⟩) N N] 44) = V at p0 p1 pn HVV HR ⊢
  have HPB := Lib.hid (pBox_new T R n V)
  have hst : Below V.heap.size V ((V.alloc (.cells #[.string T, .string R] 41)).alloc (.cells #[.int .i64 n] 3)) := ((Below.refl _ V).alloc (Nat.le_refl _) _).alloc (by simp) _
  have HVS : Hid (w.heap.size + 1 + 1 + 1 < V.heap.size ∧ w1.heap.size < V.heap.size) := Lib.hid ⟨HR.out.lt, HVV.out.many.lt⟩
  have HV2 := Lib.hid (HVV.out.step hst)
  have HR2 := Lib.hid (HR.out.step hst)
  clear p0 p1 pn n1 hst
  gi_wp2
  try simp only [World.size_alloc]
  refine rangeQ rfl (by decide) (gf := 79) (lb := #[.pointer (some ⟨V.heap.size + 1, 0, none⟩), .pointer (some ⟨V.heap.size, 0, none⟩)]) rfl trivial (enters_of Try.func79 (by kernel_rfl) rfl)
    (pieces_q f T R n V.heap.size (V.heap.size + 1) _ hf (by omega) _ HPB.out) (Below.refl _ _) (fun _ => rfl) (fun h k => keepsB_t h k) (fun W l r o' hl h => keepsB_b (by simp; omega) (by simp) W l (.loop r) o' hl h rfl rfl)
    (fun pre W => (∃ k h, pre = pcL f n k h ∧ IRow W (w.heap.size + 1 + 1 + 1) N (apartsI f k)) ∧ BagBox w.heap.size w1.heap.size N n T R false w W ∧ V.heap.size + 1 < W.heap.size)
    (fun _ _ => False)
    (OwnFrom.and (fun s X Y row hs hg hr => by obtain ⟨k, h, e, hrow⟩ := hs; exact ⟨k, h, e, iRow_own (β := Unit) _ N _ (fun _ => apartsI f k) () X Y row hrow hg hr⟩) (OwnFrom.and (bagBox_own _ _ N n T R false w (Nat.le_refl _) _ (by have := HVS.out; simp; omega)) (fun s X Y row h hg hr => Nat.lt_of_lt_of_le h hg.size)))
    (fun _ _ _ _ hs _ _ => hs) (fun _ _ _ _ _ hs _ _ => hs)
    ⟨⟨0, Nat.zero_le _, rfl, HR2.out.congr (fun i _ => congrFun (oneAt0_aparts f) i)⟩, HV2.out, by simp⟩
    (fun x => { tmps := #[.agg #[.string T, .string R], .int .i64 n, .bool false, .pointer (some ⟨w.heap.size, 0, none⟩), .pointer (some ⟨w.heap.size + 1, 0, none⟩), .pointer (some ⟨w.heap.size + 1 + 1, 0, none⟩), .int .i64 0, .pointer (some ⟨w1.heap.size, 0, none⟩), .int .i64 (x.1 : Int), undef, undef, .int .i64 n, .slice (some ⟨w.heap.size + 1 + 1 + 1, 0, none⟩) N N, .agg #[.string T, .string R], .int .i64 n,
      .func (.func 79) #[] #[.pointer (some ⟨V.heap.size + 1, 0, none⟩), .pointer (some ⟨V.heap.size, 0, none⟩)], .int .i64 (x.1 : Int), .int .i64 ((n - x.1 : Nat) : Int), undef, undef, undef, undef, undef, undef, undef, undef, undef, undef, undef, undef, undef, undef, undef, undef, undef, undef, undef, undef, undef, undef, undef, undef, undef, undef, undef, undef, undef], defers := [] }) ?assign ?body ?done ?stop
  case assign =>
    intro l x W K hK
    have hsem := @Oper.semAt_some
    gi_wp2
    exact hK
  case body =>
    rintro l pre x W ⟨⟨k0, hk0, hpre, hrow⟩, hbox, hws⟩ ⟨k, hk, hx, hpre2, hf1⟩
    have hsem := @Oper.semAt_some
    have hx2 := x.2.2
    have hle : k + 1 ≤ n := by omega
    rw [pcL_row (apartsI f) (fun k h => funext fun i => aparts_no h i) (hpre.symm.trans hpre2)] at hrow
    have HE : Hid (pre ++ [x] = pcL f n (k + 1) hle) := Lib.hid (by rw [pcL_yes hle hf1, hpre2]; exact congrArg (fun z => pcL f n k _ ++ [z]) (Subtype.ext hx))
    obtain ⟨y, hy⟩ : ∃ y, y = x.1 := ⟨_, rfl⟩
    rw [← hy] at hx ⊢
    obtain ⟨z, hz⟩ : ∃ z, z = n - y := ⟨_, rfl⟩
    rw [← hz]
    obtain ⟨d, hd⟩ : ∃ d, d = N - y := ⟨_, rfl⟩
    have hdi : (N : Int) - (y : Int) = (d : Int) := by have := HN.out; omega
    have hyn : y ≤ 60 := by omega
    have HD : Hid (d + (k + 1) = N ∧ y = k + 1) := Lib.hid (by have := HN.out; omega)
    have HBX := Lib.hid hbox
    have HWS := Lib.hid hws
    have HRW := Lib.hid hrow
    have HF1 := Lib.hid hf1
    have cN := hbox.num.cell
    have cA := hbox.ag.cell
    have cM := hbox.many.cell
    clear hbox hrow hws hx hx2 hpre hpre2 hk0 hd hy hz hf hf1
    have hmix : Try.prog.follows .mixedOrders = true := by kernel_rfl
    gi_wp2_with fail
    refine ⟨trivial, (callsIn_wide.2 (clone_any (w.heap.size + 1 + 1 + 1) N (apartsI f k) W (by have := HD.out; omega) (by have := HD.out; have := HN.out; omega) HRW.out)).mono ?_⟩
    rintro e W2 ⟨G2, c, rfl, hG2, hrd, hb2⟩
    have hcl : ∀ i, i < N → W2.cell? ⟨G2, i, none⟩ = some (.int .i64 (apartsI f k i)) := fun i hi => by
      obtain ⟨g, o, hao, _, cc⟩ := hrd.at hi
      simp only [Option.some.injEq, Addr.mk.injEq] at hao
      obtain ⟨rfl, rfl, _⟩ := hao
      rw [Nat.zero_add] at cc
      exact cc
    have HCL := Lib.hid hcl
    have hne : G2 ≠ w.heap.size + 1 + 1 + 1 := by have := HRW.out.lt; omega
    have HRW2 := Lib.hid (HRW.out.step hb2)
    have HBX2 := Lib.hid (HBX.out.step hb2)
    have HKO2 := Lib.hid (KeepsOthers.of_grownBy (grownBy_below hb2) (fun j o e => by cases e))
    have cN := HBX2.out.num.cell
    have HKB2 : Hid (KeepsB V.heap.size (V.heap.size + 1) W W2) := Lib.hid (by have := HWS.out; exact KeepsB.below hb2 (by omega) (by omega))
    clear hrd hb2 hcl cM cA hG2
    gi_wp2
    gi_loopw [27] (fun i wr => ∃ t : Nat, i = .int .i64 t ∧ t ≤ d ∧ KeepsOthers W wr ∧ KeepsB V.heap.size (V.heap.size + 1) W wr ∧ IRow wr (w.heap.size + 1 + 1 + 1) N (mixC f k (t + (k + 1))) ∧ BagBox w.heap.size w1.heap.size N n T R false w wr ∧ ∀ i, i < N → wr.cell? ⟨G2, i, none⟩ = some (.int .i64 (apartsI f k i))) (fun i _ => N - (intOf i).toNat)
    case atStart => exact ⟨0, rfl, Nat.zero_le _, HKO2.out, HKB2.out, HRW2.out.congr (fun i _ => by rw [Nat.zero_add]; exact mixC_start f k i), HBX2.out, HCL.out⟩
    case round =>
      obtain ⟨t, rfl, htd, hko, hkb, hrow, hbox, hrc⟩ := hrel
      have HRC := Lib.hid hrc
      clear hrc
      have HKO := Lib.hid hko
      have HKB := Lib.hid hkb
      have HRT := Lib.hid hrow
      have HBT := Lib.hid hbox
      have cM := hbox.many.cell
      clear hko hkb hrow hbox
      rcases Nat.lt_or_ge t d with ht | ht
      · have hti : (t : Int) < (d : Int) := by omega
        have hDD := HD.out
        have hNN := HN.out
        obtain ⟨X, hX⟩ : ∃ X, X = t + y := ⟨_, rfl⟩
        have hXi : (t : Int) + (y : Int) = (X : Int) := by omega
        have hw1 : IntKind.i64.wrap ((t : Int) + (y : Int)) = (X : Int) := by rw [hXi]; exact IntWalk.i64_in _ (by omega)
        have hw2 : IntKind.i64.wrap (X : Int) = (X : Int) := IntWalk.i64_in _ (by omega)
        have hw3 : IntKind.i64.wrap (t : Int) = (t : Int) := IntWalk.i64_in _ (by omega)
        have hXN : (X : Int) < (N : Int) := by omega
        have htN : (t : Int) < (N : Int) := by omega
        have hXN2 : X < N := by omega
        have htN2 : t < N := by omega
        obtain ⟨v, hv, hvb⟩ := mixC_bounds f k X (i := X) (by omega)
        obtain ⟨u, hu, hub⟩ := (⟨_, rfl, apart_le60 f k (by omega)⟩ : ∃ u : Nat, apartsI f k t = u ∧ u ≤ 1152921504606846976)
        have c1 := HRT.out.cell hXN2
        have c2 := HRC.out t htN2
        have fr := HRT.out.free X
        have HV3 : Hid (putI (mixC f k X) X (((v : Int) + (u : Int))) = putI (mixC f k X) X (mixC f k X X + apartsI f k t) ∧ X = t + (k + 1)) := Lib.hid ⟨by rw [hv, hu], by omega⟩
        have hXk : t + (k + 1) = X := by omega
        rw [hXk, hv] at c1
        rw [hu] at c2
        have HX2 := Lib.hid (show k + 1 ≤ X ∧ X - (k + 1) = t from by omega)
        clear hDD hNN hX hXk hv hu
        gi_wp2
        refine wpIn_region_round (F := Fence.wide) (by kernel_rfl) hmix ?_
        refine wpAnyIn_take (i := 1) (v := ?v1) rfl rfl (by kernel_rfl) (by kernel_rfl) (by kernel_rfl) (fun _ _ _ h => h) ⟨Or.inl ⟨by rfl, ?hy1⟩, fun _ => rfl⟩ ?rest1
        case hy1 => (intro w0; go_simp; try with_reducible rfl)
        try simp only [Act.put, List.setIfInBounds_toArray, List.set_cons_zero, List.set_cons_succ]
        refine wpAnyIn_take (i := 2) (v := ?v2) rfl rfl (by kernel_rfl) (by kernel_rfl) (by kernel_rfl) (fun _ _ _ h => h) ⟨Or.inl ⟨by rfl, ?hy2⟩, fun _ => rfl⟩ ?rest2
        case hy2 => (intro w0; go_simp; try with_reducible rfl)
        try simp only [Act.put, List.setIfInBounds_toArray, List.set_cons_zero, List.set_cons_succ]
        refine wpAnyIn_take (i := 3) (v := ?v3) rfl rfl (by kernel_rfl) (by kernel_rfl) (by kernel_rfl) (fun _ _ _ h => h) ⟨Or.inl ⟨by rfl, ?hy3⟩, fun _ => rfl⟩ ?rest3
        case hy3 => (intro w0; go_simp; try with_reducible rfl)
        try simp only [Act.put, List.setIfInBounds_toArray, List.set_cons_zero, List.set_cons_succ]
        refine wpAnyIn_take (i := 6) (v := ?v4) rfl rfl (by kernel_rfl) (by kernel_rfl) (by kernel_rfl) (fun _ _ _ h => h) ⟨Or.inl ⟨by rfl, ?hy4⟩, fun _ => rfl⟩ ?rest4
        case hy4 => (intro w0; go_simp; try with_reducible rfl)
        try simp only [Act.put, List.setIfInBounds_toArray, List.set_cons_zero, List.set_cons_succ]
        refine wpAnyIn_take (i := 7) (v := ?v5) rfl rfl (by kernel_rfl) (by kernel_rfl) (by kernel_rfl) (fun _ _ _ h => h) ⟨Or.inl ⟨by rfl, ?hy5⟩, fun _ => rfl⟩ ?rest5
        case hy5 => (intro w0; go_simp; try with_reducible rfl)
        try simp only [Act.put, List.setIfInBounds_toArray, List.set_cons_zero, List.set_cons_succ]
        refine wpAnyIn_take (i := 8) (v := ?v6) rfl rfl (by kernel_rfl) (by kernel_rfl) (by kernel_rfl) (fun _ _ _ h => h) ⟨Or.inl ⟨by rfl, ?hy6⟩, fun _ => rfl⟩ ?rest6
        case hy6 => (intro w0; go_simp; try with_reducible rfl)
        try simp only [Act.put, List.setIfInBounds_toArray, List.set_cons_zero, List.set_cons_succ]
        refine wpAnyIn_ready (rs := [0, 9]) (by kernel_rfl) (by simp) ?_
        refine AllReadyIn.cons rfl (fun K hK => ?_) ?_
        · go_simp
          refine hK _ _ ?_
          clear hK K
          refine wpAnyIn_take (i := 4) (v := ?v7) rfl rfl (by kernel_rfl) (by kernel_rfl) (by kernel_rfl) (fun _ _ _ h => h) ⟨Or.inl ⟨by rfl, ?hy7⟩, fun _ => rfl⟩ ?rest7
          case hy7 => (intro w0; go_simp; try with_reducible rfl)
          try simp only [Act.put, List.setIfInBounds_toArray, List.set_cons_zero, List.set_cons_succ]
          refine wpAnyIn_ready (rs := [5, 9]) (by kernel_rfl) (by simp) ?_
          refine AllReadyIn.cons rfl (fun K hK => ?_) ?_
          · go_simp
            refine hK _ _ ?_
            clear hK K
            refine wpAnyIn_ready (rs := [9]) (by kernel_rfl) (by simp) ?_
            refine AllReadyIn.cons rfl (fun K hK => ?_) ?_
            · go_simp
              refine hK _ _ ?_
              clear hK K
              refine wpAnyIn_take (i := 10) (v := ?v8) rfl rfl (by kernel_rfl) (by kernel_rfl) (by kernel_rfl) (fun _ _ _ h => h) ⟨Or.inl ⟨by rfl, ?hy8⟩, fun _ => rfl⟩ ?rest8
              case hy8 => (intro w0; go_simp; try with_reducible rfl)
              try simp only [Act.put, List.setIfInBounds_toArray, List.set_cons_zero, List.set_cons_succ]
              refine wpAnyIn_take (i := 11) (v := ?v9) rfl rfl (by kernel_rfl) (by kernel_rfl) (by kernel_rfl) (fun _ _ _ h => h) ⟨Or.inl ⟨by rfl, ?hy9⟩, fun _ => rfl⟩ ?rest9
              case hy9 => (intro w0; go_simp; try with_reducible rfl)
              try simp only [Act.put, List.setIfInBounds_toArray, List.set_cons_zero, List.set_cons_succ]
              refine wpAnyIn_ready (rs := [12]) (by kernel_rfl) (by simp) ?_
              refine AllReadyIn.cons rfl (fun K hK => ?_) ?_
              · go_simp
                refine hK _ _ ?_
                clear hK K
                refine wpAnyIn_done (by kernel_rfl) ?_ _
                gi_wp2
                go_roundw
                case rel =>
                  refine ⟨t + 1, by go_num, by omega, HKO.out.trans ((KeepsOthers.setCell _ _ _).trans (KeepsOthers.drew _)), keepsB_t HKB.out (keepsB_put _ _ _ (by show w.heap.size + 1 + 1 + 1 ≠ _; have := HVS.out; omega) (by show w.heap.size + 1 + 1 + 1 ≠ _; have := HVS.out; omega)), ?_, (HBT.out.put _ _).drew, fun i hi => (World.cell?_setCell_other _ _ _ _ (by simp [hne])).trans (HRC.out i hi)⟩
                  have hr := (HRT.out.put X (((v : Int) + (u : Int)))).drew
                  rw [← HV3.out.2, HV3.out.1] at hr
                  refine hr.congr fun i _ => ?_
                  rw [show t + 1 + (k + 1) = X + 1 from by have := HV3.out.2; omega]
                  have hp := mixC_put f k X i HF1.out HX2.out.1
                  rw [HX2.out.2] at hp
                  exact hp
                case measure => simp [intOf]; omega

              exact AllReadyIn.nil
            exact AllReadyIn.nil
          refine AllReadyIn.cons rfl (fun K hK => ?_) ?_
          · go_simp
            refine hK _ _ ?_
            clear hK K
            refine wpAnyIn_ready (rs := [5]) (by kernel_rfl) (by simp) ?_
            refine AllReadyIn.cons rfl (fun K hK => ?_) ?_
            · go_simp
              refine hK _ _ ?_
              clear hK K
              refine wpAnyIn_take (i := 10) (v := ?v10) rfl rfl (by kernel_rfl) (by kernel_rfl) (by kernel_rfl) (fun _ _ _ h => h) ⟨Or.inl ⟨by rfl, ?hy10⟩, fun _ => rfl⟩ ?rest10
              case hy10 => (intro w0; go_simp; try with_reducible rfl)
              try simp only [Act.put, List.setIfInBounds_toArray, List.set_cons_zero, List.set_cons_succ]
              refine wpAnyIn_take (i := 11) (v := ?v11) rfl rfl (by kernel_rfl) (by kernel_rfl) (by kernel_rfl) (fun _ _ _ h => h) ⟨Or.inl ⟨by rfl, ?hy11⟩, fun _ => rfl⟩ ?rest11
              case hy11 => (intro w0; go_simp; try with_reducible rfl)
              try simp only [Act.put, List.setIfInBounds_toArray, List.set_cons_zero, List.set_cons_succ]
              refine wpAnyIn_ready (rs := [12]) (by kernel_rfl) (by simp) ?_
              refine AllReadyIn.cons rfl (fun K hK => ?_) ?_
              · go_simp
                refine hK _ _ ?_
                clear hK K
                refine wpAnyIn_done (by kernel_rfl) ?_ _
                gi_wp2
                go_roundw
                case rel =>
                  refine ⟨t + 1, by go_num, by omega, HKO.out.trans ((KeepsOthers.setCell _ _ _).trans (KeepsOthers.drew _)), keepsB_t HKB.out (keepsB_put _ _ _ (by show w.heap.size + 1 + 1 + 1 ≠ _; have := HVS.out; omega) (by show w.heap.size + 1 + 1 + 1 ≠ _; have := HVS.out; omega)), ?_, (HBT.out.put _ _).drew, fun i hi => (World.cell?_setCell_other _ _ _ _ (by simp [hne])).trans (HRC.out i hi)⟩
                  have hr := (HRT.out.put X (((v : Int) + (u : Int)))).drew
                  rw [← HV3.out.2, HV3.out.1] at hr
                  refine hr.congr fun i _ => ?_
                  rw [show t + 1 + (k + 1) = X + 1 from by have := HV3.out.2; omega]
                  have hp := mixC_put f k X i HF1.out HX2.out.1
                  rw [HX2.out.2] at hp
                  exact hp
                case measure => simp [intOf]; omega

              exact AllReadyIn.nil
            exact AllReadyIn.nil
          exact AllReadyIn.nil
        refine AllReadyIn.cons rfl (fun K hK => ?_) ?_
        · go_simp
          refine hK _ _ ?_
          clear hK K
          refine wpAnyIn_ready (rs := [0]) (by kernel_rfl) (by simp) ?_
          refine AllReadyIn.cons rfl (fun K hK => ?_) ?_
          · go_simp
            refine hK _ _ ?_
            clear hK K
            refine wpAnyIn_take (i := 4) (v := ?v12) rfl rfl (by kernel_rfl) (by kernel_rfl) (by kernel_rfl) (fun _ _ _ h => h) ⟨Or.inl ⟨by rfl, ?hy12⟩, fun _ => rfl⟩ ?rest12
            case hy12 => (intro w0; go_simp; try with_reducible rfl)
            try simp only [Act.put, List.setIfInBounds_toArray, List.set_cons_zero, List.set_cons_succ]
            refine wpAnyIn_ready (rs := [5]) (by kernel_rfl) (by simp) ?_
            refine AllReadyIn.cons rfl (fun K hK => ?_) ?_
            · go_simp
              refine hK _ _ ?_
              clear hK K
              refine wpAnyIn_take (i := 10) (v := ?v13) rfl rfl (by kernel_rfl) (by kernel_rfl) (by kernel_rfl) (fun _ _ _ h => h) ⟨Or.inl ⟨by rfl, ?hy13⟩, fun _ => rfl⟩ ?rest13
              case hy13 => (intro w0; go_simp; try with_reducible rfl)
              try simp only [Act.put, List.setIfInBounds_toArray, List.set_cons_zero, List.set_cons_succ]
              refine wpAnyIn_take (i := 11) (v := ?v14) rfl rfl (by kernel_rfl) (by kernel_rfl) (by kernel_rfl) (fun _ _ _ h => h) ⟨Or.inl ⟨by rfl, ?hy14⟩, fun _ => rfl⟩ ?rest14
              case hy14 => (intro w0; go_simp; try with_reducible rfl)
              try simp only [Act.put, List.setIfInBounds_toArray, List.set_cons_zero, List.set_cons_succ]
              refine wpAnyIn_ready (rs := [12]) (by kernel_rfl) (by simp) ?_
              refine AllReadyIn.cons rfl (fun K hK => ?_) ?_
              · go_simp
                refine hK _ _ ?_
                clear hK K
                refine wpAnyIn_done (by kernel_rfl) ?_ _
                gi_wp2
                go_roundw
                case rel =>
                  refine ⟨t + 1, by go_num, by omega, HKO.out.trans ((KeepsOthers.setCell _ _ _).trans (KeepsOthers.drew _)), keepsB_t HKB.out (keepsB_put _ _ _ (by show w.heap.size + 1 + 1 + 1 ≠ _; have := HVS.out; omega) (by show w.heap.size + 1 + 1 + 1 ≠ _; have := HVS.out; omega)), ?_, (HBT.out.put _ _).drew, fun i hi => (World.cell?_setCell_other _ _ _ _ (by simp [hne])).trans (HRC.out i hi)⟩
                  have hr := (HRT.out.put X (((v : Int) + (u : Int)))).drew
                  rw [← HV3.out.2, HV3.out.1] at hr
                  refine hr.congr fun i _ => ?_
                  rw [show t + 1 + (k + 1) = X + 1 from by have := HV3.out.2; omega]
                  have hp := mixC_put f k X i HF1.out HX2.out.1
                  rw [HX2.out.2] at hp
                  exact hp
                case measure => simp [intOf]; omega

              exact AllReadyIn.nil
            exact AllReadyIn.nil
          exact AllReadyIn.nil
        exact AllReadyIn.nil
      · have htd2 : t = d := by omega
        have htl : ¬ ((t : Int) < (d : Int)) := by omega
        have HTD := Lib.hid htd2
        clear htd2 ht
        gi_wp2
        refine ⟨HKO.out.from _, HKB.out, ⟨⟨k + 1, ⟨hle, HE.out⟩, HRT.out.congr (fun i hi => mixC_end f k _ i (by have := HD.out; have := HTD.out; omega))⟩, HBT.out, by have := HWS.out; have := HKO.out.size; omega⟩⟩
  case done =>
    rintro D xs W hD rfl ⟨⟨k0, hk0, hpre, hrow⟩, hbox, _⟩ hK
    rw [pcL_row (apartsI f) (fun k h => funext fun i => aparts_no h i) hpre.symm] at hrow
    have cN := hbox.num.cell
    have cM := hbox.many.cell
    have hnN : (n : Int) < (N : Int) := by omega
    have c0 := hrow.cell (i := n) (by have := HN.out; omega)
    have HBB := Lib.hid hbox.below
    have hDs : w.heap.size ≤ D := by have := HVS.out; simp at hD; omega
    clear hbox hrow hD hpre
    gi_wp2
    refine ⟨by simp, .inl ⟨_, _, rfl, run_takeDeferred hK, ?_⟩⟩
    exact ⟨_, results_tmp rfl _ _ _, rfl, HBB.out.trans (belowK_b (w := w) (Nat.le_refl _) W D _ _ hDs hK rfl rfl)⟩
  case stop =>
    rintro D pre W _ _ h _
    exact h.elim

end Go.Proofs.Ytojjfkabepkhdaa
