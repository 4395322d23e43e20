/-
  Terms of the program: what a value of a term is; the walks of impl.cutTerm, impl.cutPair and impl.readTerm.
-/
import Derived.Test.YtiphooodijbhiaaTermSem
import Derived.Test.YtiphooodijbhiaaHasMath
import Derived.Test.YtiphooodijbhiaaSetDef
import Derived.Deep.RegionWith
set_option linter.unusedVariables false
set_option linter.unusedSimpArgs false
namespace Go.Proofs.Ytiphooodijbhiaa
open Go.RowKit

/-- The dynamic type of a term, and its value. -/
def tmTy : Tm → TypeId
  | .sign _ => 164
  | .star _ => 146
  | .times _ _ => 148
  | .pair _ _ _ => 151
def tmRecv : Tm → Value
  | .sign c => .int .u8 c.toNat
  | .star t => .agg #[.iface (tmTy t) (tmRecv t)]
  | .times d t => .agg #[.int .u8 d.toNat, .iface (tmTy t) (tmRecv t)]
  | .pair l s r => .agg #[.iface (tmTy l) (tmRecv l), .int .u8 s.toNat, .iface (tmTy r) (tmRecv r)]
def tmV (t : Tm) : Value := .iface (tmTy t) (tmRecv t)

/-- A value of an interface type. -/
def Ifc (v : Value) : Prop := v = .nilIface ∨ ∃ T u, v = .iface T u
/-- What cutTerm answers. -/
def CutEnd (o : Option (Tm × List UInt8)) (e : Ending) : Prop :=
  match o with
  | some (t, r) => ∃ b : ByteArray, b.data.toList = r ∧ e = .returned (.tuple #[tmV t, .string b, .bool true])
  | none => ∃ v b, Ifc v ∧ e = .returned (.tuple #[v, .string b, .bool false])

theorem eq_off {a b : Int} (h : ¬ a = b) : (a == b) = false := by simpa using h
theorem eq_on {a b : Int} (h : a = b) : (a == b) = true := by simpa using h
theorem mid_any (c : UInt8) (w : World) : Calls Try.prog 140 #[.int .u8 c.toNat] w fun e w' => e = .returned (.bool (isMid c)) ∧ w' = w := by
  by_cases h1 : (c.toNat : Int) = 43
  · have e : isMid c = true := by rw [(byte_is (k := 43) (by decide)).1 h1]; decide
    go_enter Try.func140, Try.ntmps140
    go_wp2
    go_ret
    exact ⟨by rw [e]; rfl, rfl⟩
  · by_cases h2 : (c.toNat : Int) = 46
    · have e : isMid c = true := by rw [(byte_is (k := 46) (by decide)).1 h2]; decide
      go_enter Try.func140, Try.ntmps140
      go_wp2
      go_ret
      exact ⟨by rw [e]; rfl, rfl⟩
    · by_cases h3 : (c.toNat : Int) = 38
      · have e : isMid c = true := by rw [(byte_is (k := 38) (by decide)).1 h3]; decide
        go_enter Try.func140, Try.ntmps140
        go_wp2
        go_ret
        exact ⟨by rw [e]; rfl, rfl⟩
      · have e : isMid c = false := by
          unfold isMid
          have a1 : c ≠ 43 := fun x => h1 (by rw [x]; rfl)
          have a2 : c ≠ 46 := fun x => h2 (by rw [x]; rfl)
          have a3 : c ≠ 38 := fun x => h3 (by rw [x]; rfl)
          simp [a1, a2, a3]
        have b1 := eq_off h1
        have b2 := eq_off h2
        have b3 := eq_off h3
        go_enter Try.func140, Try.ntmps140
        go_wp2
        go_ret
        exact ⟨by rw [e]; first | rfl | (simp only [b1, b2, b3]; rfl), rfl⟩

/-- The first byte of a text, and what is behind it. -/
structure Begins (s : ByteArray) (c : UInt8) (l : List UInt8) : Prop where
  list : s.data.toList = c :: l
  pos : 0 < s.size
  some : s.toList.isEmpty = false
  first : s[0] = c
  rest : (s.extract 1 s.size).data.toList = l
theorem begins {s : ByteArray} {c : UInt8} {l : List UInt8} (h : s.data.toList = c :: l) : Begins s c l := by
  have h0 : 0 < s.size := by rw [← size_eq, h]; simp
  refine ⟨h, h0, ?_, ?_, ?_⟩
  · rw [Lib.toList_data, h]; rfl
  · show s.data.toList[0]'(by simpa using h0) = c
    simp only [h]; rfl
  · rw [Lib.extract_data, h, List.drop_one, List.tail_cons, List.take_of_length_le]
    have := size_eq s
    rw [h] at this
    simp at this
    omega
theorem Begins.less {s : ByteArray} {c : UInt8} {l : List UInt8} (h : Begins s c l) {k : Nat} (hk : s.size ≤ k + 1) : (s.extract 1 s.size).size ≤ k := by
  rw [← size_eq, h.rest]
  have := size_eq s
  rw [h.list] at this
  simp at this
  omega

set_option maxHeartbeats 1000000 in
theorem cut_sign (s : ByteArray) (w : World) (c : UInt8) (l : List UInt8) (h : Begins s c l) (ho : isOne c = true) :
    Calls Try.prog 110 #[.string s] w fun e w' => CutEnd (some (.sign c, l)) e ∧ ∃ m, w' = w.drewN m := by
  have h0 := h.pos
  have h1 := h.some
  have hc : (s[0].toNat : Int) = (c.toNat : Int) := by rw [h.first]
  have H := Lib.hid h
  clear h
  rcases one_cases ho with rfl | rfl | rfl
  · replace hc : (s[0].toNat : Int) = 48 := hc
    go_enter Try.func110, Try.ntmps110
    go_wp2_with fail
    go_quiet (fail)
    go_wp2_with fail
    go_ret3
    exact ⟨⟨_, H.out.rest, rfl⟩, _, rfl⟩
  · replace hc : (s[0].toNat : Int) = 49 := hc
    go_enter Try.func110, Try.ntmps110
    go_wp2_with fail
    go_quiet (fail)
    go_wp2_with fail
    go_ret3
    exact ⟨⟨_, H.out.rest, rfl⟩, _, rfl⟩
  · replace hc : (s[0].toNat : Int) = 97 := hc
    go_enter Try.func110, Try.ntmps110
    go_wp2_with fail
    go_quiet (fail)
    go_wp2_with fail
    go_ret3
    exact ⟨⟨_, H.out.rest, rfl⟩, _, rfl⟩

set_option maxHeartbeats 1000000 in
theorem cut_star (k : Nat) (s : ByteArray) (w : World) (l : List UInt8) (h : Begins s 42 l) (hk : s.size ≤ k + 1)
    (ih : ∀ (s : ByteArray) (w : World), s.size ≤ k → Calls Try.prog 110 #[.string s] w fun e w' => CutEnd (cutT k s.data.toList) e ∧ ∃ m, w' = w.drewN m) :
    Calls Try.prog 110 #[.string s] w fun e w' => CutEnd ((cutT k l).map fun p => (.star p.1, p.2)) e ∧ ∃ m, w' = w.drewN m := by
  have h0 := h.pos
  have h1 := h.some
  have hc : (s[0].toNat : Int) = 42 := by rw [h.first]; rfl
  have H := Lib.hid h
  have HI := Lib.hid (ih (s.extract 1 s.size) w (h.less hk))
  rw [h.rest] at HI
  clear h ih
  have HE : ∀ e, CutEnd (cutT k l) e → ∃ v b ok, Ifc v ∧ e = .returned (.tuple #[v, .string b, .bool ok]) ∧ ∀ u, Ifc u → (∀ t, v = tmV t → u = tmV (.star t)) → CutEnd ((cutT k l).map fun p => (.star p.1, p.2)) (.returned (.tuple #[u, .string b, .bool ok])) := by
    intro e he
    cases hcut : cutT k l with
    | none => rw [hcut] at he; obtain ⟨v, b, hv, rfl⟩ := he; exact ⟨v, b, false, hv, rfl, fun u hu _ => ⟨u, b, hu, rfl⟩⟩
    | some p => rw [hcut] at he; obtain ⟨b, hb, rfl⟩ := he; exact ⟨_, b, true, .inr ⟨_, _, rfl⟩, rfl, fun u _ hu => ⟨b, hb, by rw [hu p.1 rfl]⟩⟩
  have HE := Lib.hid HE
  go_enter Try.func110, Try.ntmps110
  go_wp2_with fail
  refine HI.out.mono ?_
  rintro e w1 ⟨he, m, rfl⟩
  obtain ⟨v, b, ok, hv, rfl, hu⟩ := HE.out e he
  have HU := Lib.hid hu
  clear he hu
  rcases hv with rfl | ⟨T, u, rfl⟩
  all_goals
    go_wp2_with fail
    go_ret3
    exact ⟨HU.out _ (.inr ⟨_, _, rfl⟩) (fun t ht => by rw [ht]; rfl), _, rfl⟩

set_option maxHeartbeats 1000000 in
theorem cut_dig50 (k : Nat) (s : ByteArray) (w : World) (l : List UInt8) (h : Begins s 50 l) (hk : s.size ≤ k + 1)
    (ih : ∀ (s : ByteArray) (w : World), s.size ≤ k → Calls Try.prog 110 #[.string s] w fun e w' => CutEnd (cutT k s.data.toList) e ∧ ∃ m, w' = w.drewN m) :
    Calls Try.prog 110 #[.string s] w fun e w' => CutEnd ((cutT k l).map fun p => (.times 50 p.1, p.2)) e ∧ ∃ m, w' = w.drewN m := by
  have h0 := h.pos
  have h1 := h.some
  have hc : (s[0].toNat : Int) = 50 := by rw [h.first]; rfl
  have H := Lib.hid h
  have HI := Lib.hid (ih (s.extract 1 s.size) w (h.less hk))
  rw [h.rest] at HI
  clear h ih
  have HE : ∀ e, CutEnd (cutT k l) e → ∃ v b ok, Ifc v ∧ e = .returned (.tuple #[v, .string b, .bool ok]) ∧ ∀ u, Ifc u → (∀ t, v = tmV t → u = tmV (.times 50 t)) → CutEnd ((cutT k l).map fun p => (.times 50 p.1, p.2)) (.returned (.tuple #[u, .string b, .bool ok])) := by
    intro e he
    cases hcut : cutT k l with
    | none => rw [hcut] at he; obtain ⟨v, b, hv, rfl⟩ := he; exact ⟨v, b, false, hv, rfl, fun u hu _ => ⟨u, b, hu, rfl⟩⟩
    | some p => rw [hcut] at he; obtain ⟨b, hb, rfl⟩ := he; exact ⟨_, b, true, .inr ⟨_, _, rfl⟩, rfl, fun u _ hu => ⟨b, hb, by rw [hu p.1 rfl]⟩⟩
  have HE := Lib.hid HE
  go_enter Try.func110, Try.ntmps110
  go_wp2_with fail
  refine HI.out.mono ?_
  rintro e w1 ⟨he, m, rfl⟩
  obtain ⟨v, b, ok, hv, rfl, hu⟩ := HE.out e he
  have HU := Lib.hid hu
  clear he hu
  rcases hv with rfl | ⟨T, u, rfl⟩
  all_goals
    go_wp2_with fail
    go_ret3
    exact ⟨HU.out _ (.inr ⟨_, _, rfl⟩) (fun t ht => by rw [ht]; rfl), _, rfl⟩

set_option maxHeartbeats 1000000 in
theorem cut_dig51 (k : Nat) (s : ByteArray) (w : World) (l : List UInt8) (h : Begins s 51 l) (hk : s.size ≤ k + 1)
    (ih : ∀ (s : ByteArray) (w : World), s.size ≤ k → Calls Try.prog 110 #[.string s] w fun e w' => CutEnd (cutT k s.data.toList) e ∧ ∃ m, w' = w.drewN m) :
    Calls Try.prog 110 #[.string s] w fun e w' => CutEnd ((cutT k l).map fun p => (.times 51 p.1, p.2)) e ∧ ∃ m, w' = w.drewN m := by
  have h0 := h.pos
  have h1 := h.some
  have hc : (s[0].toNat : Int) = 51 := by rw [h.first]; rfl
  have H := Lib.hid h
  have HI := Lib.hid (ih (s.extract 1 s.size) w (h.less hk))
  rw [h.rest] at HI
  clear h ih
  have HE : ∀ e, CutEnd (cutT k l) e → ∃ v b ok, Ifc v ∧ e = .returned (.tuple #[v, .string b, .bool ok]) ∧ ∀ u, Ifc u → (∀ t, v = tmV t → u = tmV (.times 51 t)) → CutEnd ((cutT k l).map fun p => (.times 51 p.1, p.2)) (.returned (.tuple #[u, .string b, .bool ok])) := by
    intro e he
    cases hcut : cutT k l with
    | none => rw [hcut] at he; obtain ⟨v, b, hv, rfl⟩ := he; exact ⟨v, b, false, hv, rfl, fun u hu _ => ⟨u, b, hu, rfl⟩⟩
    | some p => rw [hcut] at he; obtain ⟨b, hb, rfl⟩ := he; exact ⟨_, b, true, .inr ⟨_, _, rfl⟩, rfl, fun u _ hu => ⟨b, hb, by rw [hu p.1 rfl]⟩⟩
  have HE := Lib.hid HE
  go_enter Try.func110, Try.ntmps110
  go_wp2_with fail
  refine HI.out.mono ?_
  rintro e w1 ⟨he, m, rfl⟩
  obtain ⟨v, b, ok, hv, rfl, hu⟩ := HE.out e he
  have HU := Lib.hid hu
  clear he hu
  rcases hv with rfl | ⟨T, u, rfl⟩
  all_goals
    go_wp2_with fail
    go_ret3
    exact ⟨HU.out _ (.inr ⟨_, _, rfl⟩) (fun t ht => by rw [ht]; rfl), _, rfl⟩

set_option maxHeartbeats 1000000 in
theorem cut_dig52 (k : Nat) (s : ByteArray) (w : World) (l : List UInt8) (h : Begins s 52 l) (hk : s.size ≤ k + 1)
    (ih : ∀ (s : ByteArray) (w : World), s.size ≤ k → Calls Try.prog 110 #[.string s] w fun e w' => CutEnd (cutT k s.data.toList) e ∧ ∃ m, w' = w.drewN m) :
    Calls Try.prog 110 #[.string s] w fun e w' => CutEnd ((cutT k l).map fun p => (.times 52 p.1, p.2)) e ∧ ∃ m, w' = w.drewN m := by
  have h0 := h.pos
  have h1 := h.some
  have hc : (s[0].toNat : Int) = 52 := by rw [h.first]; rfl
  have H := Lib.hid h
  have HI := Lib.hid (ih (s.extract 1 s.size) w (h.less hk))
  rw [h.rest] at HI
  clear h ih
  have HE : ∀ e, CutEnd (cutT k l) e → ∃ v b ok, Ifc v ∧ e = .returned (.tuple #[v, .string b, .bool ok]) ∧ ∀ u, Ifc u → (∀ t, v = tmV t → u = tmV (.times 52 t)) → CutEnd ((cutT k l).map fun p => (.times 52 p.1, p.2)) (.returned (.tuple #[u, .string b, .bool ok])) := by
    intro e he
    cases hcut : cutT k l with
    | none => rw [hcut] at he; obtain ⟨v, b, hv, rfl⟩ := he; exact ⟨v, b, false, hv, rfl, fun u hu _ => ⟨u, b, hu, rfl⟩⟩
    | some p => rw [hcut] at he; obtain ⟨b, hb, rfl⟩ := he; exact ⟨_, b, true, .inr ⟨_, _, rfl⟩, rfl, fun u _ hu => ⟨b, hb, by rw [hu p.1 rfl]⟩⟩
  have HE := Lib.hid HE
  go_enter Try.func110, Try.ntmps110
  go_wp2_with fail
  refine HI.out.mono ?_
  rintro e w1 ⟨he, m, rfl⟩
  obtain ⟨v, b, ok, hv, rfl, hu⟩ := HE.out e he
  have HU := Lib.hid hu
  clear he hu
  rcases hv with rfl | ⟨T, u, rfl⟩
  all_goals
    go_wp2_with fail
    go_ret3
    exact ⟨HU.out _ (.inr ⟨_, _, rfl⟩) (fun t ht => by rw [ht]; rfl), _, rfl⟩

set_option maxHeartbeats 1000000 in
theorem cut_dig53 (k : Nat) (s : ByteArray) (w : World) (l : List UInt8) (h : Begins s 53 l) (hk : s.size ≤ k + 1)
    (ih : ∀ (s : ByteArray) (w : World), s.size ≤ k → Calls Try.prog 110 #[.string s] w fun e w' => CutEnd (cutT k s.data.toList) e ∧ ∃ m, w' = w.drewN m) :
    Calls Try.prog 110 #[.string s] w fun e w' => CutEnd ((cutT k l).map fun p => (.times 53 p.1, p.2)) e ∧ ∃ m, w' = w.drewN m := by
  have h0 := h.pos
  have h1 := h.some
  have hc : (s[0].toNat : Int) = 53 := by rw [h.first]; rfl
  have H := Lib.hid h
  have HI := Lib.hid (ih (s.extract 1 s.size) w (h.less hk))
  rw [h.rest] at HI
  clear h ih
  have HE : ∀ e, CutEnd (cutT k l) e → ∃ v b ok, Ifc v ∧ e = .returned (.tuple #[v, .string b, .bool ok]) ∧ ∀ u, Ifc u → (∀ t, v = tmV t → u = tmV (.times 53 t)) → CutEnd ((cutT k l).map fun p => (.times 53 p.1, p.2)) (.returned (.tuple #[u, .string b, .bool ok])) := by
    intro e he
    cases hcut : cutT k l with
    | none => rw [hcut] at he; obtain ⟨v, b, hv, rfl⟩ := he; exact ⟨v, b, false, hv, rfl, fun u hu _ => ⟨u, b, hu, rfl⟩⟩
    | some p => rw [hcut] at he; obtain ⟨b, hb, rfl⟩ := he; exact ⟨_, b, true, .inr ⟨_, _, rfl⟩, rfl, fun u _ hu => ⟨b, hb, by rw [hu p.1 rfl]⟩⟩
  have HE := Lib.hid HE
  go_enter Try.func110, Try.ntmps110
  go_wp2_with fail
  refine HI.out.mono ?_
  rintro e w1 ⟨he, m, rfl⟩
  obtain ⟨v, b, ok, hv, rfl, hu⟩ := HE.out e he
  have HU := Lib.hid hu
  clear he hu
  rcases hv with rfl | ⟨T, u, rfl⟩
  all_goals
    go_wp2_with fail
    go_ret3
    exact ⟨HU.out _ (.inr ⟨_, _, rfl⟩) (fun t ht => by rw [ht]; rfl), _, rfl⟩


theorem emptied {b : ByteArray} (h : b.data.toList = []) : b.toList.isEmpty = true := by rw [Lib.toList_data, h]; rfl

set_option maxHeartbeats 2000000 in
theorem cutPair_any (k : Nat) (s : ByteArray) (w : World) (hk : s.size ≤ k)
    (ih : ∀ (s : ByteArray) (w : World), s.size ≤ k → Calls Try.prog 110 #[.string s] w fun e w' => CutEnd (cutT k s.data.toList) e ∧ ∃ m, w' = w.drewN m) :
    Calls Try.prog 132 #[.string s] w fun e w' => CutEnd (cutP k s.data.toList) e ∧ ∃ m, w' = w.drewN m := by
  have HI := Lib.hid (ih s w hk)
  have IH := Lib.hid ih
  clear ih
  go_enter Try.func132, Try.ntmps132
  go_wp2_with fail
  refine HI.out.mono ?_
  rintro e w1 ⟨he, n1, rfl⟩
  cases hcut : cutT k s.data.toList with
  | none =>
    rw [hcut] at he
    obtain ⟨v, b, _, rfl⟩ := he
    have HP := Lib.hid (cutP_none hcut)
    clear hcut
    go_wp2_with fail
    go_ret3
    exact ⟨by rw [HP.out]; exact ⟨_, _, .inl rfl, rfl⟩, _, rfl⟩
  | some p =>
    obtain ⟨a, l2⟩ := p
    rw [hcut] at he
    obtain ⟨b, hb, rfl⟩ := he
    simp only [tmV]
    have HC := Lib.hid hcut
    have hlen : b.size ≤ k := by
      have h1 := cutT_less hcut
      have h2 := size_eq b
      have h3 := size_eq s
      rw [hb] at h2; omega
    clear hcut HI
    cases l2 with
    | nil =>
      have hs := emptied hb
      have HP := Lib.hid (cutP_end HC.out)
      clear hb
      go_wp2_with fail
      go_ret3
      exact ⟨by rw [HP.out]; exact ⟨_, _, .inl rfl, rfl⟩, _, rfl⟩
    | cons m l3 =>
      have H := Lib.hid (begins hb)
      have h0 := H.out.pos
      have h1 := H.out.some
      have hm := fun w => mid_any m w
      have hf : (b[0].toNat : Int) = (m.toNat : Int) := by rw [H.out.first]
      have HI2 := Lib.hid (fun w => IH.out (b.extract 1 b.size) w (H.out.less (by omega)))
      rw [H.out.rest] at HI2
      clear hb hm
      cases hmid : isMid m
      · have HP := Lib.hid (cutP_mid HC.out hmid)
        go_wp2_with fail
        refine (mid_any m _).mono ?_
        rintro e w2 ⟨rfl, rfl⟩
        rw [hmid]
        go_wp2_with fail
        go_ret3
        exact ⟨by rw [HP.out]; exact ⟨_, _, .inl rfl, rfl⟩, _, rfl⟩
      · have HM := Lib.hid hmid
        go_wp2_with fail
        refine (mid_any m _).mono ?_
        rintro e w2 ⟨rfl, rfl⟩
        rw [hmid]
        clear hmid
        go_wp2_with fail
        refine (HI2.out _).mono ?_
        rintro e w2 ⟨he, n2, rfl⟩
        cases hcut : cutT k l3 with
        | none =>
          rw [hcut] at he
          obtain ⟨v, b2, _, rfl⟩ := he
          have HP := Lib.hid (cutP_none2 HC.out HM.out hcut)
          clear hcut
          go_wp2_with fail
          go_ret3
          exact ⟨by rw [HP.out]; exact ⟨_, _, .inl rfl, rfl⟩, _, rfl⟩
        | some p =>
          obtain ⟨t2, l4⟩ := p
          rw [hcut] at he
          obtain ⟨b2, hb2, rfl⟩ := he
          simp only [tmV]
          have HC2 := Lib.hid hcut
          clear hcut HI2
          cases l4 with
          | nil =>
            have hs := emptied hb2
            have HP := Lib.hid (cutP_end2 HC.out HM.out HC2.out)
            clear hb2
            go_wp2_with fail
            go_ret3
            exact ⟨by rw [HP.out]; exact ⟨_, _, .inl rfl, rfl⟩, _, rfl⟩
          | cons x r =>
            have H2 := Lib.hid (begins hb2)
            have k0 := H2.out.pos
            have k1 := H2.out.some
            clear hb2
            by_cases hx : x = 41
            · subst hx
              have kf : (b2[0].toNat : Int) = 41 := by rw [H2.out.first]; rfl
              have HP := Lib.hid (cutP_some HC.out HM.out HC2.out)
              go_wp2_with fail
              go_quiet (fail)
              go_wp2_with fail
              go_ret3
              exact ⟨by rw [HP.out]; exact ⟨_, H2.out.rest, rfl⟩, _, World.drewN_drewN _ _ _⟩
            · have HX := Lib.hid hx
              have kf : ((b2[0].toNat : Int) != 41) = true := by
                have : ¬ (x.toNat : Int) = 41 := fun e => HX.out ((byte_is (k := 41) (by decide)).1 e)
                rw [H2.out.first]; simpa using this
              have HP := Lib.hid (cutP_shut HC.out HM.out HC2.out hx)
              clear hx
              go_wp2_with fail
              go_ret3
              exact ⟨by rw [HP.out]; exact ⟨_, _, .inl rfl, rfl⟩, _, rfl⟩

set_option maxHeartbeats 1000000 in
theorem cut_open (k : Nat) (s : ByteArray) (w : World) (l : List UInt8) (h : Begins s 40 l) (hk : s.size ≤ k + 1)
    (ih : ∀ (s : ByteArray) (w : World), s.size ≤ k → Calls Try.prog 110 #[.string s] w fun e w' => CutEnd (cutT k s.data.toList) e ∧ ∃ m, w' = w.drewN m) :
    Calls Try.prog 110 #[.string s] w fun e w' => CutEnd (cutP k l) e ∧ ∃ m, w' = w.drewN m := by
  have h0 := h.pos
  have h1 := h.some
  have hc : (s[0].toNat : Int) = 40 := by rw [h.first]; rfl
  have H := Lib.hid h
  have HI := Lib.hid (cutPair_any k (s.extract 1 s.size) w (h.less hk) ih)
  rw [h.rest] at HI
  clear h ih
  have HE : ∀ e, CutEnd (cutP k l) e → ∃ v b ok, e = .returned (.tuple #[v, .string b, .bool ok]) := by
    intro e he
    cases hcut : cutP k l with
    | none => rw [hcut] at he; obtain ⟨v, b, hv, rfl⟩ := he; exact ⟨v, b, false, rfl⟩
    | some p => rw [hcut] at he; obtain ⟨b, hb, rfl⟩ := he; exact ⟨_, b, true, rfl⟩
  go_enter Try.func110, Try.ntmps110
  go_wp2_with fail
  refine HI.out.mono ?_
  rintro e w1 ⟨he, m, rfl⟩
  obtain ⟨v, b, ok, rfl⟩ := HE e he
  have HX := Lib.hid he
  clear he
  go_wp2_with fail
  go_ret3
  exact ⟨HX.out, _, rfl⟩

theorem ne_byte {s : ByteArray} {c : UInt8} {l : List UInt8} (h : Begins s c l) {k : Nat} (hk : k < 256) (hn : c ≠ UInt8.ofNat k) : ¬ ((s[0]'h.pos).toNat : Int) = (k : Int) := by
  rw [h.first]; exact fun e => hn ((byte_is hk).1 e)
set_option maxHeartbeats 1000000 in
theorem cut_no (s : ByteArray) (w : World) (c : UInt8) (l : List UInt8) (h : Begins s c l) (h1 : isOne c = false) (h2 : c ≠ 42) (h3 : isDig c = false) (h4 : c ≠ 40) :
    Calls Try.prog 110 #[.string s] w fun e w' => CutEnd none e ∧ ∃ m, w' = w.drewN m := by
  have p0 := h.pos
  have p1 := h.some
  simp [isOne] at h1
  simp [isDig] at h3
  have b48 : ¬ (s[0].toNat : Int) = 48 := ne_byte (k := 48) h (by decide) h1.1.1
  have b49 : ¬ (s[0].toNat : Int) = 49 := ne_byte (k := 49) h (by decide) h1.1.2
  have b97 : ¬ (s[0].toNat : Int) = 97 := ne_byte (k := 97) h (by decide) h1.2
  have b42 : ¬ (s[0].toNat : Int) = 42 := ne_byte (k := 42) h (by decide) h2
  have b50 : ¬ (s[0].toNat : Int) = 50 := ne_byte (k := 50) h (by decide) h3.1.1.1
  have b51 : ¬ (s[0].toNat : Int) = 51 := ne_byte (k := 51) h (by decide) h3.1.1.2
  have b52 : ¬ (s[0].toNat : Int) = 52 := ne_byte (k := 52) h (by decide) h3.1.2
  have b53 : ¬ (s[0].toNat : Int) = 53 := ne_byte (k := 53) h (by decide) h3.2
  have b40 : ¬ (s[0].toNat : Int) = 40 := ne_byte (k := 40) h (by decide) h4
  clear h1 h2 h3 h4 h
  go_enter Try.func110, Try.ntmps110
  go_wp2_with fail
  go_ret3
  exact ⟨⟨_, _, .inl rfl, rfl⟩, 0, rfl⟩
set_option maxHeartbeats 1000000 in
theorem cut_empty (s : ByteArray) (w : World) (h : s.data.toList = []) :
    Calls Try.prog 110 #[.string s] w fun e w' => CutEnd none e ∧ ∃ m, w' = w.drewN m := by
  have h1 := emptied h
  clear h
  go_enter Try.func110, Try.ntmps110
  go_wp2_with fail
  go_ret3
  exact ⟨⟨_, _, .inl rfl, rfl⟩, 0, rfl⟩

/-- The walk of impl.cutTerm, whatever the text. -/
theorem cutTerm_any : ∀ (k : Nat) (s : ByteArray) (w : World), s.size ≤ k → Calls Try.prog 110 #[.string s] w fun e w' => CutEnd (cutT k s.data.toList) e ∧ ∃ m, w' = w.drewN m := by
  intro k
  induction k with
  | zero =>
    intro s w hk
    have h : s.data.toList = [] := by
      have := size_eq s
      exact List.eq_nil_of_length_eq_zero (by omega)
    exact cut_empty s w h
  | succ k ih =>
    intro s w hk
    cases hl : s.data.toList with
    | nil => rw [cutT_nil]; exact cut_empty s w hl
    | cons c l =>
      have H := begins hl
      cases h1 : isOne c
      · by_cases h2 : c = 42
        · subst h2; rw [cutT_star]; exact cut_star k s w l H hk ih
        · cases h3 : isDig c
          · by_cases h4 : c = 40
            · subst h4; rw [cutT_open]; exact cut_open k s w l H hk ih
            · rw [cutT_other h1 h2 h3 h4]; exact cut_no s w c l H h1 h2 h3 h4
          · rw [cutT_dig h3]
            rcases dig_cases h3 with rfl | rfl | rfl | rfl
            · exact cut_dig50 k s w l H hk ih
            · exact cut_dig51 k s w l H hk ih
            · exact cut_dig52 k s w l H hk ih
            · exact cut_dig53 k s w l H hk ih
      · rw [cutT_one h1]; exact cut_sign s w c l H h1

/-- What readTerm answers. -/
def ReadTerm (o : Option Tm) (e : Ending) : Prop :=
  match o with
  | some t => e = .returned (.tuple #[tmV t, .bool true])
  | none => e = .returned (.tuple #[.nilIface, .bool false])
set_option maxHeartbeats 1000000 in
theorem readTerm_any (s : ByteArray) (w : World) : Calls Try.prog 84 #[.string s] w fun e w' => ReadTerm (termOf s.data.toList) e ∧ ∃ m, w' = w.drewN m := by
  have hsz := size_eq s
  by_cases hk : s.size ≤ 60
  · have hl : s.data.toList.length ≤ 60 := by omega
    have HI := Lib.hid (cutTerm_any 60 s w hk)
    have HL := Lib.hid hl
    clear hsz hl
    go_enter Try.func84, Try.ntmps84
    go_wp2_with fail
    refine HI.out.mono ?_
    rintro e w1 ⟨he, m, rfl⟩
    cases hcut : cutT 60 s.data.toList with
    | none =>
      rw [hcut] at he
      obtain ⟨v, b, _, rfl⟩ := he
      have HP := Lib.hid (termOf_none HL.out hcut)
      clear hcut
      go_wp2_with fail
      go_ret2
      exact ⟨by rw [HP.out]; rfl, _, rfl⟩
    | some p =>
      obtain ⟨t, r⟩ := p
      rw [hcut] at he
      obtain ⟨b, hb, rfl⟩ := he
      cases r with
      | nil =>
        have HP := Lib.hid (termOf_is HL.out hcut)
        have hs := emptied hb
        clear hcut hb
        go_wp2_with fail
        go_ret2
        exact ⟨by rw [HP.out]; rfl, _, rfl⟩
      | cons c r =>
        have HP := Lib.hid (termOf_more HL.out hcut)
        have hs := (begins hb).some
        clear hcut hb
        go_wp2_with fail
        go_ret2
        exact ⟨by rw [HP.out]; rfl, _, rfl⟩
  · have HP := Lib.hid (termOf_long (l := s.data.toList) (by omega))
    have hd : (60 : Int) < (s.size : Int) := by omega
    clear hsz
    go_enter Try.func84, Try.ntmps84
    go_wp2_with fail
    go_ret2
    exact ⟨by rw [HP.out]; rfl, 0, rfl⟩

theorem implTermIn (s : ByteArray) (w : World) : Calls Try.prog 35 #[.string s] w fun e w' => e = .returned (.bool (termOf s.data.toList).isSome) ∧ ∃ m, w' = w.drewN m := by
  go_enter Try.func35, Try.ntmps35
  go_wp2_with fail
  refine (readTerm_any s w).mono ?_
  rintro e w1 ⟨he, m, rfl⟩
  cases h : termOf s.data.toList with
  | none =>
    rw [h] at he
    rw [show e = _ from he]
    have HP := Lib.hid h
    clear h he
    go_wp2_with fail
    go_ret
    exact ⟨by rw [HP.out]; rfl, _, rfl⟩
  | some t =>
    rw [h] at he
    rw [show e = _ from he]
    have HP := Lib.hid h
    clear h he
    go_wp2_with fail
    go_ret
    exact ⟨by rw [HP.out]; rfl, _, rfl⟩

end Go.Proofs.Ytiphooodijbhiaa
