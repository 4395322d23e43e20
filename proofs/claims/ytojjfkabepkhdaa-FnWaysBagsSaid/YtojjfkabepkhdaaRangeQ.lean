/-
  A range over a function whose rounds may know something of what they are handed, in the world in which they are handed it.
-/
import Derived.RangeFuncNested
import Derived.RangeFuncBound
import Derived.RangeFuncCalls
import Derived.RangeFuncLeaves
import Derived.RangeFuncBox
import Derived.Test.YtojjfkabepkhdaaProg
set_option linter.unusedVariables false
set_option linter.unusedSimpArgs false
namespace Go.Proofs.Ytojjfkabepkhdaa
open Go.RowKit

/-- An iterator that tells each round something (Kn) of its element. -/
def SeqQ {α : Type} (F : Fence) (n : Nat) (P : Program) (g : Nat) (lb : Array Value) (encs : α → Array Value) (Kp : World → World → Prop) (Kn : List α → α → World → Prop) (S Sp : List α → Prop) (w : World) : Prop :=
  ∀ (l : Nat) (J Jx : List α → World → Prop) (W : World), Below w.heap.size w W → AbidesFrom W.heap.size J → AbidesFrom W.heap.size Jx →
    (∀ pre x V, J pre V → Kn pre x V → YieldAt F (n - 1) P l (encs x) V fun e V' => (e = .returned (.bool true) ∧ J (pre ++ [x]) V' ∧ Kp V V') ∨ (e = .returned (.bool false) ∧ Jx (pre ++ [x]) V')) →
    J [] W → CallsIn F n P g (#[.func (.yield l) #[] #[]] ++ lb) W fun e V => (∃ v, e = .returned v) ∧ ((∃ xs, S xs ∧ J xs V) ∨ (∃ pre, Sp pre ∧ Jx pre V))

/-- How a round's body may be left: the loop's own record lies as it lay. -/
def bodyQ {α : Type} (l : Nat) (Kp : World → World → Prop) (I : List α → World → Prop) (Ix : Code → List α → World → Prop) (xs : List α) (W : World) : Exit → Act → World → Prop
  | .normal, _, V => V.heap[l]? = W.heap[l]? ∧ Kp W V ∧ I xs V
  | .ret, _, V => V.heap[l]? = W.heap[l]? ∧ Ix .ret xs V
  | _, _, _ => False

theorem coreQ {α : Type} {F : Fence} {n : Nat} {P : Program} {Q : Exit → Act → World → Prop} {a : Act} {l gf : Nat} {lb : Array Value} {r0 : Loop} {W1 w0 : World}
    (hr0 : r0.state = .ready) (hp0 : r0.pending = none) (hfn : F.fn r0.fn) (hL1 : W1.heap[l]? = some (.loop r0))
    {encs : α → Array Value} {Kp : World → World → Prop} {Kn : List α → α → World → Prop} {S Sp : List α → Prop} (hseq : SeqQ F (n - 1) P gf lb encs Kp Kn S Sp w0) (hb1 : Below w0.heap.size w0 W1) (hps : ∀ x, (encs x).size = r0.params.size)
    (hKt : ∀ {A B C : World}, Kp A B → Kp B C → Kp A C) (hKb : ∀ (W : World) (r : Loop) (o' : Obj), W.heap[l]? = some (.loop r) → Kp W (W.putObj l o'))
    (I : List α → World → Prop) (Ix : Code → List α → World → Prop) (hIa : AbidesFrom W1.heap.size I) (hIxa : ∀ c, AbidesFrom W1.heap.size (Ix c))
    (hIl : ∀ s W r o', W.heap[l]? = some (.loop r) → I s W → I s (W.putObj l o')) (hIxl : ∀ c s W r o', W.heap[l]? = some (.loop r) → Ix c s W → Ix c s (W.putObj l o')) (hKl : ∀ pre x W r o', W.heap[l]? = some (.loop r) → Kn pre x W → Kn pre x (W.putObj l o'))
    (h0 : I [] W1) (a₁ : α → Act)
    (hassign : ∀ (x : α) (W : World) (K : Act → World → Prop), K (a₁ x) W →
      r0.assign.wpIn (F.inRound l) (n - 1 - 1) P (Exit.then K (fun _ _ _ => False)) { tmps := (r0.params.zip (encs x)).foldl (fun t (p, v) => t.setIfInBounds p v) r0.tmps, defers := [] } W)
    (hbody : ∀ (pre : List α) (x : α) (W : World), (∃ r, W.heap[l]? = some (.loop r)) → I pre W → Kn pre x W → r0.body.wpIn (F.inRound l) (n - 1 - 1) P (bodyQ l Kp I Ix (pre ++ [x]) W) (a₁ x) W)
    (hdone : ∀ (xs : List α) (W : World), S xs → I xs W → Q .normal a W)
    (hstop : ∀ (c : Code) (pre : List α) (W : World), Sp pre → Ix c pre W → c.wpIn F n P Q a W) :
    CallsIn F (n - 1) P gf (#[.func (.yield l) #[] #[]] ++ lb) W1 (rangePost F n P l Q a) := by
  have lt : ∀ {W : World} {r : Loop}, W.heap[l]? = some (.loop r) → l < W.heap.size := fun h => (Array.getElem?_eq_some_iff.1 h).1
  have same : ∀ {W : World} (o : Obj), l < W.heap.size → (W.putObj l o).heap[l]? = some o := fun o h => World.putObj_heap_same h
  have keep : ∀ {A B : World} {row : Option Nat} {r : Loop}, A.grownBy B row → (∀ k, row = some k → W1.heap.size ≤ k ∧ ∃ o : Obj, A.heap[k]? = some o ∧ o.isWalk = true) → A.heap[l]? = some (.loop r) → B.heap[l]? = some (.loop r) :=
    fun hg hr h => (grownBy_keeps hg (fun k e => (hr k e).2) h rfl).trans h
  refine (hseq l (fun pre W => I pre W ∧ W.heap[l]? = some (.loop r0)) (fun pre W => ∃ c, Ix c pre W ∧ W.heap[l]? = some (.loop { r0 with state := .done, pending := some c })) W1 hb1
    (fun s A B row hs hg hr => ⟨hIa s A B row hs.1 hg hr, keep hg hr hs.2⟩) (fun s A B row hs hg hr => hs.elim fun c h => ⟨c, hIxa c s A B row h.1 hg hr, keep hg hr h.2⟩) ?_ ⟨h0, hL1⟩).mono ?_
  · rintro pre x W ⟨hi, hl⟩ hk
    have hlt := lt hl
    refine ⟨r0.fn, _, r0.assign, r0.body, run_yield (P := P) (args := encs x) hl (hps x), roundIn_of_wpIn hfn (hassign x W _ ⟨_, run_beginRound hl hr0, ?_⟩)⟩
    have hl2 := same (.loop { r0 with state := .busy }) hlt
    refine wpIn_mono (hbody pre x _ ⟨_, hl2⟩ (hIl _ _ _ _ hl hi) (hKl _ _ _ _ _ hl hk)) ?_
    have hw2 : Kp W (W.putObj l (.loop { r0 with state := .busy })) := hKb _ _ _ hl
    rintro e a3 V hp
    cases e with
    | normal =>
      obtain ⟨h1, h2, h3⟩ := hp
      rw [hl2] at h1
      have hv := lt h1
      have hr := run_endRound (P := P) none h1
      refine ⟨_, _, hr, .inl ⟨rfl, ⟨hIl _ _ _ _ h1 h3, ?_⟩, hKt (hKt hw2 h2) (hKb _ _ _ h1)⟩⟩
      rw [same _ hv]
      simp [← hr0, ← hp0]
    | ret =>
      obtain ⟨h1, h3⟩ := hp
      rw [hl2] at h1
      have hv := lt h1
      exact ⟨_, _, run_endRound (P := P) (some .ret) h1, .inr ⟨rfl, .ret, hIxl _ _ _ _ _ h1 h3, same _ hv⟩⟩
    | exit id => exact hp.elim
    | goto t => exact hp.elim
    | panic ch => exact hp.elim
    | outgrown => exact hp.elim
  · rintro e V ⟨⟨v, rfl⟩, (⟨xs, hS, hi, hl⟩ | ⟨pre, hSp, c, hi, hl⟩)⟩
    · exact ⟨r0.pending, _, run_endLoop (P := P) hl (by rw [hr0]; simp), by rw [hp0]; exact hdone xs _ hS (hIl _ _ _ _ hl hi)⟩
    · exact ⟨some c, _, run_endLoop (P := P) hl (by simp), hstop c pre _ hSp (hIxl _ _ _ _ _ hl hi)⟩

/-- How a round's body may be left, for a caller: whatever is no cells and lies at or beyond B lies as it lay. -/
def postQ {α : Type} (B : Nat) (Kp : World → World → Prop) (I Ix : List α → World → Prop) (xs : List α) (W : World) : Exit → Act → World → Prop
  | .normal, _, V => KeepsFrom B W V ∧ Kp W V ∧ I xs V
  | .ret, _, V => KeepsFrom B W V ∧ Ix xs V
  | _, _, _ => False

/-- A loop that stands in no other loop's round. -/
theorem rangeQ {α : Type} {F : Fence} {n : Nat} {P : Program} {g : Operand} {ps : Array Tmp} {assign body : Code} {Q : Exit → Act → World → Prop} {a : Act} {w w0 : World}
    (hro : F.round = none) (h1 : 1 ≤ n) {gf : Nat} {lb : Array Value} (hg : a.eval g = .func (.func gf) #[] lb) (hFg : F.fn gf) (eg : ∀ args w, (callFunc gf args).run P w = .ok (.enter gf args) w)
    {encs : α → Array Value} {Kp : World → World → Prop} {Kn : List α → α → World → Prop} {S Sp : List α → Prop} (hseq : SeqQ F (n - 1) P gf lb encs Kp Kn S Sp w0) (hb0 : Below w0.heap.size w0 w) (hps : ∀ x, (encs x).size = ps.size)
    (hKt : ∀ {A B C : World}, Kp A B → Kp B C → Kp A C) (hKb : ∀ (W : World) (l : Nat) (r : Loop) (o' : Obj), w.heap.size ≤ l → W.heap[l]? = some (.loop r) → Kp W (W.putObj l o'))
    (I Ix : List α → World → Prop) (hI : OwnFrom w.heap.size I) (hIx : OwnFrom w.heap.size Ix) (hKn : ∀ x, OwnFrom w.heap.size (fun pre W => Kn pre x W)) (h0 : I [] w) (a₁ : α → Act)
    (hassign : ∀ (l : Nat) (x : α) (W : World) (K : Act → World → Prop), K (a₁ x) W →
      assign.wpIn (F.inRound l) (n - 1 - 1) P (Exit.then K (fun _ _ _ => False)) { tmps := (ps.zip (encs x)).foldl (fun t (p, v) => t.setIfInBounds p v) a.tmps, defers := [] } W)
    (hbody : ∀ (l : Nat) (pre : List α) (x : α) (W : World), I pre W → Kn pre x W → body.wpIn (F.inRound l) (n - 1 - 1) P (postQ w.heap.size Kp I Ix (pre ++ [x]) W) (a₁ x) W)
    (hdone : ∀ (D : Nat) (xs : List α) (W : World), w.heap.size ≤ D → S xs → I xs W → W.heap[D]? = some (.deferred (some [])) → Q .normal { a with defers := { target := .collected D, args := #[] } :: a.defers } W)
    (hstop : ∀ (D : Nat) (pre : List α) (W : World), w.heap.size ≤ D → Sp pre → Ix pre W → W.heap[D]? = some (.deferred (some [])) → Code.ret.wpIn F n P Q { a with defers := { target := .collected D, args := #[] } :: a.defers } W) :
    (Code.rangeFunc g ps assign body).wpIn F n P Q a w := by
  refine wpIn_rangeFunc fun fn hfn => ?_
  rw [hro]
  have hsz : (w.alloc (.deferred (some []))).heap.size = w.heap.size + 1 := World.size_alloc _ _
  have two : ∀ r0 : Loop, ((w.alloc (.deferred (some []))).alloc (.loop r0)).heap[w.heap.size + 1]? = some (.loop r0) ∧ ((w.alloc (.deferred (some []))).alloc (.loop r0)).heap[w.heap.size]? = some (.deferred (some [])) ∧
      ((w.alloc (.deferred (some []))).alloc (.loop r0)).heap.size = w.heap.size + 2 := fun r0 => by
    have e := World.alloc_heap_new (w.alloc (.deferred (some []))) (.loop r0)
    rw [hsz] at e
    exact ⟨e, (Below.heap_alloc _ _ _ (by rw [hsz]; omega)).trans (World.alloc_heap_new w _), by rw [World.size_alloc, hsz]⟩
  have far : ∀ {A B : World} {row : Option Nat} {M : Nat}, M = w.heap.size + 2 → (∀ k, row = some k → M ≤ k ∧ ∃ o : Obj, A.heap[k]? = some o ∧ o.isWalk = true) → (∀ k, row = some k → w.heap.size ≤ k ∧ ∃ o : Obj, A.heap[k]? = some o ∧ o.isCells = false) :=
    fun hM hr k e => by obtain ⟨h, o, ho, hw⟩ := hr k e; exact ⟨by omega, o, ho, Obj.not_cells_of_walk hw⟩
  obtain ⟨r0, hr⟩ : ∃ r0 : Loop, r0 = { state := .ready, pending := none, fn, tmps := a.tmps, params := ps, assign, body, defers := w.heap.size } := ⟨_, rfl⟩
  obtain ⟨t1, t2, t3⟩ := two r0
  have hlast := run_enterLoop_outer (w := w) (P := P) fn a.tmps ps assign body
  rw [← hr] at hlast
  generalize hW1 : (w.alloc (.deferred (some []))).alloc (.loop r0) = W1 at t1 t2 t3 hlast
  have hbW : Below w.heap.size w W1 := by rw [← hW1]; exact ((Below.refl _ w).alloc (Nat.le_refl _) _).alloc (by simp) _
  have hIW : I [] W1 := by rw [← hW1]; exact hI.alloc _ (hI.alloc _ h0)
  refine ⟨w.heap.size + 1, [{ target := .collected w.heap.size, args := #[] }], W1, { target := .fn (.func gf) lb, args := #[.func (.yield (w.heap.size + 1)) #[] #[]] }, W1, gf, #[.func (.yield (w.heap.size + 1)) #[] #[]] ++ lb, W1, hlast, ?_, ?_, ?_, fun _ => h1, ?_⟩
  · simp only [resolve, hg]
    simp [go_sem]
  · intro f' hf'; simp [Target.leads] at hf'; subst hf'; exact hFg
  · simp [invoke, go_sem, eg]
  · subst hr
    refine coreQ rfl rfl hfn t1 hseq (hb0.trans (hbW.mono hb0.size)) hps (fun h k => hKt h k) (fun W r o' hl => hKb W _ r o' (by omega) hl)
      (fun pre W => I pre W ∧ W.heap[w.heap.size]? = some (.deferred (some []))) (fun c pre W => c = .ret ∧ Ix pre W ∧ W.heap[w.heap.size]? = some (.deferred (some [])))
      (fun s A B row hs hg' hr => ⟨hI s A B row hs.1 hg' (far (B := B) t3 hr), (grownBy_keeps hg' (fun r e => (hr r e).2) hs.2 rfl).trans hs.2⟩)
      (fun c s A B row hs hg' hr => ⟨hs.1, hIx s A B row hs.2.1 hg' (far (B := B) t3 hr), (grownBy_keeps hg' (fun r e => (hr r e).2) hs.2.2 rfl).trans hs.2.2⟩)
      (fun s W r o' hl hs => ⟨hI.putObj o' hs.1 (by omega) hl rfl, (World.putObj_heap_other (by omega)).trans hs.2⟩)
      (fun c s W r o' hl hs => ⟨hs.1, hIx.putObj o' hs.2.1 (by omega) hl rfl, (World.putObj_heap_other (by omega)).trans hs.2.2⟩)
      (fun pre x W r o' hl hk => (hKn x).putObj (s := pre) o' hk (by omega) hl rfl)
      ⟨hIW, t2⟩ a₁ (hassign _) ?_ (fun xs W hS hi => hdone _ xs W (Nat.le_refl _) hS hi.1 hi.2) (fun c pre W hSp hx => by obtain ⟨rfl, hx, hk⟩ := hx; exact hstop _ pre W (Nat.le_refl _) hSp hx hk)
    rintro pre x W ⟨r, hl⟩ ⟨hi, hk⟩ hkn
    refine wpIn_mono (hbody _ pre x W hi hkn) ?_
    rintro e a3 V hp
    cases e with
    | normal => exact ⟨(hp.1.same _ _ (by omega) hl rfl).trans hl.symm, hp.2.1, hp.2.2, hp.1.same _ _ (Nat.le_refl _) hk rfl⟩
    | ret => exact ⟨(hp.1.same _ _ (by omega) hl rfl).trans hl.symm, rfl, hp.2, hp.1.same _ _ (Nat.le_refl _) hk rfl⟩
    | exit id => exact hp.elim
    | goto t => exact hp.elim
    | panic ch => exact hp.elim
    | outgrown => exact hp.elim

end Go.Proofs.Ytojjfkabepkhdaa
