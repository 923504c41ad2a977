/- A range over a function that hands out lists of bytes which lie in memory: a law for the caller whose body may read each of them. No condition. -/
import Derived.Test.YtnfiijbnfmcpjaaBytes
import Derived.Test.YtnfiijbnfmcpjaaReg
import Derived.RangeFuncNested
import Derived.RangeFuncCalls
import Derived.RangeFuncLeaves
import Derived.WalkKit
import Derived.OwnWalkIn
import Derived.TacticsInMore
import Derived.LoopNIn
import Derived.LoopIn
namespace Go.Proofs.Ytnfiijbnfmcpjaa
open Go.RowKit
set_option linter.unusedVariables false

/-- all blocks of cells of one type stay as they are -/
def KeepsT (t : TypeId) (W W' : World) : Prop := ∀ (k : Nat) (cs : Array Value) (z : Nat × Nat), W.heap[k]? = some (.cells cs t z) → W'.heap[k]? = some (.cells cs t z)
section
variable {t : TypeId} {A B C : World}
theorem KeepsT.refl (t : TypeId) (A : World) : KeepsT t A A := fun _ _ _ h => h
theorem KeepsT.trans (h : KeepsT t A B) (k : KeepsT t B C) : KeepsT t A C := fun i cs z hi => k i cs z (h i cs z hi)
theorem KeepsT.low (h : Low A B) : KeepsT t A B := fun i cs z hi => (Below.block h i (Array.getElem?_eq_some_iff.1 hi).1).trans hi
theorem KeepsT.setCell {p : Addr} {u : Value} {cs : Array Value} {t' : TypeId} {z : Nat × Nat} (hp : A.heap[p.block]? = some (.cells cs t' z)) (ht : t' ≠ t) : KeepsT t A (A.setCell p u) := fun i cs' z' hi => by
  refine (Below.heap_setCell A p u i ?_).trans hi
  rintro rfl
  rw [hp] at hi
  injection hi with hi
  injection hi with _ hi _
  exact ht hi
theorem KeepsT.putObj {l : Nat} {o o' : Obj} (hl : A.heap[l]? = some o) (ho : o.isCells = false) : KeepsT t A (A.putObj l o') := fun i cs z hi => by
  refine (World.putObj_heap_other ?_).trans hi
  rintro rfl
  rw [hl] at hi
  injection hi with hi
  subst hi
  cases ho
theorem KeepsT.grown {row : Option Nat} (hg : A.grownBy B row) (hr : ∀ r, row = some r → ∀ cs z, A.heap[r]? ≠ some (.cells cs t z)) : KeepsT t A B := fun i cs z hi => by
  refine (hg.block i (Array.getElem?_eq_some_iff.1 hi).1 fun e => ?_).trans hi
  exact hr i e.symm cs z hi
theorem grown_of_low (h : Low A B) : A.grownBy B none := ⟨Below.os h, Below.tape h, Below.output h, Below.size h, fun k hk _ => Below.block h k hk⟩
theorem bs_putObj {n : Nat} {X : Option Addr} {xs : List Int} {l : Nat} {o o' : Obj} (h : Bs A A.heap.size X n xs) (hl : A.heap[l]? = some o) (ho : o.isCells = false) : Bs (A.putObj l o') (A.putObj l o').heap.size X n xs :=
  ⟨h.len, h.all, fun hn => by
    obtain ⟨b, p, e, hb, hc⟩ := h.mem hn
    exact ⟨b, p, e, by simpa using hb, fun i hi => cell_kept (hc i hi) (grownBy_putObj' A l o') fun r e => by cases e; exact ⟨o, hl, ho⟩⟩⟩
end

/-- the function, at what it has captured, hands out these lists one by one, each as it lies in memory; between two of them it relies on what lay below block n0, and on the blocks of type t -/
def SeqParts (n : Nat) (P : Program) (gf : Nat) (lb : Array Value) (t : TypeId) (n0 : Nat) (parts : List (List Int)) (w0 : World) : Prop :=
  ∀ (l : Nat) (J : Nat → World → Prop) (Jx : World → Prop) (W : World), Low w0 W → (∀ j A B, J j A → Low A B → J j B) →
    (∀ j A m c W1, J j W1 → j < parts.length → m ≤ 140737488355328 → Bs W1 W1.heap.size A m (parts.getD j []) → YieldAt Fence.wide (n - 1) P l #[.slice A m c] W1 fun e W' =>
      (e = .returned (.bool true) ∧ J (j + 1) W' ∧ Below n0 W1 W' ∧ KeepsT t W1 W') ∨ (e = .returned (.bool false) ∧ Jx W')) →
    J 0 W → CallsIn Fence.wide n P gf (#[.func (.yield l) #[] #[]] ++ lb) W fun e W' => (∃ v, e = .returned v) ∧ (J parts.length W' ∨ Jx W')

/-- how the loop's body may be left -/
def partsPost (t : TypeId) (n0 : Nat) (I : Nat → World → Prop) (Ix : World → Prop) (j : Nat) (W : World) : Exit → Act → World → Prop
  | .normal, _, W' => KeepsOthers W W' ∧ Below n0 W W' ∧ KeepsT t W W' ∧ I (j + 1) W'
  | .ret, _, W' => KeepsOthers W W' ∧ Ix W'
  | _, _, _ => False

/-- where the loop's record and its block for deferred calls stand -/
structure Rec (R : LoopState → Option Code → Loop) (l D : Nat) (st : LoopState) (pe : Option Code) (W : World) : Prop where
  L : W.heap[l]? = some (.loop (R st pe))
  K : W.heap[D]? = some (.deferred (some []))
theorem Rec.low {R : LoopState → Option Code → Loop} {l D : Nat} {st : LoopState} {pe : Option Code} {W W' : World} (h : Rec R l D st pe W) (hl : Low W W') : Rec R l D st pe W' :=
  ⟨(Below.block hl l (Array.getElem?_eq_some_iff.1 h.L).1).trans h.L, (Below.block hl D (Array.getElem?_eq_some_iff.1 h.K).1).trans h.K⟩
theorem Rec.others {R : LoopState → Option Code → Loop} {l D : Nat} {st : LoopState} {pe : Option Code} {W W' : World} (h : Rec R l D st pe W) (hl : KeepsOthers W W') : Rec R l D st pe W' :=
  ⟨hl.same l _ h.L rfl, hl.same D _ h.K rfl⟩
theorem Rec.turn {R : LoopState → Option Code → Loop} {l D : Nat} {st : LoopState} {pe : Option Code} {W : World} (h : Rec R l D st pe W) (hne : D ≠ l) (st' : LoopState) (pe' : Option Code) : Rec R l D st' pe' (W.putObj l (.loop (R st' pe'))) :=
  ⟨World.putObj_heap_same (Array.getElem?_eq_some_iff.1 h.L).1, (World.putObj_heap_other hne).trans h.K⟩

theorem wpIn_parts {P : Program} {n : Nat} {g : Operand} {ps : Array Tmp} {assign body : Code} {Q : Exit → Act → World → Prop} {a : Act} {w w0 : World} {gf : Nat} {lb : Array Value} {t : TypeId} {n0 : Nat} {parts : List (List Int)}
    (hg : a.eval g = .func (.func gf) #[] lb) (eg : ∀ args w, (callFunc gf args).run P w = .ok (.enter gf args) w)
    (hseq : SeqParts (n - 1) P gf lb t n0 parts w0) (hb0 : Low w0 w) (hn : n0 ≤ w.heap.size) (p : Tmp) (hps : ps = #[p])
    (I : Nat → World → Prop) (Ix : World → Prop) (hI : OwnFrom w.heap.size I) (hIx : OwnFrom w.heap.size (fun (_ : Unit) => Ix)) (h0 : I 0 w) (a₁ : Value → Act)
    (hassign : ∀ (l : Nat) (v : Value) (W : World) (K : Act → World → Prop), K (a₁ v) W →
      assign.wpIn (Fence.wide.inRound l) (n - 1 - 1) P (Exit.then K (fun _ _ _ => False)) { tmps := a.tmps.setIfInBounds p v, defers := [] } W)
    (hbody : ∀ (l j : Nat) (A : Option Addr) (m c : Nat) (W : World), I j W → j < parts.length → m ≤ 140737488355328 → Bs W W.heap.size A m (parts.getD j []) →
      body.wpIn (Fence.wide.inRound l) (n - 1 - 1) P (partsPost t n0 I Ix j W) (a₁ (.slice A m c)) W)
    (hdone : ∀ (D : Nat) (W : World), w.heap.size ≤ D → I parts.length W → W.heap[D]? = some (.deferred (some [])) → Q .normal { a with defers := { target := .collected D, args := #[] } :: a.defers } W)
    (hstop : ∀ (D : Nat) (W : World), w.heap.size ≤ D → Ix W → W.heap[D]? = some (.deferred (some [])) → Code.ret.wpIn Fence.wide n P Q { a with defers := { target := .collected D, args := #[] } :: a.defers } W) :
    (Code.rangeFunc g ps assign body).wpIn Fence.wide n P Q a w := by
  subst hps
  refine wpIn_rangeFunc fun fn hfn => ?_
  obtain ⟨R, hR⟩ : ∃ R : LoopState → Option Code → Loop, R = fun st pe => { state := st, pending := pe, fn := fn, tmps := a.tmps, params := #[p], assign := assign, body := body, defers := w.heap.size } := ⟨_, rfl⟩
  have hrun := run_enterLoop_outer (P := P) (w := w) fn a.tmps #[p] assign body
  obtain ⟨W1, hW1⟩ : ∃ W1, W1 = (w.alloc (.deferred (some []))).alloc (.loop (R .ready none)) := ⟨_, rfl⟩
  have hlow : Low w W1 := by rw [hW1]; exact (Low.alloc w _).trans (Low.alloc _ _)
  have hrec : Rec R (w.heap.size + 1) w.heap.size .ready none W1 := by
    rw [hW1]
    refine ⟨?_, (Below.heap_alloc _ _ _ (by simp)).trans (World.alloc_heap_new w _)⟩
    have := World.alloc_heap_new (w.alloc (.deferred (some []))) (.loop (R .ready none))
    rwa [World.size_alloc] at this
  have hne : w.heap.size ≠ w.heap.size + 1 := by omega
  have put : ∀ {j : Nat} {W : World} (o' : Obj) {st : LoopState} {pe : Option Code}, I j W → Rec R (w.heap.size + 1) w.heap.size st pe W → I j (W.putObj (w.heap.size + 1) o') := fun o' _ _ hi hr => hI.putObj o' hi (by omega) hr.L rfl
  have putx : ∀ {W : World} (o' : Obj) {st : LoopState} {pe : Option Code}, Ix W → Rec R (w.heap.size + 1) w.heap.size st pe W → Ix (W.putObj (w.heap.size + 1) o') := fun o' _ _ hi hr => hIx.putObj (s := ()) o' hi (by omega) hr.L rfl
  have pass : ∀ {j : Nat} {A B : World}, I j A → Low A B → I j B := fun hi hl => hI _ _ _ none hi (grown_of_low hl) fun r e => by cases e
  have keep : ∀ {W : World} {st : LoopState} {pe : Option Code} (o' : Obj), Rec R (w.heap.size + 1) w.heap.size st pe W → Below n0 W (W.putObj (w.heap.size + 1) o') ∧ KeepsT t W (W.putObj (w.heap.size + 1) o') := fun o' hr =>
    ⟨belowK_b (w := w) hn _ _ _ o' (by omega) hr.L rfl rfl, KeepsT.putObj hr.L rfl⟩
  refine ⟨w.heap.size + 1, [{ target := .collected w.heap.size, args := #[] }], W1, { target := .fn (.func gf) lb, args := #[.func (.yield (w.heap.size + 1)) #[] #[]] }, W1, gf, #[.func (.yield (w.heap.size + 1)) #[] #[]] ++ lb, W1, ?_, ?_, fun _ _ => trivial, ?_, fun h => (by cases h), ?_⟩
  · rw [hW1, hR]; exact hrun
  · simp only [resolve, hg]
    simp [go_sem]
  · simp [invoke, go_sem, eg]
  · refine (hseq (w.heap.size + 1) (fun j W => I j W ∧ Rec R (w.heap.size + 1) w.heap.size .ready none W) (fun W => Ix W ∧ Rec R (w.heap.size + 1) w.heap.size .done (some .ret) W) W1 (hb0.trans hlow)
      (fun j A B h hl => ⟨pass h.1 hl, h.2.low hl⟩) ?_ ⟨pass h0 hlow, hrec⟩).mono ?_
    · rintro j A m c W ⟨hi, hr⟩ hj hm hb
      have hy : (Instr.yield (w.heap.size + 1) #[.slice A m c]).run P W = .ok (.round (w.heap.size + 1) fn (a.tmps.setIfInBounds p (.slice A m c)) assign body) W := by
        have := run_yield (P := P) (args := #[.slice A m c]) hr.L (by rw [hR]; rfl)
        rw [hR] at this
        simpa using this
      refine ⟨fn, _, assign, body, hy, roundIn_of_wpIn hfn ?_⟩
      refine hassign _ _ W _ ?_
      refine ⟨_, run_beginRound hr.L (by rw [hR]), ?_⟩
      have eb : ({ R .ready none with state := .busy } : Loop) = R .busy none := by rw [hR]
      rw [eb]
      have hr2 := hr.turn hne .busy none
      have hk2 := keep (.loop (R .busy none)) hr
      refine wpIn_mono (hbody _ j A m c _ (put _ hi hr) hj hm (bs_putObj hb hr.L rfl)) ?_
      rintro e a3 W3 hp
      cases e with
      | normal =>
        obtain ⟨h1, h2, h3, h4⟩ := hp
        have hr3 := hr2.others h1
        have he := run_endRound (P := P) none hr3.L
        have ee : ({ R .busy none with state := if (none : Option Code).isNone then .ready else .done, pending := none } : Loop) = R .ready none := by rw [hR]; rfl
        rw [ee] at he
        have hk3 := keep (.loop (R .ready none)) hr3
        exact ⟨_, _, he, .inl ⟨rfl, ⟨put _ h4 hr3, hr3.turn hne _ _⟩, (hk2.1.trans h2).trans hk3.1, (hk2.2.trans h3).trans hk3.2⟩⟩
      | ret =>
        obtain ⟨h1, h2⟩ := hp
        have hr3 := hr2.others h1
        have he := run_endRound (P := P) (some .ret) hr3.L
        have ee : ({ R .busy none with state := if (some Code.ret).isNone then .ready else .done, pending := some .ret } : Loop) = R .done (some .ret) := by rw [hR]; rfl
        rw [ee] at he
        exact ⟨_, _, he, .inr ⟨rfl, putx _ h2 hr3, hr3.turn hne _ _⟩⟩
      | exit id => exact hp.elim
      | goto id => exact hp.elim
      | panic ch => exact hp.elim
      | outgrown => exact hp.elim
    · rintro e W2 ⟨⟨v, rfl⟩, ⟨hi, hr⟩ | ⟨hi, hr⟩⟩
      · have he := run_endLoop (P := P) hr.L (by rw [hR]; simp)
        have ep : (R .ready none).pending = none := by rw [hR]
        rw [ep] at he
        exact ⟨none, _, he, hdone _ _ (Nat.le_refl _) (put _ hi hr) ((World.putObj_heap_other hne).trans hr.K)⟩
      · have he := run_endLoop (P := P) hr.L (by rw [hR]; simp)
        have ep : (R .done (some .ret)).pending = some .ret := by rw [hR]
        rw [ep] at he
        exact ⟨some .ret, _, he, hstop _ _ (Nat.le_refl _) (putx _ hi hr) ((World.putObj_heap_other hne).trans hr.K)⟩

/-- the same where the loop's variable is slot q -/
theorem wpIn_parts_q {P : Program} {n : Nat} {g : Operand} {ps : Array Tmp} {assign body : Code} {Q : Exit → Act → World → Prop} {T : Array Value} {ds : List Deferred} {w w0 : World} {gf : Nat} {lb : Array Value} {t : TypeId} {n0 : Nat} {parts : List (List Int)}
    (hg : Act.eval ⟨T, ds⟩ g = .func (.func gf) #[] lb) (eg : ∀ args w, (callFunc gf args).run P w = .ok (.enter gf args) w)
    (hseq : SeqParts (n - 1) P gf lb t n0 parts w0) (hb0 : Low w0 w) (hn : n0 ≤ w.heap.size) (p q : Tmp) (hps : ps = #[p])
    (I : Nat → World → Prop) (Ix : World → Prop) (hI : OwnFrom w.heap.size I) (hIx : OwnFrom w.heap.size (fun (_ : Unit) => Ix)) (h0 : I 0 w)
    (hassign : ∀ (l : Nat) (v : Value) (W : World) (K : Act → World → Prop), K ⟨(T.setIfInBounds p v).setIfInBounds q v, []⟩ W →
      assign.wpIn (Fence.wide.inRound l) (n - 1 - 1) P (Exit.then K (fun _ _ _ => False)) ⟨T.setIfInBounds p v, []⟩ W)
    (hbody : ∀ (l j : Nat) (A : Option Addr) (m c : Nat) (W : World), I j W → j < parts.length → m ≤ 140737488355328 → Bs W W.heap.size A m (parts.getD j []) →
      body.wpIn (Fence.wide.inRound l) (n - 1 - 1) P (partsPost t n0 I Ix j W) ⟨(T.setIfInBounds p (.slice A m c)).setIfInBounds q (.slice A m c), []⟩ W)
    (hdone : ∀ (D : Nat) (W : World), w.heap.size ≤ D → I parts.length W → W.heap[D]? = some (.deferred (some [])) → Q .normal ⟨T, { target := .collected D, args := #[] } :: ds⟩ W)
    (hstop : ∀ (D : Nat) (W : World), w.heap.size ≤ D → Ix W → W.heap[D]? = some (.deferred (some [])) → Code.ret.wpIn Fence.wide n P Q ⟨T, { target := .collected D, args := #[] } :: ds⟩ W) :
    (Code.rangeFunc g ps assign body).wpIn Fence.wide n P Q ⟨T, ds⟩ w :=
  wpIn_parts hg eg hseq hb0 hn p hps I Ix hI hIx h0 (fun v => ⟨(T.setIfInBounds p v).setIfInBounds q v, []⟩) hassign hbody hdone hstop
end Go.Proofs.Ytnfiijbnfmcpjaa
