/- Ranges over closures that hand out values one by one: where a round may leave; where a round writes a map that lay ahead of the loop. No program here; no condition. -/
import Derived.Test.YtedldebomoplmaaJReg
import Derived.Test.YtedldebomoplmaaVals
import Derived.Test.YtedldebomoplmaaNums
import Derived.RangeFuncNested
import Derived.RangeFuncCalls
import Derived.RangeFuncLeaves
import Derived.RangeFuncWrites
import Derived.OwnWalk
import Derived.Maps.AppendAt
import Derived.Maps.OwnIn
import Derived.OwnWalkIn
import Derived.TacticsInMore
import Derived.LoopNIn
import Derived.LoopIn
set_option maxRecDepth 100000
namespace Go.Proofs.Ytedldebomoplmaa
open Go.RowKit
set_option linter.unusedVariables false

/-- what lies below n0, and k blocks from B on, stays as it is -/
def KeepsTo (n0 B k : Nat) (W W' : World) : Prop := ∀ i, (i < n0 ∨ (B ≤ i ∧ i < B + k)) → W'.heap[i]? = W.heap[i]?
theorem KeepsTo.refl (n0 B k : Nat) (W : World) : KeepsTo n0 B k W W := fun _ _ => rfl
theorem KeepsTo.trans {n0 B k : Nat} {X Y Z : World} (h : KeepsTo n0 B k X Y) (h' : KeepsTo n0 B k Y Z) : KeepsTo n0 B k X Z := fun i hi => (h' i hi).trans (h i hi)
theorem KeepsTo.drewN {n0 B k : Nat} {X Y : World} (h : KeepsTo n0 B k X Y) (q : Nat) : KeepsTo n0 B k X (Y.drewN q) := fun i hi => h i hi
theorem KeepsTo.blkv {n0 B k : Nat} {X Y : World} {t : TypeId} {g : Nat} {vs : List Value} (h : KeepsTo n0 B k X Y) (hb : BlkV X t g vs) (h0 : B ≤ g) (h1 : g < B + k) : BlkV Y t g vs := (h g (.inr ⟨h0, h1⟩)).trans hb
theorem KeepsTo.ns {n0 B k n C : Nat} {X Y : World} {A : Option Addr} {xs : List Int} (h : KeepsTo n0 B k X Y) (hb : Ns X C A n xs) (hC : C ≤ n0) : Ns Y C A n xs := hb.keep fun p hp => World.cell?_of_block (w := X) (h p.block (.inl (by omega)))
theorem KeepsTo.setCell {n0 B k : Nat} {X Y : World} (h : KeepsTo n0 B k X Y) (p : Addr) (v : Value) (h0 : n0 ≤ p.block) (h1 : p.block < B ∨ B + k ≤ p.block) : KeepsTo n0 B k X (Y.setCell p v) := fun i hi => (Below.heap_setCell Y p v i (show i ≠ p.block by omega)).trans (h i hi)
theorem KeepsTo.alloc {n0 B k : Nat} {X Y : World} (h : KeepsTo n0 B k X Y) (o : Obj) (h0 : n0 ≤ Y.heap.size) (h1 : B + k ≤ Y.heap.size) : KeepsTo n0 B k X (Y.alloc o) := fun i hi => (Below.heap_alloc Y o i (by omega)).trans (h i hi)
theorem KeepsTo.putObj {n0 B k : Nat} (W : World) (l : Nat) (o : Obj) (h0 : n0 ≤ l) (h1 : B + k ≤ l) : KeepsTo n0 B k W (W.putObj l o) := fun i hi => World.putObj_heap_other (by omega)
theorem KeepsTo.low {n0 B k m : Nat} {X Y : World} (h : Below m X Y) (h0 : n0 ≤ m) (h1 : B + k ≤ m) : KeepsTo n0 B k X Y := fun i hi => h.block i (by omega)
theorem KeepsTo.grown {n0 B k : Nat} {X Y Z : World} {row : Option Nat} (h : KeepsTo n0 B k X Y) (hg : Y.grownBy Z row) (h0 : n0 ≤ Y.heap.size) (h1 : B + k ≤ Y.heap.size) (hr : ∀ j, row = some j → n0 ≤ j ∧ (j < B ∨ B + k ≤ j)) : KeepsTo n0 B k X Z := fun i hi => (hg.block i (by omega) (fun e => by have := hr i e.symm; omega)).trans (h i hi)

section
variable {t : TypeId} {W W' : World} {row : Option Nat}
theorem BlkV.keptC {g : Nat} {vs : List Value} (h : BlkV W t g vs) (hg : W.grownBy W' row) (hr : ∀ r, row = some r → ∃ o : Obj, W.heap[r]? = some o ∧ o.isCells = false) : BlkV W' t g vs :=
  (grownBy_keeps_cells hg hr h rfl).trans h
theorem OwnN.keptC {base n c : Nat} {A : Option Addr} {ys : List Int} (h : OwnN t W base A n c ys) (hg : W.grownBy W' row) (hr : ∀ r, row = some r → ∃ o : Obj, W.heap[r]? = some o ∧ o.isCells = false) : OwnN t W' base A n c ys := by
  refine ⟨⟨h.1.1, ?_⟩, h.2⟩
  rcases h.1.2 with e | ⟨g, cap, cur, e, hbg, hgg, r⟩
  · exact .inl e
  · exact .inr ⟨g, cap, cur, e, hbg, (grownBy_keeps_cells hg hr hgg rfl).trans hgg, r⟩
theorem OwnN.cellsRow {base n c k : Nat} {A : Option Addr} {ys : List Int} (h : OwnN t W base A n c ys) (hk : (Value.slice A n c).ownBlock = some k) {o : Obj} (ho : W.heap[k]? = some o) : o.isCells = true := by
  rcases h.1.2 with ⟨e, _⟩ | ⟨g, cap, cur, e, _, hgg, _⟩
  · injection e with e1
    subst e1
    cases hk
  · injection e with e1
    subst e1
    have : g = k := by simpa [Value.ownBlock] using hk
    subst this
    rw [hgg] at ho
    cases ho
    rfl
end

/-- a range over a function whose values come one by one; a round may leave: the loop's variable is one temporary -/
theorem wpIn_seq_x {α : Type} {P : Program} {n : Nat} {g : Operand} {ps : Array Tmp} {assign body : Code} {Q : Exit → Act → World → Prop} {T : Array Value} {ds : List Deferred} {w : World} {gf : Nat} {lb : Array Value}
    (hg : Act.eval ⟨T, ds⟩ g = .func (.func gf) #[] lb) (eg : ∀ args w, (callFunc gf args).run P w = .ok (.enter gf args) w) (h1 : 1 ≤ n)
    {enc : α → Value} {Kp : World → World → Prop} {S Sp : List α → Prop} {N : Nat} {w0 : World} (hseq : SeqStopsK Fence.wide (n - 1) P gf lb (fun x => #[enc x]) Kp S Sp N w0)
    (hKt : ∀ {A B C : World}, Kp A B → Kp B C → Kp A C) (hKb : ∀ (W : World) (l : Nat) (o o' : Obj), w.heap.size ≤ l → W.heap[l]? = some o → o.isCells = false → o.isWalk = false → Kp W (W.putObj l o')) (hb0 : Below w0.heap.size w0 w)
    (p q : Tmp) (hps : ps = #[p]) (I : List α → World → Prop) (Ix : Code → List α → World → Prop) (hI : OwnFrom w.heap.size I) (hIx : ∀ c, OwnFrom w.heap.size (Ix c)) (h0 : I [] w)
    (hassign : ∀ (l : Nat) (v : Value) (W : World) (K : Act → World → Prop), K ⟨(T.setIfInBounds p v).setIfInBounds q v, []⟩ W →
      assign.wpIn (Fence.wide.inRound l) (n - 1 - 1) P (Exit.then K (fun _ _ _ => False)) ⟨T.setIfInBounds p v, []⟩ W)
    (hbody : ∀ (l : Nat) (pre : List α) (x : α) (W : World), I pre W → pre.length < N →
      body.wpIn (Fence.wide.inRound l) (n - 1 - 1) P (ownPostK Kp I Ix (pre ++ [x]) W) ⟨(T.setIfInBounds p (enc x)).setIfInBounds q (enc x), []⟩ W)
    (hdone : ∀ (D : Nat) (xs : List α) (W : World), w.heap.size ≤ D → S xs → I xs W → W.heap[D]? = some (.deferred (some [])) → Q .normal ⟨T, { target := .collected D, args := #[] } :: ds⟩ W)
    (hstop : ∀ (D : Nat) (c : Code) (pre : List α) (W : World), w.heap.size ≤ D → Sp pre → Ix c pre W → W.heap[D]? = some (.deferred (some [])) → c.wpIn Fence.wide n P Q ⟨T, { target := .collected D, args := #[] } :: ds⟩ W) :
    (Code.rangeFunc g ps assign body).wpIn Fence.wide n P Q ⟨T, ds⟩ w := by
  subst hps
  exact wpIn_rangeFunc_ownF rfl h1 hg trivial eg hseq hKt hKb hb0 (fun _ => rfl) I Ix hI hIx h0 (fun x => ⟨(T.setIfInBounds p (enc x)).setIfInBounds q (enc x), []⟩)
    (fun l x W K hK => by have h := hassign l (enc x) W K hK; simpa using h) hbody hdone hstop

/-- .. whose rounds may write what lay ahead of the loop; no round leaves -/
theorem wpIn_seq_w {α : Type} {P : Program} {n : Nat} {g : Operand} {ps : Array Tmp} {assign body : Code} {Q : Exit → Act → World → Prop} {T : Array Value} {ds : List Deferred} {w : World} {gf : Nat} {lb : Array Value}
    (hg : Act.eval ⟨T, ds⟩ g = .func (.func gf) #[] lb) (eg : ∀ args w, (callFunc gf args).run P w = .ok (.enter gf args) w) (h1 : 1 ≤ n)
    {enc : α → Value} {Kp : World → World → Prop} {S Sp : List α → Prop} {N : Nat} {w0 : World} (hseq : SeqStopsK Fence.wide (n - 1) P gf lb (fun x => #[enc x]) Kp S Sp N w0)
    (hKt : ∀ {A B C : World}, Kp A B → Kp B C → Kp A C) (hKb : ∀ (W : World) (l : Nat) (o o' : Obj), w.heap.size ≤ l → W.heap[l]? = some o → o.isCells = false → o.isWalk = false → Kp W (W.putObj l o')) (hb0 : Below w0.heap.size w0 w)
    (p q : Tmp) (hps : ps = #[p]) (I : List α → World → Prop) (hI : OwnFrom w.heap.size I) (h0 : I [] w)
    (hassign : ∀ (l : Nat) (v : Value) (W : World) (K : Act → World → Prop), K ⟨(T.setIfInBounds p v).setIfInBounds q v, []⟩ W →
      assign.wpIn (Fence.wide.inRound l) (n - 1 - 1) P (Exit.then K (fun _ _ _ => False)) ⟨T.setIfInBounds p v, []⟩ W)
    (hbody : ∀ (l : Nat) (pre : List α) (x : α) (W : World), I pre W → pre.length < N →
      body.wpIn (Fence.wide.inRound l) (n - 1 - 1) P (ownPostG w.heap.size Kp I (fun _ _ _ => False) (pre ++ [x]) W) ⟨(T.setIfInBounds p (enc x)).setIfInBounds q (enc x), []⟩ W)
    (hdone : ∀ (D : Nat) (xs : List α) (W : World), w.heap.size ≤ D → S xs → I xs W → W.heap[D]? = some (.deferred (some [])) → Q .normal ⟨T, { target := .collected D, args := #[] } :: ds⟩ W) :
    (Code.rangeFunc g ps assign body).wpIn Fence.wide n P Q ⟨T, ds⟩ w := by
  subst hps
  exact wpIn_rangeFunc_ownG rfl h1 hg trivial eg hseq hKt hKb hb0 (fun _ => rfl) I (fun _ _ _ => False) hI (fun _ _ _ _ _ h _ _ => h) h0 (fun x => ⟨(T.setIfInBounds p (enc x)).setIfInBounds q (enc x), []⟩)
    (fun l x W K hK => by have h := hassign l (enc x) W K hK; simpa using h) hbody hdone (fun _ _ _ _ _ _ h _ => h.elim)
end Go.Proofs.Ytedldebomoplmaa
