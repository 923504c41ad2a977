/- Objects that keep memory of their own: F is which blocks are an object's; what lies outside it stays as it was. No program here; no condition. -/
import Derived.Test.YthbboiolhejmmaaEl
import Derived.Test.YthbboiolhejmmaaNumG
set_option maxRecDepth 100000
namespace Go.Proofs.Ythbboiolhejmmaa
open Go.RowKit
set_option linter.unusedVariables false

/-- nothing that was there outside F has turned -/
structure Out (F : Nat → Prop) (w w' : World) : Prop where
  os : w'.os = w.os
  tape : w'.tape = w.tape
  output : w'.output = w.output
  size : w.heap.size ≤ w'.heap.size
  block : ∀ k, k < w.heap.size → ¬ F k → w'.heap[k]? = w.heap[k]?
/-- all blocks of F are there -/
def Under (F : Nat → Prop) (w : World) : Prop := ∀ k, F k → k < w.heap.size
/-- what F has become holds new blocks besides alone -/
def Grow (F F' : Nat → Prop) (w : World) : Prop := ∀ k, F' k → F k ∨ w.heap.size ≤ k
section
variable {F F' G : Nat → Prop} {w w' w'' : World} {B : Nat}
theorem Out.refl (F : Nat → Prop) (w : World) : Out F w w := ⟨rfl, rfl, rfl, Nat.le_refl _, fun _ _ _ => rfl⟩
theorem Out.low (h : Low w w') : Out F w w' := ⟨h.os, h.tape, h.output, h.size, fun k hk _ => h.block k hk⟩
theorem Out.trans (h : Out F w w') (k : Out F' w' w'') (hg : Grow F F' w) : Out F w w'' :=
  ⟨k.os.trans h.os, k.tape.trans h.tape, k.output.trans h.output, Nat.le_trans h.size k.size, fun i hi hF => (k.block i (Nat.lt_of_lt_of_le hi h.size) (fun h' => by
    rcases hg i h' with h1 | h1
    · exact hF h1
    · omega)).trans (h.block i hi hF)⟩
theorem Out.then_low (h : Out F w w') (k : Low w' w'') : Out F w w'' := h.trans (F' := F) (Out.low k) fun _ h => .inl h
theorem Out.below (h : Out F w w') (hF : ∀ k, F k → B ≤ k) (hB : B ≤ w.heap.size) : Below B w w' := ⟨h.os, h.tape, h.output, h.size, fun k hk => h.block k (by omega) (fun hf => by have := hF k hf; omega)⟩
theorem Out.cell (h : Out F w w') {p : Addr} (hp : p.block < w.heap.size) (hF : ¬ F p.block) : w'.cell? p = w.cell? p := World.cell?_of_block (w := w) (h.block p.block hp hF)
theorem Grow.refl (F : Nat → Prop) (w : World) : Grow F F w := fun _ h => .inl h
theorem Grow.trans (h : Grow F F' w) (k : Grow F' G w') (hz : w.heap.size ≤ w'.heap.size) : Grow F G w := fun i hi => by
  rcases k i hi with h1 | h1
  · exact h i h1
  · exact .inr (by omega)
theorem Grow.from_ (h : Grow F F' w) (hF : ∀ k, F k → B ≤ k) (hB : B ≤ w.heap.size) : ∀ k, F' k → B ≤ k := fun k hk => by
  rcases h k hk with h1 | h1
  · exact hF k h1
  · omega
theorem Under.more (h : Under F w) (hz : w.heap.size ≤ w'.heap.size) : Under F w' := fun k hk => Nat.lt_of_lt_of_le (h k hk) hz
end

/-- a slice lies outside F -/
def offA (F : Nat → Prop) (A : Option Addr) (n : Nat) : Prop := 0 < n → ∀ b o, A = some ⟨b, o, none⟩ → ¬ F b
theorem offA.none_ (A : Option Addr) (n : Nat) : offA (fun _ => False) A n := fun _ _ _ _ h => h
theorem offA.nil (F : Nat → Prop) (A : Option Addr) : offA F A 0 := fun h => absurd h (by omega)
theorem offA.grow {F F' : Nat → Prop} {w : World} {A : Option Addr} {n : Nat} {xs : List Int} (h : offA F A n) (hg : Grow F F' w) (hn : Ns w w.heap.size A n xs) : offA F' A n := fun h0 b o e hf => by
  obtain ⟨b', o', e', hb, _⟩ := hn.mem h0
  rw [e'] at e
  injection e with e
  injection e with e1 e2 _
  subst e1 e2
  rcases hg _ hf with h1 | h1
  · exact h h0 _ _ e' h1
  · omega
theorem offA.growE {α : Type} {E : Elt α} {F F' : Nat → Prop} {w : World} {A : Option Addr} {n : Nat} {xs : List α} (h : offA F A n) (hg : Grow F F' w) (hn : Es E w w.heap.size A n xs) : offA F' A n := fun h0 b o e hf => by
  obtain ⟨b', o', e', hb, _⟩ := hn.mem h0
  rw [e'] at e
  injection e with e
  injection e with e1 e2 _
  subst e1 e2
  rcases hg _ hf with h1 | h1
  · exact h h0 _ _ e' h1
  · omega
theorem offA.fresh {F : Nat → Prop} {A : Option Addr} {n lo : Nat} (hu : ∀ k, F k → k < lo) (hf : IFrom lo A n) : offA F A n := fun h0 b o e hF => by
  obtain ⟨b', o', e', hl⟩ := hf h0
  rw [e'] at e
  injection e with e
  injection e with e1 e2 _
  subst e1 e2
  have := hu _ hF
  omega
theorem Ns.out {F : Nat → Prop} {w w' : World} {A : Option Addr} {n : Nat} {xs : List Int} (h : Ns w w.heap.size A n xs) (ho : offA F A n) (hO : Out F w w') : Ns w' w'.heap.size A n xs :=
  ⟨h.len, h.all, fun hn => by
    obtain ⟨b, o, e, hb, hc⟩ := h.mem hn
    exact ⟨b, o, e, Nat.lt_of_lt_of_le hb hO.size, fun i hi => (hO.cell (p := ⟨b, o + i, none⟩) hb (ho hn b o e)).trans (hc i hi)⟩⟩
theorem Es.out {α : Type} {E : Elt α} {F : Nat → Prop} {w w' : World} {A : Option Addr} {n : Nat} {l : List α} (h : Es E w w.heap.size A n l) (ho : offA F A n) (hO : Out F w w') : Es E w' w'.heap.size A n l :=
  ⟨h.len, h.all, fun hn => by
    obtain ⟨b, o, e, hb, hc⟩ := h.mem hn
    exact ⟨b, o, e, Nat.lt_of_lt_of_le hb hO.size, fun j v hv => (hO.cell (p := ⟨b, o + j, none⟩) hb (ho hn b o e)).trans (hc j v hv)⟩⟩
theorem BlkV.out {F : Nat → Prop} {w w' : World} {t : TypeId} {g : Nat} {vs : List Value} (h : BlkV w t g vs) (ho : ¬ F g) (hO : Out F w w') : BlkV w' t g vs := (hO.block g h.lt ho).trans h
theorem OwnE.out {α : Type} {E : Elt α} {F : Nat → Prop} {t : TypeId} {w w' : World} {base n c : Nat} {A : Option Addr} {l : List α} (h : OwnE E t w base A n c l) (ho : ∀ k, (Value.slice A n c).ownBlock = some k → ¬ F k) (hO : Out F w w') : OwnE E t w' base A n c l := by
  refine ⟨⟨h.1.1, ?_⟩, h.2⟩
  rcases h.1.2 with e | ⟨g, cap, cur, e, hbg, hg, r⟩
  · exact .inl e
  · exact .inr ⟨g, cap, cur, e, hbg, by rw [hO.block g (Array.getElem?_eq_some_iff.1 hg).1 (ho g (by rw [e]; rfl))]; exact hg, r⟩
end Go.Proofs.Ythbboiolhejmmaa
