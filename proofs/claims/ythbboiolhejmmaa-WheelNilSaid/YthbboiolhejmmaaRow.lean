/- Whole rows in a block: read, stored, handed back. No program here; no condition. -/
import Derived.Test.YthbboiolhejmmaaVals
import Derived.Deep.MidRow
set_option maxRecDepth 100000
namespace Go.Proofs.Ythbboiolhejmmaa
open Go.RowKit
set_option linter.unusedVariables false

theorem BlkV.same {w w' : World} {t : TypeId} {g : Nat} {vs : List Value} (h : BlkV w t g vs) (e : w'.heap[g]? = w.heap[g]?) : BlkV w' t g vs := e.trans h
/-- a whole row is read -/
theorem wpList_load_v {P : Program} {ops : Array Oper} {rest : List Oper} {o : Oper} {a : Act} {w : World} {Q : Exit → Act → World → Prop} (hgd : o.guard = none) (ty : TypeId) (x : Operand) (ho : o.op = .load ty x) (g : Nat) (hx : a.eval x = .pointer (some ⟨g, 0, none⟩)) (t : TypeId) (vs : List Value) (hb : BlkV w t g vs) (d : TypeDesc)
    (hu : P.underlying ty = some d) (hd : (match d with | .struct _ | .array _ _ => true | _ => false) = true) (hi : (P.info? ty).map (·.size) = some vs.length)
    (hk : wpList P ops Q rest (a.put o.dst (.agg vs.toArray)) w) : wpList P ops Q (o :: rest) a w :=
  wpList_load_row hgd ty x ho g hx t vs.toArray (0, 0) d hb hu hd (by rw [hi]; simp) hk
/-- a whole row is read, where the guard lets it -/
theorem wpList_load_v_g {P : Program} {ops : Array Oper} {rest : List Oper} {o : Oper} {a : Act} {w : World} {Q : Exit → Act → World → Prop} (hw : Region.wanted o (yielded ops a.tmps) = true) (ty : TypeId) (x : Operand) (ho : o.op = .load ty x) (g : Nat) (hx : a.eval x = .pointer (some ⟨g, 0, none⟩)) (t : TypeId) (vs : List Value) (hb : BlkV w t g vs) (d : TypeDesc)
    (hu : P.underlying ty = some d) (hd : (match d with | .struct _ | .array _ _ => true | _ => false) = true) (hi : (P.info? ty).map (·.size) = some vs.length)
    (hk : wpList P ops Q rest (a.put o.dst (.agg vs.toArray)) w) : wpList P ops Q (o :: rest) a w :=
  wpList_step fun K hK => by
    simp only [hw, if_true]
    exact wp_load_row ty x ho g hx t vs.toArray (0, 0) d hb hu hd (by rw [hi]; simp) (hK _ _ hk)
theorem exec_load_v {P : Program} {f : Operand → Value} {dd : Option Tmp} {x : Operand} {ty ty2 : TypeId} {pos : String} {gd : Option (Nat × Bool)} {w : World} {t : TypeId} {g : Nat} {vs : List Value} (hx : f x = .pointer (some ⟨g, 0, none⟩)) (hb : BlkV w t g vs) (d : TypeDesc)
    (hu : P.underlying ty = some d) (hd : (match d with | .struct _ | .array _ _ => true | _ => false) = true) (hi : (P.info? ty).map (·.size) = some vs.length) :
    (execOp f ⟨dd, .load ty x, ty2, pos, #[], gd⟩).run P w = .ok (.value (.agg vs.toArray)) w := by
  unfold execOp
  simp only [hx, Instr.loadAt, Instr.sureAddr, Sem.run_bind, Sem.run_pure, Result.andThen_ok, run_loadVar_row w g t ty vs.toArray _ d hb hu hd (by rw [hi]; simp)]
theorem results_cell1K {P : Program} {fn : Func} {p : Tmp} {ty : TypeId} (h : fn.results = #[.cell p ty]) (tmps : Array Value) (w : World) (g : Nat) (t : TypeId) (vs : List Value) (d : TypeDesc)
    (hp : tmps.getD p undef = .pointer (some ⟨g, 0, none⟩)) (hg : BlkV w t g vs)
    (hu : P.underlying ty = some d) (hd : (match d with | .struct _ | .array _ _ => true | _ => false) = true) (hi : (P.info? ty).map (·.size) = some vs.length) :
    (results fn tmps).run P w = .ok (.agg vs.toArray) w := by
  have hp' : tmps[p]?.getD undef = .pointer (some ⟨g, 0, none⟩) := by simpa using hp
  simp [results, h, hp', asAddr, run_loadVar_row w g t ty vs.toArray (0, 0) d hg hu hd (by rw [hi]; simp)]

/-- a whole row is stored, as an operation that is carried out; no other block has turned -/
theorem wp_store_v {P : Program} {o : Oper} {a : Act} {w : World} {K : Act → World → Prop} {Q : Exit → Act → World → Prop} (t : TypeId) (x y : Operand) (ho : o.op = .store t x y) (g : Nat) (hx : a.eval x = .pointer (some ⟨g, 0, none⟩)) (vs : List Value) (hy : a.eval y = .agg vs.toArray)
    (tb : TypeId) (old : List Value) (hb : BlkV w tb g old) (hl : old.length = vs.length) (hsz : (P.info? t).map (·.size) = some vs.length) (hone : vs.toArray.all (·.oneCell') = true)
    (hk : ∀ w', BlkV w' tb g vs → Below g w w' → w'.heap.size = w.heap.size → (∀ k : Nat, k ≠ g → w'.heap[k]? = w.heap[k]?) → K (a.put o.dst undef) w') : o.wp P a w K Q :=
  wp_store_row t x y ho g _ hx hy tb _ hb (by rw [hsz]; simp) (by simp [hl]) hone (hk _ (BlkV.setRow hb _) (low_setRow _ _ _ (Nat.le_refl _)) (by simp) (fun k hk => by simp [World.setRow, Array.getElem?_modify, Ne.symm hk]))
theorem run_storeVar_one {P : Program} (w : World) (g i : Nat) (ty tb : TypeId) (v : Value) (h1 : v.oneCell' = true) (hv : v.cells = #[v]) (vs : List Value) (hb : BlkV w tb g vs) (hlt : i < vs.length) (hi : (P.info? ty).map (·.size) = some 1) :
    (storeVar ty ⟨g, i, none⟩ v).run P w = .ok () (w.setCell ⟨g, i, none⟩ v) := by
  have hcell : w.cell? ⟨g, i, none⟩ = some vs[i] := by rw [hb.cell i]; simp [hlt]
  have hfro := hb.frozen i
  have hst : (store (⟨g, i, none⟩ : Addr) v).run P w = .ok () (w.setCell ⟨g, i, none⟩ v) := by
    rw [run_store P w _ _ _ h1, hcell]
    simp [hfro]
  have hadd : (⟨g, i, none⟩ : Addr).add 0 = ⟨g, i, none⟩ := by simp [Addr.add]
  cases hq : P.info? ty with
  | none => simp [hq] at hi
  | some j =>
    have hs : j.size = 1 := by simpa [hq] using hi
    simp [storeVar, sizeOf, typeInfo, hq, hv, hs, storeCells, hadd, hst]
/-- one cell of a block is stored, whatever the value; no other block has turned -/
theorem wp_store_one {P : Program} {o : Oper} {a : Act} {w : World} {K : Act → World → Prop} {Q : Exit → Act → World → Prop} (ty : TypeId) (x y : Operand) (ho : o.op = .store ty x y) (g i : Nat) (hx : a.eval x = .pointer (some ⟨g, i, none⟩)) (v : Value) (h1 : v.oneCell' = true) (hv : v.cells = #[v]) (hy : a.eval y = v)
    (tb : TypeId) (vs : List Value) (hb : BlkV w tb g vs) (hlt : i < vs.length) (hi : (P.info? ty).map (·.size) = some 1)
    (hk : ∀ w', BlkV w' tb g (vs.set i v) → Below g w w' → w'.heap.size = w.heap.size → (∀ k : Nat, k ≠ g → w'.heap[k]? = w.heap[k]?) → K (a.put o.dst undef) w') : o.wp P a w K Q := by
  unfold Oper.wp execOp
  simp only [ho, hx, hy, Instr.storeAt, Instr.sureAddr, Sem.run_bind, Sem.run_pure, Result.andThen_ok, run_storeVar_one w g i ty tb v h1 hv vs hb hlt hi]
  exact hk _ (hb.set_ i _) ((Below.refl g w).setCell (p := ⟨g, i, none⟩) (Nat.le_refl g) _) (by simp) (fun k hk => Below.heap_setCell w ⟨g, i, none⟩ _ k hk)
theorem wpList_store_one {P : Program} {ops : Array Oper} {rest : List Oper} {o : Oper} {a : Act} {w : World} {Q : Exit → Act → World → Prop} (hgd : o.guard = none) (ty : TypeId) (x y : Operand) (ho : o.op = .store ty x y) (g i : Nat) (hx : a.eval x = .pointer (some ⟨g, i, none⟩)) (v : Value) (h1 : v.oneCell' = true) (hv : v.cells = #[v]) (hy : a.eval y = v)
    (tb : TypeId) (vs : List Value) (hb : BlkV w tb g vs) (hlt : i < vs.length) (hi : (P.info? ty).map (·.size) = some 1)
    (hk : ∀ w', BlkV w' tb g (vs.set i v) → Below g w w' → w'.heap.size = w.heap.size → (∀ k : Nat, k ≠ g → w'.heap[k]? = w.heap[k]?) → wpList P ops Q rest (a.put o.dst undef) w') : wpList P ops Q (o :: rest) a w :=
  wpList_plain hgd fun K hK => wp_store_one ty x y ho g i hx v h1 hv hy tb vs hb hlt hi fun w' a1 a2 a3 a4 => hK _ _ (hk w' a1 a2 a3 a4)
/-- .. an int -/
theorem wpList_store_cell_v {P : Program} {ops : Array Oper} {rest : List Oper} {o : Oper} {a : Act} {w : World} {Q : Exit → Act → World → Prop} (hgd : o.guard = none) (ty : TypeId) (x y : Operand) (ho : o.op = .store ty x y) (g i : Nat) (hx : a.eval x = .pointer (some ⟨g, i, none⟩)) (κ : IntKind) (n : Int) (hy : a.eval y = .int κ n)
    (tb : TypeId) (vs : List Value) (hb : BlkV w tb g vs) (hlt : i < vs.length) (hi : (P.info? ty).map (·.size) = some 1)
    (hk : ∀ w', BlkV w' tb g (vs.set i (.int κ n)) → Below g w w' → w'.heap.size = w.heap.size → (∀ k : Nat, k ≠ g → w'.heap[k]? = w.heap[k]?) → wpList P ops Q rest (a.put o.dst undef) w') : wpList P ops Q (o :: rest) a w :=
  wpList_store_one hgd ty x y ho g i hx (.int κ n) rfl rfl hy tb vs hb hlt hi hk
/-- a whole row is stored; no other block has turned -/
theorem wpList_store_vq {P : Program} {ops : Array Oper} {rest : List Oper} {o : Oper} {a : Act} {w : World} {Q : Exit → Act → World → Prop} (hgd : o.guard = none) (t : TypeId) (x y : Operand) (ho : o.op = .store t x y) (g : Nat) (hx : a.eval x = .pointer (some ⟨g, 0, none⟩)) (vs : List Value) (hy : a.eval y = .agg vs.toArray)
    (tb : TypeId) (old : List Value) (hb : BlkV w tb g old) (hl : old.length = vs.length) (hsz : (P.info? t).map (·.size) = some vs.length) (hone : vs.toArray.all (·.oneCell') = true)
    (hk : ∀ w', BlkV w' tb g vs → Below g w w' → w'.heap.size = w.heap.size → (∀ k : Nat, k ≠ g → w'.heap[k]? = w.heap[k]?) → wpList P ops Q rest (a.put o.dst undef) w') : wpList P ops Q (o :: rest) a w :=
  wpList_plain hgd fun K hK => wp_store_v t x y ho g hx vs hy tb old hb hl hsz hone fun w' h1 h2 h3 h4 => hK _ _ (hk w' h1 h2 h3 h4)
theorem exec_load_midD {P : Program} {f : Operand → Value} {dd : Option Tmp} {x : Operand} {ty ty2 : TypeId} {pos : String} {gd : Option (Nat × Bool)} {w : World} {b p : Nat} {cs : List Value} {d : TypeDesc} (hx : f x = .pointer (some ⟨b, p, none⟩)) (hc : w.rangeAt b p cs)
    (hu : P.underlying ty = some d) (hd : d.isRow = true) (hi : (P.info? ty).map (·.size) = some cs.length) :
    (execOp f ⟨dd, .load ty x, ty2, pos, #[], gd⟩).run P w = .ok (.value (.agg cs.toArray)) w := by
  unfold execOp
  simp only [hx, Instr.loadAt, Instr.sureAddr, Sem.run_bind, Sem.run_pure, Result.andThen_ok, run_loadVar_mid w b p ty cs d hc hu hd hi]
theorem rangeAt_belowD {w w' : World} {B b p : Nat} {cs : List Value} (h : w.rangeAt b p cs) (hb : Below B w w') (hlt : b < B) : w'.rangeAt b p cs := fun j v hv => (hb.cell (p := ⟨b, p + j, none⟩) hlt).trans (h j v hv)
end Go.Proofs.Ythbboiolhejmmaa
