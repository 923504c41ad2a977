/- Elements of any make in a block of their own: one is read, one is stored whole, so many are made. No program here; no condition. -/
import Derived.Test.YthbboiolhejmmaaEl
import Derived.Test.YthbboiolhejmmaaRow
set_option maxRecDepth 100000
namespace Go.Proofs.Ythbboiolhejmmaa
open Go.RowKit
set_option linter.unusedVariables false

/-- values laid over others -/
def layL : List Value → Nat → List Value → List Value
  | vs, _, [] => vs
  | vs, o, u :: r => layL (vs.set o u) (o + 1) r
theorem layL_len : ∀ (us vs : List Value) (o : Nat), (layL vs o us).length = vs.length
  | [], vs, o => rfl
  | u :: r, vs, o => by
    show (layL (vs.set o u) (o + 1) r).length = _
    rw [layL_len r, List.length_set]
theorem layL_app : ∀ (us pre vs : List Value) (o : Nat), layL (pre ++ vs) (pre.length + o) us = pre ++ layL vs o us
  | [], pre, vs, o => rfl
  | u :: r, pre, vs, o => by
    show layL ((pre ++ vs).set (pre.length + o) u) (pre.length + o + 1) r = pre ++ layL (vs.set o u) (o + 1) r
    rw [List.set_append_right _ _ (by omega), Nat.add_sub_cancel_left, Nat.add_assoc]
    exact layL_app r pre (vs.set o u) (o + 1)
theorem layL_whole : ∀ (us vs tl : List Value), us.length = vs.length → layL (vs ++ tl) 0 us = us ++ tl
  | [], [], tl, _ => rfl
  | u :: r, v :: s, tl, h => by
    have e : layL (v :: s ++ tl) 0 (u :: r) = layL ([u] ++ (s ++ tl)) ([u].length + 0) r := rfl
    rw [e, layL_app, layL_whole r s tl (by simpa using h)]
    rfl
theorem Elt.flat_lay {α : Type} {E : Elt α} {x : α} : ∀ (l : List α) (i : Nat), E.all l → E.ok x → i < l.length → E.flat (l.set i x) = layL (E.flat l) (i * E.k) (E.cells x)
  | [], i, _, _, hi => by simp at hi
  | a :: l, 0, ha, hx, _ => by
    rw [List.set_cons_zero, Elt.flat_cons, Elt.flat_cons, Nat.zero_mul]
    exact (layL_whole _ _ _ (by rw [E.len x hx, E.len a (ha a List.mem_cons_self)])).symm
  | a :: l, i + 1, ha, hx, hi => by
    have h1 := E.len a (ha a List.mem_cons_self)
    have ih := Elt.flat_lay (x := x) l i (fun y hy => ha y (List.mem_cons_of_mem _ hy)) hx (by simpa using hi)
    rw [List.set_cons_succ, Elt.flat_cons, Elt.flat_cons, ih, Nat.add_mul, Nat.one_mul, Nat.add_comm (i * E.k), ← h1]
    exact (layL_app _ _ _ _).symm
theorem BlkV.layAt {t : TypeId} {b : Nat} : ∀ (us vs : List Value) (o : Nat) (w : World), BlkV w t b vs → BlkV (w.setCells b o us) t b (layL vs o us)
  | [], vs, o, w, h => h
  | u :: r, vs, o, w, h => BlkV.layAt r (vs.set o u) (o + 1) _ (h.set_ o u)
theorem setCells_sizeM (b : Nat) : ∀ (us : List Value) (o : Nat) (w : World), (w.setCells b o us).heap.size = w.heap.size
  | [], o, w => rfl
  | u :: r, o, w => by
    rw [World.setCells, setCells_sizeM b r]
    simp
theorem setCells_otherV (b : Nat) : ∀ (us : List Value) (o : Nat) (w : World) (k : Nat), k ≠ b → (w.setCells b o us).heap[k]? = w.heap[k]?
  | [], o, w, k, _ => rfl
  | u :: r, o, w, k, h => by
    rw [World.setCells, setCells_otherV b r (o + 1) _ k h]
    exact Below.heap_setCell w ⟨b, o, none⟩ _ k h
theorem setCells_below (b : Nat) : ∀ (us : List Value) (o : Nat) (w : World), Below b w (w.setCells b o us)
  | [], o, w => Below.refl b w
  | u :: r, o, w => by
    rw [World.setCells]
    exact ((Below.refl b w).setCell (p := ⟨b, o, none⟩) (Nat.le_refl b) _).trans (setCells_below b r (o + 1) _)
section
variable {α : Type} {E : Elt α} {t : TypeId} {w w' : World} {b : Nat} {l : List α}
theorem BlkV.eltAt (h : BlkV w t b (E.flat l)) (ha : E.all l) {i : Nat} (hi : i < l.length) : w.rangeAt b (i * E.k) (E.cells (l.getD i E.zero)) := fun j v hv => by
  have hj : j < E.k := by
    have := (List.getElem?_eq_some_iff.1 hv).1
    rwa [E.len _ (Elt.all_getD ha i)] at this
  rw [h.cell, Elt.flat_get ha hi hj]
  exact hv
theorem BlkV.thereAt (h : BlkV w t b (E.flat l)) (ha : E.all l) {i n : Nat} (hi : i < l.length) (hn : n ≤ E.k) : w.there b (i * E.k) n := fun j hj => by
  refine ⟨?_, h.frozen _⟩
  have : (i + 1) * E.k ≤ l.length * E.k := Nat.mul_le_mul_right _ hi
  rw [Nat.add_mul, Nat.one_mul] at this
  rw [h.cell, List.getElem?_eq_getElem (by rw [Elt.flat_len ha]; omega)]
  rfl
/-- one element is stored whole; no other block has turned -/
theorem wp_store_elt {P : Program} {o : Oper} {a : Act} {K : Act → World → Prop} {Q : Exit → Act → World → Prop} (ty : TypeId) (x y : Operand) (ho : o.op = .store ty x y) (i : Nat) (hx : a.eval x = .pointer (some ⟨b, i * E.k, none⟩)) (v : α) (hy : a.eval y = .agg (E.cells v).toArray)
    (hb : BlkV w t b (E.flat l)) (ha : E.all l) (hv : E.ok v) (hi : i < l.length) (hsz : (P.info? ty).map (·.size) = some E.k)
    (hk : ∀ w', BlkV w' t b (E.flat (l.set i v)) → Below b w w' → w'.heap.size = w.heap.size → (∀ k : Nat, k ≠ b → w'.heap[k]? = w.heap[k]?) → K (a.put o.dst undef) w') : o.wp P a w K Q := by
  have hl := E.len v hv
  refine wp_store_mid ty x y ho b (i * E.k) _ hx hy (hb.thereAt ha hi (by simp [hl])) (by rw [hsz]; simp [hl]) (all_oneCell_toArray (E.one v)) (hk _ ?_ (setCells_below _ _ _ _) (setCells_sizeM _ _ _ _) (setCells_otherV _ _ _ _))
  rw [Elt.flat_lay l i ha hv hi]
  exact hb.layAt _ _ _ _
theorem wpList_store_elt {P : Program} {ops : Array Oper} {rest : List Oper} {o : Oper} {a : Act} {Q : Exit → Act → World → Prop} (hgd : o.guard = none) (ty : TypeId) (x y : Operand) (ho : o.op = .store ty x y) (i : Nat) (hx : a.eval x = .pointer (some ⟨b, i * E.k, none⟩)) (v : α) (hy : a.eval y = .agg (E.cells v).toArray)
    (hb : BlkV w t b (E.flat l)) (ha : E.all l) (hv : E.ok v) (hi : i < l.length) (hsz : (P.info? ty).map (·.size) = some E.k)
    (hk : ∀ w', BlkV w' t b (E.flat (l.set i v)) → Below b w w' → w'.heap.size = w.heap.size → (∀ k : Nat, k ≠ b → w'.heap[k]? = w.heap[k]?) → wpList P ops Q rest (a.put o.dst undef) w') : wpList P ops Q (o :: rest) a w :=
  wpList_plain hgd fun K hK => wp_store_elt ty x y ho i hx v hy hb ha hv hi hsz fun w' a1 a2 a3 a4 => hK _ _ (hk w' a1 a2 a3 a4)
/-- one element is read whole -/
theorem exec_load_elt {P : Program} {f : Operand → Value} {dd : Option Tmp} {x : Operand} {ty ty2 : TypeId} {pos : String} {gd : Option (Nat × Bool)} {i : Nat} (hx : f x = .pointer (some ⟨b, i * E.k, none⟩)) (hb : BlkV w t b (E.flat l)) (ha : E.all l) (hi : i < l.length) (d : TypeDesc)
    (hu : P.underlying ty = some d) (hd : d.isRow = true) (hsz : (P.info? ty).map (·.size) = some E.k) :
    (execOp f ⟨dd, .load ty x, ty2, pos, #[], gd⟩).run P w = .ok (.value (.agg (E.cells (l.getD i E.zero)).toArray)) w :=
  exec_load_midD hx (hb.eltAt ha hi) hu hd (by rw [hsz, E.len _ (Elt.all_getD ha i)])
theorem wpList_load_elt {P : Program} {ops : Array Oper} {rest : List Oper} {o : Oper} {a : Act} {Q : Exit → Act → World → Prop} (hgd : o.guard = none) (ty : TypeId) (x : Operand) (ho : o.op = .load ty x) (i : Nat) (hx : a.eval x = .pointer (some ⟨b, i * E.k, none⟩)) (hb : BlkV w t b (E.flat l)) (ha : E.all l) (hi : i < l.length) (d : TypeDesc)
    (hu : P.underlying ty = some d) (hd : d.isRow = true) (hsz : (P.info? ty).map (·.size) = some E.k)
    (hk : wpList P ops Q rest (a.put o.dst (.agg (E.cells (l.getD i E.zero)).toArray)) w) : wpList P ops Q (o :: rest) a w :=
  wpList_load_mid hgd ty x ho b (i * E.k) hx _ d (hb.eltAt ha hi) hu hd (by rw [hsz, E.len _ (Elt.all_getD ha i)]) hk
end
/-- so many elements are made -/
theorem madeCells_flat {α : Type} (E : Elt α) (x : α) (hx : E.ok x) (n : Nat) : (madeCells (E.cells x).toArray (n * E.k)).toList = E.flat (List.replicate n x) := by
  have hl := E.len x hx
  have ha : E.all (List.replicate n x) := fun y hy => by rw [(List.mem_replicate.1 hy).2]; exact hx
  apply List.ext_getElem?
  intro m
  by_cases hm : m < n * E.k
  · have hp := E.pos
    have hi : m / E.k < n := Nat.div_lt_of_lt_mul (by rw [Nat.mul_comm]; exact hm)
    have hj := Nat.mod_lt m hp
    have e := Nat.div_add_mod m E.k
    have h2 := Elt.flat_get (E := E) ha (i := m / E.k) (j := m % E.k) (by simpa using hi) hj
    rw [show m / E.k * E.k + m % E.k = m by rw [Nat.mul_comm]; exact e] at h2
    rw [h2]
    have e2 : (List.replicate n x).getD (m / E.k) E.zero = x := by simp [List.getD, hi]
    rw [e2]
    unfold madeCells
    have hj2 : m % (E.cells x).length < (E.cells x).length := by rw [hl]; exact hj
    simp [hm, hl, List.getElem?_eq_getElem (show m % E.k < (E.cells x).length by omega), getElem!_def]
  · rw [List.getElem?_eq_none (by rw [Array.length_toList, size_madeCells]; omega), List.getElem?_eq_none (by rw [Elt.flat_len ha, List.length_replicate]; omega)]
end Go.Proofs.Ythbboiolhejmmaa
