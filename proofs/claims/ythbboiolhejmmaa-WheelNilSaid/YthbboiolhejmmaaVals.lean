/- Values in memory: addresses, blocks of any values; loaded, stored, compared and handed back whole. No condition. -/
import Derived.Test.YthbboiolhejmmaaJOct
import Derived.Test.YthbboiolhejmmaaJReg
import Derived.Test.YthbboiolhejmmaaEq
import Derived.Laws.Rows
import Derived.Laws.Tables
set_option maxRecDepth 100000
namespace Go.Proofs.Ythbboiolhejmmaa
open Go.RowKit
set_option linter.unusedVariables false

/-- block g is just these values -/
def BlkV (w : World) (t : TypeId) (g : Nat) (vs : List Value) : Prop := w.heap[g]? = some (.cells vs.toArray t (0, 0))
section
variable {w w' : World} {t : TypeId} {g B : Nat} {vs : List Value}
theorem BlkV.lt (h : BlkV w t g vs) : g < w.heap.size := (Array.getElem?_eq_some_iff.1 h).1
theorem BlkV.cell (h : BlkV w t g vs) (i : Nat) : w.cell? ⟨g, i, none⟩ = vs[i]? := by
  rw [cell_of_row w g i _ t (0, 0) h]; simp
theorem BlkV.frozen (h : BlkV w t g vs) (i : Nat) : w.frozen? ⟨g, i, none⟩ = false := by
  unfold BlkV at h
  simp [World.frozen?, h]
theorem BlkV.new (w : World) (t : TypeId) (vs : List Value) : BlkV (w.alloc (.cells vs.toArray t)) t w.heap.size vs := heap_alloc_new w _
theorem BlkV.below (h : BlkV w t g vs) (hb : Below B w w') (hg : g < B) : BlkV w' t g vs := (hb.block g hg).trans h
theorem BlkV.set_ (h : BlkV w t g vs) (i : Nat) (u : Value) : BlkV (w.setCell ⟨g, i, none⟩ u) t g (vs.set i u) := by
  unfold BlkV at h ⊢
  simp [World.setCell, Array.getElem?_modify, h]
end

theorem ret_i {k : IntKind} {a b : Int} (h : a = b) : Ending.returned (.int k a) = .returned (.int k b) := by rw [h]
theorem Row.below {w w' : World} {A : Option Addr} {vs : List (Option Addr × Nat × Nat)} {yss : List (List Int)} (h : Row w A vs yss) (hb : Below w.heap.size w w') : Row w' A vs yss :=
  ⟨h.len, fun i hi => (h.each i hi).below' hb hb.size, fun hp => by
    obtain ⟨b, o, e, hlt, hc⟩ := h.mem hp
    exact ⟨b, o, e, Nat.lt_of_lt_of_le hlt hb.size, fun i hi => (hb.cell (p := ⟨b, o + i, none⟩) hlt).trans (hc i hi)⟩⟩
theorem OwnB.none_ (t : TypeId) (w : World) (base : Nat) : OwnB t w base none 0 0 [] := ⟨⟨rfl, .inl ⟨rfl, rfl⟩⟩, AllB.nil⟩
/-- an address by value -/
def addrV (s : List Int) : Value := .agg (cellsB s).toArray
def zero16 : List Int := [0, 0, 0, 0, 0, 0, 0, 0, 0, 0, 0, 0, 0, 0, 0, 0]
theorem zero_all : AllB zero16 := fun x hx => by
  obtain rfl : x = 0 := by simpa [zero16] using hx
  omega
theorem drop_at (s : List Int) (k : Nat) (h : k < s.length) : s.drop k = s.getD k 0 :: s.drop (k + 1) := by
  rw [List.drop_eq_getElem_cons h]
  simp [List.getD, h]
theorem pref_set (s t : List Int) (k : Nat) (hs : s.length = 16) (ht : t.length = 16) (hk : k < 16) : (t.take k ++ s.drop k).set k (t.getD k 0) = t.take (k + 1) ++ s.drop (k + 1) := by
  rw [List.set_append_right _ _ (by simp [ht]; omega), drop_at s k (by omega)]
  simp only [List.length_take, ht, Nat.min_eq_left (Nat.le_of_lt hk), Nat.sub_self, List.set_cons_zero]
  rw [List.take_succ_eq_append_getElem (show k < t.length by omega), List.append_assoc, show t.getD k 0 = t[k] by simp [List.getD, show k < t.length by omega]]
  rfl
theorem size_u8 : (Try.prog.info? 5).map (·.size) = some 1 := by kernel_rfl
theorem Blk.setRow {w : World} {t : TypeId} {g : Nat} {ys : List Int} (h : Blk w t g ys) (zs : List Int) : Blk (w.setRow g (cellsB zs).toArray) t g zs := setRow_heap w g _ _ t _ h
theorem low_setRow (w : World) (g : Nat) (cs : Array Value) {B : Nat} (h : B ≤ g) : Below B w (w.setRow g cs) :=
  ⟨rfl, rfl, rfl, by simp, fun i hi => by
    have : i ≠ g := by omega
    simp [World.setRow, Array.getElem?_modify, Ne.symm this]⟩
theorem box_first (w : World) (s d : List Int) (t1 t2 : TypeId) : Blk ((w.alloc (.cells (cellsB s).toArray t1)).alloc (.cells (cellsB d).toArray t2)) t1 w.heap.size s := (Blk.new w t1 s).alloc _
theorem box_second (w : World) (s d : List Int) (t1 t2 : TypeId) : Blk ((w.alloc (.cells (cellsB s).toArray t1)).alloc (.cells (cellsB d).toArray t2)) t2 (w.heap.size + 1) d := by
  have h := Blk.new (w.alloc (.cells (cellsB s).toArray t1)) t2 d
  rw [show (w.alloc (.cells (cellsB s).toArray t1)).heap.size = w.heap.size + 1 by simp] at h
  exact h
theorem low2 (w : World) (s d : List Int) (t1 t2 : TypeId) : Low w ((w.alloc (.cells (cellsB s).toArray t1)).alloc (.cells (cellsB d).toArray t2)) := (Low.alloc w _).trans (Low.alloc _ _)
theorem results_cell_tmp {P : Program} {fn : Func} {p q : Tmp} {ty : TypeId} (h : fn.results = #[.cell p ty, .tmp q]) (tmps : Array Value) (w : World) (g : Nat) (t : TypeId) (cs : Array Value) (fr : Nat × Nat) (d : TypeDesc) (v : Value)
    (hp : tmps.getD p undef = .pointer (some ⟨g, 0, none⟩)) (hq : tmps.getD q undef = v) (hg : w.heap[g]? = some (.cells cs t fr))
    (hu : P.underlying ty = some d) (hd : (match d with | .struct _ | .array _ _ => true | _ => false) = true) (hi : (P.info? ty).map (·.size) = some cs.size) :
    (results fn tmps).run P w = .ok (.tuple #[.agg cs, v]) w := by
  have hp' : tmps[p]?.getD undef = .pointer (some ⟨g, 0, none⟩) := by simpa using hp
  have hq' : tmps[q]?.getD undef = v := by simpa using hq
  simp [results, h, hp', hq', asAddr, run_loadVar_row w g t ty cs fr d hg hu hd hi]

theorem BlkV.alloc {w : World} {t : TypeId} {g : Nat} {vs : List Value} (h : BlkV w t g vs) (o : Obj) : BlkV (w.alloc o) t g vs := (Below.heap_alloc w o g h.lt).trans h
theorem BlkV.far {w : World} {t : TypeId} {g : Nat} {vs : List Value} (h : BlkV w t g vs) {p : Addr} (hp : g ≠ p.block) (u : Value) : BlkV (w.setCell p u) t g vs := (Below.heap_setCell w p u g hp).trans h
theorem BlkV.setRow {w : World} {t : TypeId} {g : Nat} {vs : List Value} (h : BlkV w t g vs) (us : List Value) : BlkV (w.setRow g us.toArray) t g us := setRow_heap w g _ _ t _ h
theorem BlkV.second {w : World} {t : TypeId} {vs : List Value} (o : Obj) : BlkV ((w.alloc o).alloc (.cells vs.toArray t)) t (w.heap.size + 1) vs := by
  have h := BlkV.new (w.alloc o) t vs
  rw [show (w.alloc o).heap.size = w.heap.size + 1 by simp] at h
  exact h
/-- a whole row is stored -/
theorem wpList_store_v {P : Program} {ops : Array Oper} {rest : List Oper} {o : Oper} {a : Act} {w : World} {Q : Exit → Act → World → Prop} (hgd : o.guard = none) (t : TypeId) (x y : Operand) (ho : o.op = .store t x y) (g : Nat) (hx : a.eval x = .pointer (some ⟨g, 0, none⟩)) (vs : List Value) (hy : a.eval y = .agg vs.toArray)
    (tb : TypeId) (old : List Value) (hb : BlkV w tb g old) (hl : old.length = vs.length) (hsz : (P.info? t).map (·.size) = some vs.length) (hone : vs.toArray.all (·.oneCell') = true)
    (hk : ∀ w', BlkV w' tb g vs → Below g w w' → w'.heap.size = w.heap.size → wpList P ops Q rest (a.put o.dst undef) w') : wpList P ops Q (o :: rest) a w :=
  wpList_store_row hgd t x y ho g _ hx hy tb _ hb (by rw [hsz]; simp) (by simp [hl]) hone (hk _ (BlkV.setRow hb _) (low_setRow _ _ _ (Nat.le_refl _)) (by simp))

/-- a variable of many cells is made: of a value, or of noughts -/
theorem wpList_box_v {P : Program} {ops : Array Oper} {rest : List Oper} {o : Oper} {a : Act} {w : World} {Q : Exit → Act → World → Prop} (hgd : o.guard = none) (t : TypeId) (x : Operand) (ho : o.op = .box t x) (vs : List Value) (hx : a.eval x = .agg vs.toArray)
    (hk : ∀ w', BlkV w' t w.heap.size vs → Low w w' → w'.heap.size = w.heap.size + 1 → wpList P ops Q rest (a.put o.dst (.pointer (some ⟨w.heap.size, 0, none⟩))) w') : wpList P ops Q (o :: rest) a w :=
  wpList_plain hgd fun K hK => by
    unfold Oper.wp execOp
    simp only [ho, hx, Instr.box, newVar, newRow, Value.cells, Sem.run_bind, run_newObj, Result.andThen_ok, Sem.run_pure]
    exact hK _ _ (hk _ (BlkV.new w t vs) (Low.alloc w _) (by simp))
theorem wpList_alloc_v {P : Program} {ops : Array Oper} {rest : List Oper} {o : Oper} {a : Act} {w : World} {Q : Exit → Act → World → Prop} (hgd : o.guard = none) (t : TypeId) (ho : o.op = .alloc t) (vs : List Value) (hz : (P.info? t).map (·.zero) = some (some (.agg vs.toArray)))
    (hk : ∀ w', BlkV w' t w.heap.size vs → Low w w' → w'.heap.size = w.heap.size + 1 → wpList P ops Q rest (a.put o.dst (.pointer (some ⟨w.heap.size, 0, none⟩))) w') : wpList P ops Q (o :: rest) a w :=
  wpList_plain hgd fun K hK => by
    cases hq : P.info? t with
    | none => simp [hq] at hz
    | some i =>
      have hz' : i.zero = some (.agg vs.toArray) := by simpa [hq] using hz
      unfold Oper.wp execOp
      simp only [ho, Instr.alloc, zeroValue, typeInfo, run_program, hq, hz', newVar, newRow, Value.cells, Sem.run_bind, run_newObj, Result.andThen_ok, Sem.run_pure]
      exact hK _ _ (hk _ (BlkV.new w t vs) (Low.alloc w _) (by simp))
theorem wp_alloc_v {P : Program} {o : Oper} {a : Act} {w : World} {K : Act → World → Prop} {Q : Exit → Act → World → Prop} (t : TypeId) (ho : o.op = .alloc t) (vs : List Value) (hz : (P.info? t).map (·.zero) = some (some (.agg vs.toArray)))
    (hk : K (a.put o.dst (.pointer (some ⟨w.heap.size, 0, none⟩))) (w.alloc (.cells vs.toArray t))) : o.wp P a w K Q := by
  cases hq : P.info? t with
  | none => simp [hq] at hz
  | some i =>
    have hz' : i.zero = some (.agg vs.toArray) := by simpa [hq] using hz
    unfold Oper.wp execOp
    simp only [ho, Instr.alloc, zeroValue, typeInfo, run_program, hq, hz', newVar, newRow, Value.cells, Sem.run_bind, run_newObj, Result.andThen_ok, Sem.run_pure]
    exact hk
end Go.Proofs.Ythbboiolhejmmaa
