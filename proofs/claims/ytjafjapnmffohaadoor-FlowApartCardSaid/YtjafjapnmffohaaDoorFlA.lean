/- A flow by value and in memory: its cells, compared, loaded, stored; slices of flows. Condition: addresses are 16 bytes. -/
import Derived.Test.YtjafjapnmffohaaDoorFlB
import Derived.Test.YtjafjapnmffohaaDoorEl
import Derived.Test.YtjafjapnmffohaaDoorJSx
set_option maxRecDepth 100000
namespace Go.Proofs.YtjafjapnmffohaaDoor
open Go.RowKit
set_option linter.unusedVariables false

def fwC (f : Fw) : List Value := cellsB f.s ++ (.int .i64 f.sp :: (cellsB f.d ++ [.int .i64 f.dp]))
def fwV (f : Fw) : Value := .agg (fwC f).toArray
theorem fwC_length {f : Fw} (hs : f.s.length = 16) (hd : f.d.length = 16) : (fwC f).length = 34 := by simp [fwC, cellsB_length, hs, hd]
theorem fwC_one (f : Fw) : ∀ u ∈ fwC f, u.oneCell' = true := by
  intro u hu
  unfold fwC at hu
  simp only [List.mem_cons, List.mem_append, List.not_mem_nil, or_false] at hu
  rcases hu with hu | rfl | hu | rfl
  · exact cellsB_one f.s u hu
  · rfl
  · exact cellsB_one f.d u hu
  · rfl
theorem flow_size : (Tryd.prog.info? 25).map (·.size) = some 34 := by kernel_rfl
theorem flow_zero : (Tryd.prog.info? 25).map (·.zero) = some (some (.agg (fwC zeroF).toArray)) := by kernel_rfl
theorem info_flow : (Tryd.prog.info? 25).map (fun i => (i.zero, i.size, i.bytes)) = some (some (fwV zeroF), 34, 48) := by kernel_rfl
/-- flows as elements -/
def fwE : Elt Fw where
  cells := fwC
  ok := Fw.ok
  k := 34
  pos := by omega
  len := fun f h => fwC_length h.s h.d
  one := fwC_one
  zero := zeroF
  zok := zeroF_ok

/-- flows are compared -/
def eqFw (a b : Fw) : Bool := a.s == b.s && a.sp == b.sp && a.d == b.d && a.dp == b.dp
theorem eqFw_refl (a : Fw) : eqFw a a = true := by simp [eqFw]
theorem eqFw_iff (a b : Fw) : eqFw a b = true ↔ a = b := by
  obtain ⟨x1, x2, x3, x4⟩ := a
  obtain ⟨y1, y2, y3, y4⟩ := b
  simp [eqFw, and_assoc]
theorem fpart_s (f : Fw) (hs : f.s.length = 16) (w : World) : (part 23 (fwC f).toArray 0).run Tryd.prog w = .ok (.agg (cellsB f.s).toArray) w := by
  obtain ⟨i, hi, hz⟩ := info_sized addr_size
  simp only [part, isAgg, run_underlying Tryd.underlying23, sizeOf, typeInfo, Sem.run_bind, run_program, hi, hz, fwC, Result.andThen_ok, Sem.run_pure, if_true]
  congr 2
  simp [cellsB_length, hs]
theorem fpart_d (f : Fw) (hs : f.s.length = 16) (hd : f.d.length = 16) (w : World) : (part 23 (fwC f).toArray 17).run Tryd.prog w = .ok (.agg (cellsB f.d).toArray) w := by
  obtain ⟨i, hi, hz⟩ := info_sized addr_size
  simp only [part, isAgg, run_underlying Tryd.underlying23, sizeOf, typeInfo, Sem.run_bind, run_program, hi, hz, fwC, Result.andThen_ok, Sem.run_pure, if_true]
  congr 2
  simp [cellsB_length, hs, List.drop_append]
  rw [List.drop_eq_nil_of_le (by rw [cellsB_length]; omega), List.nil_append, List.take_append_of_le_length (by rw [cellsB_length]; omega)]
  exact List.take_of_length_le (by rw [cellsB_length]; omega)
theorem fwC_sp (f : Fw) (hs : f.s.length = 16) : (fwC f)[16]? = some (.int .i64 f.sp) := by
  unfold fwC
  rw [List.getElem?_append_right (by rw [cellsB_length]; omega), cellsB_length, hs]
  rfl
theorem fwC_dp (f : Fw) (hs : f.s.length = 16) (hd : f.d.length = 16) : (fwC f)[33]? = some (.int .i64 f.dp) := by
  unfold fwC
  rw [List.getElem?_append_right (by rw [cellsB_length]; omega), cellsB_length, hs, show 33 - 16 = 16 + 1 by omega, List.getElem?_cons_succ, List.getElem?_append_right (by rw [cellsB_length]; omega), cellsB_length, hd]
  rfl
theorem fpart_sp (f : Fw) (hs : f.s.length = 16) (w : World) : (part 3 (fwC f).toArray 16).run Tryd.prog w = .ok (.int .i64 f.sp) w := part_int (fwC f).toArray 16 _ (by rw [List.getElem?_toArray]; exact fwC_sp f hs) w
theorem fpart_dp (f : Fw) (hs : f.s.length = 16) (hd : f.d.length = 16) (w : World) : (part 3 (fwC f).toArray 33).run Tryd.prog w = .ok (.int .i64 f.dp) w := part_int (fwC f).toArray 33 _ (by rw [List.getElem?_toArray]; exact fwC_dp f hs hd) w
theorem eq_flow (a b : Fw) (ha : a.s.length = 16) (ha2 : a.d.length = 16) (hb : b.s.length = 16) (hb2 : b.d.length = 16) (w : World) :
    (Op.equalIn 10000 25 (.agg (fwC a).toArray) (.agg (fwC b).toArray)).run Tryd.prog w = .ok (eqFw a b) w := by
  rw [run_equalIn_struct w 9999 25 _ _ (by simp only [Program.fieldsOf, Tryd.underlying25]) (by kernel_rfl)]
  simp only [Program.fieldsOf, Tryd.underlying25]
  rw [eqFields_step (by simp) (fpart_s a ha w) (fpart_s b hb w) (eq_addr9 _ _ ha hb w),
    eqFields_step (by simp) (fpart_sp a ha w) (fpart_sp b hb w) (eq_int a.sp b.sp w),
    eqFields_step (by simp) (fpart_d a ha ha2 w) (fpart_d b hb hb2 w) (eq_addr9 _ _ ha2 hb2 w),
    eqFields_step (by simp) (fpart_dp a ha ha2 w) (fpart_dp b hb hb2 w) (eq_int a.dp b.dp w)]
  unfold eqFw
  simp only [Op.eqFields, Sem.run_pure]
  generalize (a.s == b.s) = x1
  generalize (a.sp == b.sp) = x2
  generalize (a.d == b.d) = x3
  generalize (a.dp == b.dp) = x4
  cases x1 <;> cases x2 <;> cases x3 <;> cases x4 <;> rfl

/-- block g is just the flow f -/
abbrev BlkF (w : World) (g : Nat) (f : Fw) : Prop := BlkV w 25 g (fwC f)
section
variable {w : World} {g : Nat} {f : Fw} (hb : BlkF w g f) (hs : f.s.length = 16) (hd : f.d.length = 16)
include hb
theorem BlkF.src : w.rangeAt g 0 (cellsB f.s) := fun j v hv => by
  rw [BlkV.cell hb (0 + j), Nat.zero_add, fwC, List.getElem?_append_left (List.getElem?_eq_some_iff.1 hv).1, hv]
theorem BlkF.dst (hs : f.s.length = 16) : w.rangeAt g 17 (cellsB f.d) := fun j v hv => by
  have hj := (List.getElem?_eq_some_iff.1 hv).1
  rw [BlkV.cell hb (17 + j), fwC, List.getElem?_append_right (by rw [cellsB_length]; omega), cellsB_length, hs, show 17 + j - 16 = j + 1 by omega, List.getElem?_cons_succ, List.getElem?_append_left hj, hv]
theorem BlkF.sp (hs : f.s.length = 16) : w.cell? ⟨g, 16, none⟩ = some (.int .i64 f.sp) := (BlkV.cell hb 16).trans (fwC_sp f hs)
theorem BlkF.dp (hs : f.s.length = 16) (hd : f.d.length = 16) : w.cell? ⟨g, 33, none⟩ = some (.int .i64 f.dp) := (BlkV.cell hb 33).trans (fwC_dp f hs hd)
end
section
variable {ops : Array Oper} {rest : List Oper} {o : Oper} {a : Act} {w : World} {Q : Exit → Act → World → Prop}
theorem wpList_box_fw (hgd : o.guard = none) (x : Operand) (ho : o.op = .box 25 x) (f : Fw) (hx : a.eval x = .agg (fwC f).toArray)
    (hk : ∀ w', BlkF w' w.heap.size f → Low w w' → w'.heap.size = w.heap.size + 1 → wpList Tryd.prog ops Q rest (a.put o.dst (.pointer (some ⟨w.heap.size, 0, none⟩))) w') : wpList Tryd.prog ops Q (o :: rest) a w :=
  wpList_box_v hgd 25 x ho (fwC f) hx hk
theorem wpList_alloc_fw (hgd : o.guard = none) (ho : o.op = .alloc 25)
    (hk : ∀ w', BlkF w' w.heap.size zeroF → Low w w' → w'.heap.size = w.heap.size + 1 → wpList Tryd.prog ops Q rest (a.put o.dst (.pointer (some ⟨w.heap.size, 0, none⟩))) w') : wpList Tryd.prog ops Q (o :: rest) a w :=
  wpList_alloc_v hgd 25 ho (fwC zeroF) flow_zero hk
theorem wpList_load_fw (hgd : o.guard = none) (x : Operand) (ho : o.op = .load 25 x) (g : Nat) (hx : a.eval x = .pointer (some ⟨g, 0, none⟩)) (f : Fw) (hb : BlkF w g f) (hs : f.s.length = 16) (hd : f.d.length = 16)
    (hk : wpList Tryd.prog ops Q rest (a.put o.dst (.agg (fwC f).toArray)) w) : wpList Tryd.prog ops Q (o :: rest) a w :=
  wpList_load_row hgd 25 x ho g hx _ (fwC f).toArray (0, 0) _ hb Tryd.underlying25 rfl (by rw [flow_size]; simp [fwC_length hs hd]) hk
theorem wpList_load_fw_g (hw : Region.wanted o (yielded ops a.tmps) = true) (x : Operand) (ho : o.op = .load 25 x) (g : Nat) (hx : a.eval x = .pointer (some ⟨g, 0, none⟩)) (f : Fw) (hb : BlkF w g f) (hs : f.s.length = 16) (hd : f.d.length = 16)
    (hk : wpList Tryd.prog ops Q rest (a.put o.dst (.agg (fwC f).toArray)) w) : wpList Tryd.prog ops Q (o :: rest) a w :=
  wpList_step fun K hK => by
    simp only [hw, if_true]
    exact wp_load_row 25 x ho g hx _ (fwC f).toArray (0, 0) _ hb Tryd.underlying25 rfl (by rw [flow_size]; simp [fwC_length hs hd]) (hK _ _ hk)
/-- one flow of a row is read -/
theorem wpList_load_fwat (hgd : o.guard = none) (x : Operand) (ho : o.op = .load 25 x) (b p : Nat) (hx : a.eval x = .pointer (some ⟨b, p, none⟩)) (f : Fw) (hs : f.s.length = 16) (hd : f.d.length = 16) (hc : w.rangeAt b p (fwC f))
    (hk : wpList Tryd.prog ops Q rest (a.put o.dst (.agg (fwC f).toArray)) w) : wpList Tryd.prog ops Q (o :: rest) a w :=
  wpList_load_mid hgd 25 x ho b p hx (fwC f) _ hc Tryd.underlying25 rfl (by rw [flow_size]; simp [fwC_length hs hd]) hk
/-- a whole flow is stored; what lies in other blocks stays -/
theorem wpList_store_fw (hgd : o.guard = none) (x y : Operand) (ho : o.op = .store 25 x y) (g : Nat) (hx : a.eval x = .pointer (some ⟨g, 0, none⟩)) (f : Fw) (hy : a.eval y = .agg (fwC f).toArray) (old : Fw) (hb : BlkF w g old)
    (hos : old.s.length = 16) (hod : old.d.length = 16) (hs : f.s.length = 16) (hd : f.d.length = 16)
    (hk : ∀ w', BlkF w' g f → Below g w w' → w'.heap.size = w.heap.size → (∀ k : Nat, k ≠ g → w'.heap[k]? = w.heap[k]?) → wpList Tryd.prog ops Q rest (a.put o.dst undef) w') : wpList Tryd.prog ops Q (o :: rest) a w :=
  wpList_store_row hgd 25 x y ho g _ hx hy _ _ hb (by rw [flow_size]; simp [fwC_length hs hd]) (by simp [fwC_length hs hd, fwC_length hos hod])
    (by rw [Array.all_eq_true_iff_forall_mem]; intro v hv; exact fwC_one f v (by simpa using hv)) (hk _ (BlkV.setRow hb _) (low_setRow _ _ _ (Nat.le_refl _)) (by simp) (fun k hk => by simp [World.setRow, Array.getElem?_modify, Ne.symm hk]))
end
theorem exec_load_fw {f : Operand → Value} {dd : Option Tmp} {x : Operand} {ty : TypeId} {pos : String} {gd : Option (Nat × Bool)} {w : World} {g : Nat} {h : Fw} (hx : f x = .pointer (some ⟨g, 0, none⟩)) (hb : BlkF w g h) (hs : h.s.length = 16) (hd : h.d.length = 16) :
    (execOp f ⟨dd, .load 25 x, ty, pos, #[], gd⟩).run Tryd.prog w = .ok (.value (.agg (fwC h).toArray)) w := by
  unfold execOp
  simp only [hx, Instr.loadAt, Instr.sureAddr, Sem.run_bind, Sem.run_pure, Result.andThen_ok, run_loadVar_row w g 25 25 (fwC h).toArray _ _ hb Tryd.underlying25 rfl (by rw [flow_size]; simp [fwC_length hs hd])]
end Go.Proofs.YtjafjapnmffohaaDoor
