/- A header by value and in memory: its cells, compared, loaded, stored. Condition: addresses are 16 bytes. -/
import Derived.Test.YtheagbgojdlfaaaVals
import Derived.Deep.MidRow
namespace Go.Proofs.Ytheagbgojdlfaaa
open Go.RowKit
set_option linter.unusedVariables false

/-- a header -/
structure Hd where
  cl : Int
  lb : Int
  ln : Int
  nx : Int
  hp : Int
  s : List Int
  d : List Int
/-- its numbers are ints, its addresses are 16 bytes -/
structure Hd.ok (h : Hd) : Prop where
  cl : i64ok h.cl
  lb : i64ok h.lb
  ln : i64ok h.ln
  nx : i64ok h.nx
  hp : i64ok h.hp
  s : h.s.length = 16
  d : h.d.length = 16
  vs : AllB h.s
  vd : AllB h.d
def headC (h : Hd) : List Value := .int .i64 h.cl :: .int .i64 h.lb :: .int .i64 h.ln :: .int .i64 h.nx :: .int .i64 h.hp :: (cellsB h.s ++ cellsB h.d)
def headV (h : Hd) : Value := .agg (headC h).toArray
def zeroH : Hd := ⟨0, 0, 0, 0, 0, zero16, zero16⟩
theorem zeroH_ok : zeroH.ok := ⟨by unfold i64ok; decide, by unfold i64ok; decide, by unfold i64ok; decide, by unfold i64ok; decide, by unfold i64ok; decide, rfl, rfl, zero_all, zero_all⟩
theorem headC_length {h : Hd} (hs : h.s.length = 16) (hd : h.d.length = 16) : (headC h).length = 37 := by simp [headC, cellsB_length, hs, hd]
theorem headC_one (h : Hd) : ∀ u ∈ headC h, u.oneCell' = true := by
  intro u hu
  unfold headC at hu
  simp only [List.mem_cons, List.mem_append] at hu
  rcases hu with rfl | rfl | rfl | rfl | rfl | hu | hu
  iterate 5 rfl
  · exact cellsB_one h.s u hu
  · exact cellsB_one h.d u hu
theorem head_size : (Try.prog.info? 58).map (·.size) = some 37 := by kernel_rfl

/-- headers are compared -/
def eqH (a b : Hd) : Bool := a.cl == b.cl && a.lb == b.lb && a.ln == b.ln && a.nx == b.nx && a.hp == b.hp && a.s == b.s && a.d == b.d
theorem eqH_refl (a : Hd) : eqH a a = true := by simp [eqH]
theorem part_s (h : Hd) (hs : h.s.length = 16) (w : World) : (part 23 (headC h).toArray 5).run Try.prog w = .ok (.agg (cellsB h.s).toArray) w := by
  obtain ⟨i, hi, hz⟩ := info_sized addr_size
  simp only [part, isAgg, run_underlying Try.underlying23, sizeOf, typeInfo, Sem.run_bind, run_program, hi, hz, headC, Result.andThen_ok, Sem.run_pure, if_true]
  congr 2
  simp [cellsB_length, hs]
theorem part_d (h : Hd) (hs : h.s.length = 16) (hd : h.d.length = 16) (w : World) : (part 23 (headC h).toArray 21).run Try.prog w = .ok (.agg (cellsB h.d).toArray) w := by
  obtain ⟨i, hi, hz⟩ := info_sized addr_size
  simp only [part, isAgg, run_underlying Try.underlying23, sizeOf, typeInfo, Sem.run_bind, run_program, hi, hz, headC, Result.andThen_ok, Sem.run_pure, if_true]
  congr 2
  simp [cellsB_length, hs]
  exact List.take_of_length_le (by rw [cellsB_length]; omega)
theorem part_int (cs : Array Value) (k : Nat) (v : Value) (h : cs[k]? = some v) (w : World) : (part 3 cs k).run Try.prog w = .ok v w := by
  simp [part, isAgg, run_underlying Try.underlying3, h]
theorem part_cl (h : Hd) (w : World) : (part 3 (headC h).toArray 0).run Try.prog w = .ok (.int .i64 h.cl) w := part_int (headC h).toArray 0 _ rfl w
theorem part_lb (h : Hd) (w : World) : (part 3 (headC h).toArray 1).run Try.prog w = .ok (.int .i64 h.lb) w := part_int (headC h).toArray 1 _ rfl w
theorem part_ln (h : Hd) (w : World) : (part 3 (headC h).toArray 2).run Try.prog w = .ok (.int .i64 h.ln) w := part_int (headC h).toArray 2 _ rfl w
theorem part_nx (h : Hd) (w : World) : (part 3 (headC h).toArray 3).run Try.prog w = .ok (.int .i64 h.nx) w := part_int (headC h).toArray 3 _ rfl w
theorem part_hp (h : Hd) (w : World) : (part 3 (headC h).toArray 4).run Try.prog w = .ok (.int .i64 h.hp) w := part_int (headC h).toArray 4 _ rfl w
theorem eq_int (a b : Int) (w : World) : (Op.equalIn 9999 3 (.int .i64 a) (.int .i64 b)).run Try.prog w = .ok (a == b) w := run_equalIn_int w 9998 _ _ _ a b Try.underlying3
theorem eq_addr9 (s d : List Int) (hs : s.length = 16) (hd : d.length = 16) (w : World) :
    (Op.equalIn 9999 23 (.agg (cellsB s).toArray) (.agg (cellsB d).toArray)).run Try.prog w = .ok (s == d) w := by
  obtain ⟨i, hi, hz⟩ := info_sized size_u8
  exact run_equalIn_ints w .u8 9997 23 5 16 i Try.underlying23 Try.underlying5 hi hz s d hs hd
theorem eq_head (a b : Hd) (ha : a.s.length = 16) (ha2 : a.d.length = 16) (hb : b.s.length = 16) (hb2 : b.d.length = 16) (w : World) :
    (Op.equalIn 10000 58 (.agg (headC a).toArray) (.agg (headC b).toArray)).run Try.prog w = .ok (eqH a b) w := by
  rw [run_equalIn_struct w 9999 58 _ _ (by simp only [Program.fieldsOf, Try.underlying58]) (by kernel_rfl)]
  simp only [Program.fieldsOf, Try.underlying58]
  rw [eqFields_step (by simp) (part_cl a w) (part_cl b w) (eq_int a.cl b.cl w),
    eqFields_step (by simp) (part_lb a w) (part_lb b w) (eq_int a.lb b.lb w),
    eqFields_step (by simp) (part_ln a w) (part_ln b w) (eq_int a.ln b.ln w),
    eqFields_step (by simp) (part_nx a w) (part_nx b w) (eq_int a.nx b.nx w),
    eqFields_step (by simp) (part_hp a w) (part_hp b w) (eq_int a.hp b.hp w),
    eqFields_step (by simp) (part_s a ha w) (part_s b hb w) (eq_addr9 _ _ ha hb w),
    eqFields_step (by simp) (part_d a ha ha2 w) (part_d b hb hb2 w) (eq_addr9 _ _ ha2 hb2 w)]
  unfold eqH
  simp only [Op.eqFields, Sem.run_pure]
  generalize (a.cl == b.cl) = x1
  generalize (a.lb == b.lb) = x2
  generalize (a.ln == b.ln) = x3
  generalize (a.nx == b.nx) = x4
  generalize (a.hp == b.hp) = x5
  generalize (a.s == b.s) = x6
  generalize (a.d == b.d) = x7
  cases x1 <;> cases x2 <;> cases x3 <;> cases x4 <;> cases x5 <;> cases x6 <;> cases x7 <;> rfl

/-- block g is just the header h -/
abbrev BlkH (w : World) (g : Nat) (h : Hd) : Prop := BlkV w 58 g (headC h)
section
variable {ops : Array Oper} {rest : List Oper} {o : Oper} {a : Act} {w : World} {Q : Exit → Act → World → Prop}
theorem wpList_load_head (hgd : o.guard = none) (x : Operand) (ho : o.op = .load 58 x) (g : Nat) (hx : a.eval x = .pointer (some ⟨g, 0, none⟩)) (h : Hd) (hb : BlkH w g h) (hs : h.s.length = 16) (hd : h.d.length = 16)
    (hk : wpList Try.prog ops Q rest (a.put o.dst (.agg (headC h).toArray)) w) : wpList Try.prog ops Q (o :: rest) a w :=
  wpList_load_row hgd 58 x ho g hx _ (headC h).toArray (0, 0) _ hb Try.underlying58 rfl (by rw [head_size]; simp [headC_length hs hd]) hk
theorem wpList_load_head_g (hw : Region.wanted o (yielded ops a.tmps) = true) (x : Operand) (ho : o.op = .load 58 x) (g : Nat) (hx : a.eval x = .pointer (some ⟨g, 0, none⟩)) (h : Hd) (hb : BlkH w g h) (hs : h.s.length = 16) (hd : h.d.length = 16)
    (hk : wpList Try.prog ops Q rest (a.put o.dst (.agg (headC h).toArray)) w) : wpList Try.prog ops Q (o :: rest) a w :=
  wpList_step fun K hK => by
    simp only [hw, if_true]
    exact wp_load_row 58 x ho g hx _ (headC h).toArray (0, 0) _ hb Try.underlying58 rfl (by rw [head_size]; simp [headC_length hs hd]) (hK _ _ hk)
/-- a whole header is stored -/
theorem wpList_store_head (hgd : o.guard = none) (x y : Operand) (ho : o.op = .store 58 x y) (g : Nat) (hx : a.eval x = .pointer (some ⟨g, 0, none⟩)) (h : Hd) (hy : a.eval y = .agg (headC h).toArray) (old : Hd) (hb : BlkH w g old)
    (hos : old.s.length = 16) (hod : old.d.length = 16) (hs : h.s.length = 16) (hd : h.d.length = 16)
    (hk : ∀ w', BlkH w' g h → Below g w w' → w'.heap.size = w.heap.size → wpList Try.prog ops Q rest (a.put o.dst undef) w') : wpList Try.prog ops Q (o :: rest) a w :=
  wpList_store_row hgd 58 x y ho g _ hx hy _ _ hb (by rw [head_size]; simp [headC_length hs hd]) (by simp [headC_length hs hd, headC_length hos hod])
    (by rw [Array.all_eq_true_iff_forall_mem]; intro v hv; exact headC_one h v (by simpa using hv)) (hk _ (BlkV.setRow hb _) (low_setRow _ _ _ (Nat.le_refl _)) (by simp))
end
theorem exec_load_head {f : Operand → Value} {dd : Option Tmp} {x : Operand} {ty : TypeId} {pos : String} {gd : Option (Nat × Bool)} {w : World} {g : Nat} {h : Hd} (hx : f x = .pointer (some ⟨g, 0, none⟩)) (hb : BlkH w g h) (hs : h.s.length = 16) (hd : h.d.length = 16) :
    (execOp f ⟨dd, .load 58 x, ty, pos, #[], gd⟩).run Try.prog w = .ok (.value (.agg (headC h).toArray)) w := by
  unfold execOp
  simp only [hx, Instr.loadAt, Instr.sureAddr, Sem.run_bind, Sem.run_pure, Result.andThen_ok, run_loadVar_row w g 58 58 (headC h).toArray _ _ hb Try.underlying58 rfl (by rw [head_size]; simp [headC_length hs hd])]
end Go.Proofs.Ytheagbgojdlfaaa
