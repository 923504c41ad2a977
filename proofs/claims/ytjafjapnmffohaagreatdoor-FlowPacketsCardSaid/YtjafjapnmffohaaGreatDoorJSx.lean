/- Texts joined.
  A header by value and in memory: its cells, compared, loaded, stored. Condition: addresses are 16 bytes.
  What six.fitted and six.Can tell of any header. Condition: its numbers are ints, its addresses 16 bytes.
  What the document's own Can tells of any header. Condition: its numbers are ints, its addresses 16 bytes.
  What six.Put tells of any bytes and any header. Conditions: the header's numbers are ints, its addresses 16 bytes; the bytes are at most 2^47.
  What the document's own Put tells of any header. Conditions: the header's numbers are ints, its addresses 16 bytes.
  What six.Get tells of any bytes. Condition: at most 2^47 bytes.
  What the document's own Get tells of any bytes. Condition: at most 2^47 bytes.
-/
import Derived.Test.YtjafjapnmffohaaGreatDoorVals
import Derived.Deep.MidRow
import Derived.Test.YtjafjapnmffohaaGreatDoorJOct
import Derived.Test.YtjafjapnmffohaaGreatDoorJReg
set_option maxRecDepth 100000
namespace Go.Proofs.YtjafjapnmffohaaGreatDoor
open Go.RowKit
set_option linter.unusedVariables false

/-- a header -/
structure Hd where
  cl : Int
  lb : Int
  ln : Int
  nx : Int
  hp : Int
  s : List Int
  d : List Int
/-- its numbers are ints, its addresses are 16 bytes -/
structure Hd.ok (h : Hd) : Prop where
  cl : i64ok h.cl
  lb : i64ok h.lb
  ln : i64ok h.ln
  nx : i64ok h.nx
  hp : i64ok h.hp
  s : h.s.length = 16
  d : h.d.length = 16
  vs : AllB h.s
  vd : AllB h.d
def headC (h : Hd) : List Value := .int .i64 h.cl :: .int .i64 h.lb :: .int .i64 h.ln :: .int .i64 h.nx :: .int .i64 h.hp :: (cellsB h.s ++ cellsB h.d)
def headV (h : Hd) : Value := .agg (headC h).toArray
def zeroH : Hd := ⟨0, 0, 0, 0, 0, zero16, zero16⟩
theorem zeroH_ok : zeroH.ok := ⟨by unfold i64ok; decide, by unfold i64ok; decide, by unfold i64ok; decide, by unfold i64ok; decide, by unfold i64ok; decide, rfl, rfl, zero_all, zero_all⟩
theorem headC_length {h : Hd} (hs : h.s.length = 16) (hd : h.d.length = 16) : (headC h).length = 37 := by simp [headC, cellsB_length, hs, hd]
theorem headC_one (h : Hd) : ∀ u ∈ headC h, u.oneCell' = true := by
  intro u hu
  unfold headC at hu
  simp only [List.mem_cons, List.mem_append] at hu
  rcases hu with rfl | rfl | rfl | rfl | rfl | hu | hu
  iterate 5 rfl
  · exact cellsB_one h.s u hu
  · exact cellsB_one h.d u hu
theorem head_size : (Tryz.prog.info? 26).map (·.size) = some 37 := by kernel_rfl

/-- headers are compared -/
def eqH (a b : Hd) : Bool := a.cl == b.cl && a.lb == b.lb && a.ln == b.ln && a.nx == b.nx && a.hp == b.hp && a.s == b.s && a.d == b.d
theorem eqH_refl (a : Hd) : eqH a a = true := by simp [eqH]
theorem part_s (h : Hd) (hs : h.s.length = 16) (w : World) : (part 24 (headC h).toArray 5).run Tryz.prog w = .ok (.agg (cellsB h.s).toArray) w := by
  obtain ⟨i, hi, hz⟩ := info_sized addr_size
  simp only [part, isAgg, run_underlying Tryz.underlying24, sizeOf, typeInfo, Sem.run_bind, run_program, hi, hz, headC, Result.andThen_ok, Sem.run_pure, if_true]
  congr 2
  simp [cellsB_length, hs]
theorem part_d (h : Hd) (hs : h.s.length = 16) (hd : h.d.length = 16) (w : World) : (part 24 (headC h).toArray 21).run Tryz.prog w = .ok (.agg (cellsB h.d).toArray) w := by
  obtain ⟨i, hi, hz⟩ := info_sized addr_size
  simp only [part, isAgg, run_underlying Tryz.underlying24, sizeOf, typeInfo, Sem.run_bind, run_program, hi, hz, headC, Result.andThen_ok, Sem.run_pure, if_true]
  congr 2
  simp [cellsB_length, hs]
  exact List.take_of_length_le (by rw [cellsB_length]; omega)
theorem part_int (cs : Array Value) (k : Nat) (v : Value) (h : cs[k]? = some v) (w : World) : (part 3 cs k).run Tryz.prog w = .ok v w := by
  simp [part, isAgg, run_underlying Tryz.underlying3, h]
theorem part_cl (h : Hd) (w : World) : (part 3 (headC h).toArray 0).run Tryz.prog w = .ok (.int .i64 h.cl) w := part_int (headC h).toArray 0 _ rfl w
theorem part_lb (h : Hd) (w : World) : (part 3 (headC h).toArray 1).run Tryz.prog w = .ok (.int .i64 h.lb) w := part_int (headC h).toArray 1 _ rfl w
theorem part_ln (h : Hd) (w : World) : (part 3 (headC h).toArray 2).run Tryz.prog w = .ok (.int .i64 h.ln) w := part_int (headC h).toArray 2 _ rfl w
theorem part_nx (h : Hd) (w : World) : (part 3 (headC h).toArray 3).run Tryz.prog w = .ok (.int .i64 h.nx) w := part_int (headC h).toArray 3 _ rfl w
theorem part_hp (h : Hd) (w : World) : (part 3 (headC h).toArray 4).run Tryz.prog w = .ok (.int .i64 h.hp) w := part_int (headC h).toArray 4 _ rfl w
theorem eq_int (a b : Int) (w : World) : (Op.equalIn 9999 3 (.int .i64 a) (.int .i64 b)).run Tryz.prog w = .ok (a == b) w := run_equalIn_int w 9998 _ _ _ a b Tryz.underlying3
theorem eq_addr9 (s d : List Int) (hs : s.length = 16) (hd : d.length = 16) (w : World) :
    (Op.equalIn 9999 24 (.agg (cellsB s).toArray) (.agg (cellsB d).toArray)).run Tryz.prog w = .ok (s == d) w := by
  obtain ⟨i, hi, hz⟩ := info_sized size_u8
  exact run_equalIn_ints w .u8 9997 24 5 16 i Tryz.underlying24 Tryz.underlying5 hi hz s d hs hd
theorem eq_head (a b : Hd) (ha : a.s.length = 16) (ha2 : a.d.length = 16) (hb : b.s.length = 16) (hb2 : b.d.length = 16) (w : World) :
    (Op.equalIn 10000 26 (.agg (headC a).toArray) (.agg (headC b).toArray)).run Tryz.prog w = .ok (eqH a b) w := by
  rw [run_equalIn_struct w 9999 26 _ _ (by simp only [Program.fieldsOf, Tryz.underlying26]) (by kernel_rfl)]
  simp only [Program.fieldsOf, Tryz.underlying26]
  rw [eqFields_step (by simp) (part_cl a w) (part_cl b w) (eq_int a.cl b.cl w),
    eqFields_step (by simp) (part_lb a w) (part_lb b w) (eq_int a.lb b.lb w),
    eqFields_step (by simp) (part_ln a w) (part_ln b w) (eq_int a.ln b.ln w),
    eqFields_step (by simp) (part_nx a w) (part_nx b w) (eq_int a.nx b.nx w),
    eqFields_step (by simp) (part_hp a w) (part_hp b w) (eq_int a.hp b.hp w),
    eqFields_step (by simp) (part_s a ha w) (part_s b hb w) (eq_addr9 _ _ ha hb w),
    eqFields_step (by simp) (part_d a ha ha2 w) (part_d b hb hb2 w) (eq_addr9 _ _ ha2 hb2 w)]
  unfold eqH
  simp only [Op.eqFields, Sem.run_pure]
  generalize (a.cl == b.cl) = x1
  generalize (a.lb == b.lb) = x2
  generalize (a.ln == b.ln) = x3
  generalize (a.nx == b.nx) = x4
  generalize (a.hp == b.hp) = x5
  generalize (a.s == b.s) = x6
  generalize (a.d == b.d) = x7
  cases x1 <;> cases x2 <;> cases x3 <;> cases x4 <;> cases x5 <;> cases x6 <;> cases x7 <;> rfl

/-- block g is just the header h -/
abbrev BlkH (w : World) (g : Nat) (h : Hd) : Prop := BlkV w 26 g (headC h)
section
variable {ops : Array Oper} {rest : List Oper} {o : Oper} {a : Act} {w : World} {Q : Exit → Act → World → Prop}
theorem wpList_load_head (hgd : o.guard = none) (x : Operand) (ho : o.op = .load 26 x) (g : Nat) (hx : a.eval x = .pointer (some ⟨g, 0, none⟩)) (h : Hd) (hb : BlkH w g h) (hs : h.s.length = 16) (hd : h.d.length = 16)
    (hk : wpList Tryz.prog ops Q rest (a.put o.dst (.agg (headC h).toArray)) w) : wpList Tryz.prog ops Q (o :: rest) a w :=
  wpList_load_row hgd 26 x ho g hx _ (headC h).toArray (0, 0) _ hb Tryz.underlying26 rfl (by rw [head_size]; simp [headC_length hs hd]) hk
theorem wpList_load_head_g (hw : Region.wanted o (yielded ops a.tmps) = true) (x : Operand) (ho : o.op = .load 26 x) (g : Nat) (hx : a.eval x = .pointer (some ⟨g, 0, none⟩)) (h : Hd) (hb : BlkH w g h) (hs : h.s.length = 16) (hd : h.d.length = 16)
    (hk : wpList Tryz.prog ops Q rest (a.put o.dst (.agg (headC h).toArray)) w) : wpList Tryz.prog ops Q (o :: rest) a w :=
  wpList_step fun K hK => by
    simp only [hw, if_true]
    exact wp_load_row 26 x ho g hx _ (headC h).toArray (0, 0) _ hb Tryz.underlying26 rfl (by rw [head_size]; simp [headC_length hs hd]) (hK _ _ hk)
/-- a whole header is stored -/
theorem wpList_store_head (hgd : o.guard = none) (x y : Operand) (ho : o.op = .store 26 x y) (g : Nat) (hx : a.eval x = .pointer (some ⟨g, 0, none⟩)) (h : Hd) (hy : a.eval y = .agg (headC h).toArray) (old : Hd) (hb : BlkH w g old)
    (hos : old.s.length = 16) (hod : old.d.length = 16) (hs : h.s.length = 16) (hd : h.d.length = 16)
    (hk : ∀ w', BlkH w' g h → Below g w w' → w'.heap.size = w.heap.size → wpList Tryz.prog ops Q rest (a.put o.dst undef) w') : wpList Tryz.prog ops Q (o :: rest) a w :=
  wpList_store_row hgd 26 x y ho g _ hx hy _ _ hb (by rw [head_size]; simp [headC_length hs hd]) (by simp [headC_length hs hd, headC_length hos hod])
    (by rw [Array.all_eq_true_iff_forall_mem]; intro v hv; exact headC_one h v (by simpa using hv)) (hk _ (BlkV.setRow hb _) (low_setRow _ _ _ (Nat.le_refl _)) (by simp))
end
theorem exec_load_head {f : Operand → Value} {dd : Option Tmp} {x : Operand} {ty : TypeId} {pos : String} {gd : Option (Nat × Bool)} {w : World} {g : Nat} {h : Hd} (hx : f x = .pointer (some ⟨g, 0, none⟩)) (hb : BlkH w g h) (hs : h.s.length = 16) (hd : h.d.length = 16) :
    (execOp f ⟨dd, .load 26 x, ty, pos, #[], gd⟩).run Tryz.prog w = .ok (.value (.agg (headC h).toArray)) w := by
  unfold execOp
  simp only [hx, Instr.loadAt, Instr.sureAddr, Sem.run_bind, Sem.run_pure, Result.andThen_ok, run_loadVar_row w g 26 26 (headC h).toArray _ _ hb Tryz.underlying26 rfl (by rw [head_size]; simp [headC_length hs hd])]
end Go.Proofs.YtjafjapnmffohaaGreatDoor

namespace Go.Proofs.YtjafjapnmffohaaGreatDoor
open Go.RowKit
set_option linter.unusedVariables false

theorem and_mask (k : Nat) (hk : k ≤ 62) (m : Int) (hm : m = 2 ^ k - 1) (n : Int) : bits .and .i64 n m = n % 2 ^ k := by
  have hp : (2 : Int) ^ k ≤ 2 ^ 62 := by
    have := Nat.pow_le_pow_right (show 0 < 2 by omega) hk
    exact_mod_cast this
  have hp0 : (0 : Int) < 2 ^ k := by
    have := Nat.pow_pos (n := k) (show 0 < 2 by omega)
    exact_mod_cast this
  have h2 : (BitVec.ofInt 64 m).toNat = 2 ^ k - 1 := by
    rw [BitVec.toNat_ofInt, hm]
    have : ((2 : Int) ^ k - 1) % ↑(2 ^ 64 : Nat) = 2 ^ k - 1 := Int.emod_eq_of_lt (by omega) (by omega)
    rw [this]
    have : ((2 : Int) ^ k) = ((2 ^ k : Nat) : Int) := by push_cast; rfl
    rw [this]; omega
  have hd : (2 : Int) ^ k ∣ ((2 ^ 64 : Nat) : Int) := by
    refine ⟨2 ^ (64 - k), ?_⟩
    rw [← Int.pow_add, show k + (64 - k) = 64 by omega]; rfl
  have h : ((BitVec.ofInt 64 n &&& BitVec.ofInt 64 m).toNat : Int) = n % 2 ^ k := by
    rw [BitVec.toNat_and, h2, BitVec.toNat_ofInt, Nat.and_two_pow_sub_one_eq_mod, Int.natCast_emod, Int.toNat_of_nonneg (Int.emod_nonneg _ (by decide))]
    have e : ((2 ^ k : Nat) : Int) = 2 ^ k := by push_cast; rfl
    rw [e]
    exact Int.emod_emod_of_dvd n hd
  show IntKind.i64.wrap ((BitVec.ofInt 64 n &&& BitVec.ofInt 64 m).toNat : Int) = _
  rw [h, IntKind.wrap_i64]
  have := Int.emod_nonneg n (show (2 : Int) ^ k ≠ 0 by omega)
  have := Int.emod_lt_of_pos n hp0
  omega
theorem and255 (n : Int) : bits .and .i64 n 255 = n % 256 := and_mask 8 (by decide) 255 (by decide) n
theorem and1048575 (n : Int) : bits .and .i64 n 1048575 = n % 1048576 := and_mask 20 (by decide) 1048575 (by decide) n
theorem and_65535 (n : Int) : bits .and .i64 n 65535 = n % 65536 := and_mask 16 (by decide) 65535 (by decide) n

def fitH (h : Hd) : Hd := ⟨h.cl % 256, h.lb % 1048576, h.ln % 65536, h.nx % 256, h.hp % 256, h.s, h.d⟩
def canB (h : Hd) : Bool := decide (0 ≤ h.cl ∧ h.cl ≤ 255 ∧ 0 ≤ h.lb ∧ h.lb ≤ 1048575 ∧ 0 ≤ h.ln ∧ h.ln ≤ 65535 ∧ 0 ≤ h.nx ∧ h.nx ≤ 255 ∧ 0 ≤ h.hp ∧ h.hp ≤ 255)
def canE (h : Hd) : Int := if canB h then 0 else 2
theorem eq_fit (h : Hd) : eqH h (fitH h) = canB h := by
  rw [Bool.eq_iff_iff]
  unfold eqH fitH canB
  simp only [Bool.and_eq_true, beq_iff_eq, decide_eq_true_eq, and_true]
  omega

end Go.Proofs.YtjafjapnmffohaaGreatDoor

namespace Go.Proofs.YtjafjapnmffohaaGreatDoor
open Go.RowKit
set_option linter.unusedVariables false

def numsH (h : Hd) : List Int := [h.cl, h.lb, h.ln, h.nx, h.hp]
def mostH : List Int := [255, 1048575, 65535, 255, 255]
def cellsI (xs : List Int) : List Value := xs.map (Value.int .i64)
theorem cellsI_get {xs : List Int} {i : Nat} (h : i < xs.length) : (cellsI xs)[i]? = some (.int .i64 (xs.getD i 0)) := by
  simp [cellsI, List.getD, h]
theorem cellsI_one (xs : List Int) : (cellsI xs).toArray.all (·.oneCell') = true := all_oneCell_toArray (ints_oneCell .i64 xs)
theorem can_yes (h : Hd) (hj : ∀ j, j < 5 → 0 ≤ (numsH h).getD j 0 ∧ (numsH h).getD j 0 ≤ mostH.getD j 0) : canE h = 0 := by
  have h0 : 0 ≤ h.cl ∧ h.cl ≤ 255 := hj 0 (by omega)
  have h1 : 0 ≤ h.lb ∧ h.lb ≤ 1048575 := hj 1 (by omega)
  have h2 : 0 ≤ h.ln ∧ h.ln ≤ 65535 := hj 2 (by omega)
  have h3 : 0 ≤ h.nx ∧ h.nx ≤ 255 := hj 3 (by omega)
  have h4 : 0 ≤ h.hp ∧ h.hp ≤ 255 := hj 4 (by omega)
  have e : canB h = true := by unfold canB; rw [decide_eq_true_eq]; omega
  unfold canE; rw [e]; rfl
theorem can_no (h : Hd) (k : Nat) (hk : k < 5) (hj : (numsH h).getD k 0 < 0 ∨ mostH.getD k 0 < (numsH h).getD k 0) : canE h = 2 := by
  have e : canB h = false := by
    rw [Bool.eq_false_iff]
    intro hc
    unfold canB at hc
    rw [decide_eq_true_eq] at hc
    match k, hk, hj with
    | 0, _, hj => change h.cl < 0 ∨ 255 < h.cl at hj; omega
    | 1, _, hj => change h.lb < 0 ∨ 1048575 < h.lb at hj; omega
    | 2, _, hj => change h.ln < 0 ∨ 65535 < h.ln at hj; omega
    | 3, _, hj => change h.nx < 0 ∨ 255 < h.nx at hj; omega
    | 4, _, hj => change h.hp < 0 ∨ 255 < h.hp at hj; omega
  unfold canE; rw [e]; rfl

end Go.Proofs.YtjafjapnmffohaaGreatDoor

namespace Go.Proofs.YtjafjapnmffohaaGreatDoor
open Go.RowKit
set_option linter.unusedVariables false

theorem Row.six {w : World} {g : Nat} {t : TypeId} {a0 a1 a2 a3 a4 a5 : Option Addr} {n0 c0 n1 c1 n2 c2 n3 c3 n4 c4 n5 c5 : Nat} {x0 x1 x2 x3 x4 x5 : List Int}
    (hg : w.heap[g]? = some (.cells #[.slice a0 n0 c0, .slice a1 n1 c1, .slice a2 n2 c2, .slice a3 n3 c3, .slice a4 n4 c4, .slice a5 n5 c5] t (0, 0))) (h0 : Bs w w.heap.size a0 n0 x0) (h1 : Bs w w.heap.size a1 n1 x1) (h2 : Bs w w.heap.size a2 n2 x2) (h3 : Bs w w.heap.size a3 n3 x3) (h4 : Bs w w.heap.size a4 n4 x4) (h5 : Bs w w.heap.size a5 n5 x5) :
    Row w (some ⟨g, 0, none⟩) [(a0, n0, c0), (a1, n1, c1), (a2, n2, c2), (a3, n3, c3), (a4, n4, c4), (a5, n5, c5)] [x0, x1, x2, x3, x4, x5] := by
  refine ⟨rfl, fun i hi => ?_, fun _ => ⟨g, 0, rfl, (Array.getElem?_eq_some_iff.1 hg).1, fun i hi => ?_⟩⟩
  · match i, hi with
    | 0, _ => exact h0
    | 1, _ => exact h1
    | 2, _ => exact h2
    | 3, _ => exact h3
    | 4, _ => exact h4
    | 5, _ => exact h5
  · rw [cell_of_row w g _ _ _ _ hg]
    match i, hi with
    | 0, _ => rfl
    | 1, _ => rfl
    | 2, _ => rfl
    | 3, _ => rfl
    | 4, _ => rfl
    | 5, _ => rfl

/-- the bytes of a header -/
def firstN (h : Hd) : Int := 1610612736 + h.cl * 1048576 + h.lb
def headL (h : Hd) : List Int := four (firstN h) ++ (two h.ln ++ ([h.nx, h.hp] ++ (h.s ++ h.d)))
def putL (h : Hd) : List Int := if canB h then headL h else []
theorem headL_length {h : Hd} (hk : h.ok) : (headL h).length = 40 := by simp [headL, four, two, hk.s, hk.d]
theorem can_range {h : Hd} (hc : canB h = true) : (0 ≤ h.cl ∧ h.cl ≤ 255) ∧ (0 ≤ h.lb ∧ h.lb ≤ 1048575) ∧ (0 ≤ h.ln ∧ h.ln ≤ 65535) ∧ (0 ≤ h.nx ∧ h.nx ≤ 255) ∧ (0 ≤ h.hp ∧ h.hp ≤ 255) := by
  unfold canB at hc
  rw [decide_eq_true_eq] at hc
  omega
theorem headL_all {h : Hd} (hk : h.ok) (hc : canB h = true) : AllB (headL h) := by
  obtain ⟨h0, h1, h2, h3, h4⟩ := can_range hc
  exact (four_all _ (by unfold firstN; omega)).append ((two_all _).append ((AllB.cons (by omega) (by omega) (.cons (by omega) (by omega) .nil)).append (hk.vs.append hk.vd)))
/-- the two addresses in a header's block -/
theorem BlkV.src {w : World} {g : Nat} {h : Hd} (hb : BlkH w g h) (hk : h.ok) {B : Nat} (hg : g < B) : Bs w B (some ⟨g, 5, none⟩) 16 h.s :=
  ⟨hk.s, hk.vs, fun _ => ⟨g, 5, rfl, hg, fun i hi => by
    rw [hb.cell, headC]
    have e : 5 + i = i + 1 + 1 + 1 + 1 + 1 := by omega
    rw [e]
    simp only [List.getElem?_cons_succ]
    rw [List.getElem?_append_left (by rw [cellsB_length, hk.s]; exact hi), cellsB_get (by rw [hk.s]; exact hi)]⟩⟩
theorem BlkV.dst {w : World} {g : Nat} {h : Hd} (hb : BlkH w g h) (hk : h.ok) {B : Nat} (hg : g < B) : Bs w B (some ⟨g, 21, none⟩) 16 h.d :=
  ⟨hk.d, hk.vd, fun _ => ⟨g, 21, rfl, hg, fun i hi => by
    rw [hb.cell, headC]
    have e : 21 + i = (16 + i) + 1 + 1 + 1 + 1 + 1 := by omega
    rw [e]
    simp only [List.getElem?_cons_succ]
    rw [List.getElem?_append_right (by rw [cellsB_length, hk.s]; omega), cellsB_length, hk.s, Nat.add_sub_cancel_left, cellsB_get (by rw [hk.d]; exact hi)]⟩⟩
theorem first_or (x y : Int) (hx : 0 ≤ x ∧ x ≤ 255) (hy : 0 ≤ y ∧ y ≤ 1048575) : bits .or .u32 (bits .or .u32 1610612736 (x * 1048576)) y = 1610612736 + x * 1048576 + y := by
  rw [or_u32 28 1610612736 (x * 1048576) (by omega) (by omega) (by omega) (by omega) (by omega) (by omega), or_u32 20 (1610612736 + x * 1048576) y (by omega) (by omega) (by omega) (by omega) (by omega) (by omega)]

end Go.Proofs.YtjafjapnmffohaaGreatDoor

namespace Go.Proofs.YtjafjapnmffohaaGreatDoor
open Go.RowKit
set_option linter.unusedVariables false

/-- the call hands back ys, in a row of its own that may have room; what was there is as it was -/
def OwnOut (t : TypeId) (w : World) (n : Nat) (ys : List Int) (v : Value) (w' : World) : Prop :=
  ∃ A c, v = .slice A n c ∧ OwnB t w' w.heap.size A n c ys ∧ Below w.heap.size w w'
theorem OwnB.lower {t : TypeId} {w : World} {base base' n c : Nat} {A : Option Addr} {ys : List Int} (h : OwnB t w base A n c ys) (hb : base' ≤ base) : OwnB t w base' A n c ys :=
  ⟨⟨h.1.1, h.1.2.imp id fun ⟨g, cap, cur, e, hbg, r⟩ => ⟨g, cap, cur, e, Nat.le_trans hb hbg, r⟩⟩, h.2⟩
theorem headL_split (h : Hd) (hc : canB h = true) : headL h = [96 + h.cl / 16, h.cl % 16 * 16 + h.lb / 65536] ++ two (h.lb % 65536) ++ two h.ln ++ [h.nx, h.hp] ++ h.s ++ h.d := by
  obtain ⟨h0, h1, -, -, -⟩ := can_range hc
  unfold headL
  have e : four (firstN h) = [96 + h.cl / 16, h.cl % 16 * 16 + h.lb / 65536] ++ two (h.lb % 65536) := by
    unfold four two firstN
    simp only [List.cons_append, List.nil_append]
    congr 1
    · omega
    congr 1
    · omega
    congr 1
    · omega
    congr 1
    omega
  rw [e]
  simp only [List.append_assoc]

end Go.Proofs.YtjafjapnmffohaaGreatDoor

namespace Go.Proofs.YtjafjapnmffohaaGreatDoor
open Go.RowKit
set_option linter.unusedVariables false

/-- the header that bytes begin with -/
def getL (xs : List Int) : Hd :=
  ⟨xs.getD 0 0 % 16 * 16 + xs.getD 1 0 / 16, xs.getD 1 0 % 16 * 65536 + xs.getD 2 0 * 256 + xs.getD 3 0, xs.getD 4 0 * 256 + xs.getD 5 0, xs.getD 6 0, xs.getD 7 0, (xs.drop 8).take 16, (xs.drop 24).take 16⟩
/-- why there is none -/
def getE (xs : List Int) : Int := if xs.length < 40 then 3 else if xs.getD 0 0 / 16 = 6 then 0 else 5
def getH (xs : List Int) : Hd := if getE xs = 0 then getL xs else zeroH
theorem getL_ok {xs : List Int} (ha : AllB xs) (hl : 40 ≤ xs.length) : (getL xs).ok := by
  have r0 := ha.getD 0
  have r1 := ha.getD 1
  have r2 := ha.getD 2
  have r3 := ha.getD 3
  have r4 := ha.getD 4
  have r5 := ha.getD 5
  have r6 := ha.getD 6
  have r7 := ha.getD 7
  refine ⟨?_, ?_, ?_, ?_, ?_, by simp [getL]; omega, by simp [getL]; omega, (ha.drop 8).take 16, (ha.drop 24).take 16⟩
  all_goals unfold i64ok getL
  all_goals dsimp only
  all_goals omega
theorem getL_can {xs : List Int} (ha : AllB xs) : canB (getL xs) = true := by
  have r0 := ha.getD 0
  have r1 := ha.getD 1
  have r2 := ha.getD 2
  have r3 := ha.getD 3
  have r4 := ha.getD 4
  have r5 := ha.getD 5
  have r6 := ha.getD 6
  have r7 := ha.getD 7
  unfold canB getL
  rw [decide_eq_true_eq]
  dsimp only
  omega
theorem getE_cases (xs : List Int) : (xs.length < 40 ∧ getE xs = 3 ∧ getH xs = zeroH) ∨ (40 ≤ xs.length ∧ xs.getD 0 0 / 16 = 6 ∧ getE xs = 0 ∧ getH xs = getL xs) ∨ (40 ≤ xs.length ∧ ¬ xs.getD 0 0 / 16 = 6 ∧ getE xs = 5 ∧ getH xs = zeroH) := by
  by_cases h1 : xs.length < 40
  · have e : getE xs = 3 := by unfold getE; rw [if_pos h1]
    exact .inl ⟨h1, e, by unfold getH; rw [e]; rfl⟩
  · by_cases h2 : xs.getD 0 0 / 16 = 6
    · have e : getE xs = 0 := by unfold getE; rw [if_neg h1, if_pos h2]
      exact .inr (.inl ⟨by omega, h2, e, by unfold getH; rw [e]; rfl⟩)
    · have e : getE xs = 5 := by unfold getE; rw [if_neg h1, if_neg h2]
      exact .inr (.inr ⟨by omega, h2, e, by unfold getH; rw [e]; rfl⟩)
theorem getH_ok {xs : List Int} (ha : AllB xs) : (getH xs).ok := by
  rcases getE_cases xs with ⟨h1, _, e⟩ | ⟨h1, _, _, e⟩ | ⟨h1, _, _, e⟩
  · rw [e]; exact zeroH_ok
  · rw [e]; exact getL_ok ha h1
  · rw [e]; exact zeroH_ok
/-- a header and a number handed back -/
def GivesH (w : World) (h : Hd) (e : Int) (r : Ending) (w' : World) : Prop := r = .returned (.tuple #[headV h, .int .i64 e]) ∧ Below w.heap.size w w'

theorem ret_head {w' : World} {fn : Func} {p q : Tmp} {tmps : Array Value} {df : List Deferred} {g : Nat} {h : Hd} {e : Int} {R : Ending → World → Prop} (hr : fn.results = #[.cell p 26, .tmp q]) (hp : tmps.getD p undef = .pointer (some ⟨g, 0, none⟩)) (hq : tmps.getD q undef = .int .i64 e)
    (hb : BlkH w' g h) (hs : h.s.length = 16) (hd : h.d.length = 16) (hR : R (.returned (.tuple #[headV h, .int .i64 e])) w') (hdf : df = []) : bodyPost Tryz.prog fn R .ret ⟨tmps, df⟩ w' := by
  subst hdf
  exact bodyPost_ret (v := .tuple #[.agg (headC h).toArray, .int .i64 e]) (results_cell_tmp hr _ _ g _ _ _ _ _ hp hq hb Tryz.underlying26 rfl (by rw [head_size]; simp [headC_length hs hd])) rfl hR

theorem first_at (xs : List Int) (ha : AllB xs) : num4 xs 0 / 268435456 = xs.getD 0 0 / 16 ∧ num4 xs 0 / 1048576 % 256 = xs.getD 0 0 % 16 * 16 + xs.getD 1 0 / 16 ∧ num4 xs 0 % 1048576 = xs.getD 1 0 % 16 * 65536 + xs.getD 2 0 * 256 + xs.getD 3 0 ∧ 0 ≤ num4 xs 0 ∧ num4 xs 0 < 4294967296 := by
  have r0 := ha.getD 0
  have r1 := ha.getD 1
  have r2 := ha.getD 2
  have r3 := ha.getD 3
  unfold num4
  simp only [Nat.zero_add]
  omega
theorem and_u32 (k : Nat) (hk : k ≤ 31) (m : Int) (hm : m = 2 ^ k - 1) (n : Int) (h0 : 0 ≤ n) (h1 : n < 4294967296) : bits .and .u32 n m = n % 2 ^ k := by
  have hp : (2 : Int) ^ k ≤ 2 ^ 31 := by
    have := Nat.pow_le_pow_right (show 0 < 2 by omega) hk
    exact_mod_cast this
  have hp0 : (0 : Int) < 2 ^ k := by
    have := Nat.pow_pos (n := k) (show 0 < 2 by omega)
    exact_mod_cast this
  have e : ((2 ^ k : Nat) : Int) = 2 ^ k := by push_cast; rfl
  have h2 : (BitVec.ofInt 32 m).toNat = 2 ^ k - 1 := by
    rw [BitVec.toNat_ofInt, hm]
    have : ((2 : Int) ^ k - 1) % ↑(2 ^ 32 : Nat) = 2 ^ k - 1 := Int.emod_eq_of_lt (by omega) (by omega)
    rw [this, ← e]; omega
  have h3 : (BitVec.ofInt 32 n).toNat = n.toNat := by
    rw [BitVec.toNat_ofInt]
    have : n % ↑(2 ^ 32 : Nat) = n := Int.emod_eq_of_lt h0 (by simpa using h1)
    rw [this]
  have h : ((BitVec.ofInt 32 n &&& BitVec.ofInt 32 m).toNat : Int) = n % 2 ^ k := by
    rw [BitVec.toNat_and, h2, h3, Nat.and_two_pow_sub_one_eq_mod, Int.natCast_emod, Int.toNat_of_nonneg h0, e]
  show IntKind.u32.wrap ((BitVec.ofInt 32 n &&& BitVec.ofInt 32 m).toNat : Int) = _
  rw [h]
  have := Int.emod_nonneg n (show (2 : Int) ^ k ≠ 0 by omega)
  have := Int.emod_lt_of_pos n hp0
  exact wraps_u32 _ (by omega) (by omega)
theorem and255u (n : Int) (h0 : 0 ≤ n) (h1 : n < 4294967296) : bits .and .u32 n 255 = n % 256 := and_u32 8 (by decide) 255 (by decide) n h0 h1
theorem and1048575u (n : Int) (h0 : 0 ≤ n) (h1 : n < 4294967296) : bits .and .u32 n 1048575 = n % 1048576 := and_u32 20 (by decide) 1048575 (by decide) n h0 h1

set_option maxHeartbeats 1600000 in
set_option maxRecDepth 100000 in
theorem get_short (A : Option Addr) (n c : Nat) (xs : List Int) (w : World) (hn : n ≤ 140737488355328) (h1 : n < 40) (hb : Bs w w.heap.size A n xs) :
    Calls Tryz.prog 26 #[.slice A n c] w fun e w' => GivesH w zeroH 3 e w' := by
  go_enter Tryz.func26, Tryz.ntmps26
  go_wp2_with ((with_reducible refine wpList_alloc_v rfl 26 rfl (headC zeroH) (by kernel_rfl) ?_); intro w1 HZ hL hz1; refine Hid.out ?_)
  refine Lib.hid ?_
  replace HZ := Lib.hid HZ
  go_wp2_with ((refine wpList_store_head rfl (.tmp 2) (.tmp 11) rfl w.heap.size rfl zeroH rfl zeroH HZ.out rfl rfl rfl rfl ?_); intro w4 HG hb4 hz4)
  exact ret_head Tryz.results26 rfl rfl HG rfl rfl ⟨rfl, Below.trans hL hb4⟩ rfl

set_option maxHeartbeats 1600000 in
set_option maxRecDepth 100000 in
theorem get_form (A : Option Addr) (n c : Nat) (xs : List Int) (w : World) (hn : n ≤ 140737488355328) (h1 : 40 ≤ n) (h2 : ¬ xs.getD 0 0 / 16 = 6) (hb : Bs w w.heap.size A n xs) :
    Calls Tryz.prog 26 #[.slice A n c] w fun e w' => GivesH w zeroH 5 e w' := by
  obtain ⟨f1, f2, f3, f4, f5⟩ := first_at xs hb.all
  rw [← f1] at h2
  clear f1 f2 f3
  go_enter Tryz.func26, Tryz.ntmps26
  go_wp2_with ((with_reducible refine wpList_alloc_v rfl 26 rfl (headC zeroH) (by kernel_rfl) ?_); intro w1 HZ hL hz1; refine Hid.out ?_)
  refine Lib.hid ?_
  replace HZ := Lib.hid HZ
  replace hb := hb.below' hL hL.size
  go_wp2_with fail
  refine (u32_yes A n c 0 0 xs w1 hn hb rfl (by omega)).mono ?_
  rintro e w2 ⟨rfl, k, rfl⟩
  replace HZ : Hid (BlkH (w1.drewN k) w.heap.size zeroH) := HZ
  replace hL := below_drewN hL k
  clear hb hz1
  generalize w1.drewN k = w3 at *
  generalize num4 xs 0 = x at *
  go_wp2_with ((refine wpList_store_head rfl (.tmp 2) (.tmp 20) rfl w.heap.size rfl zeroH rfl zeroH HZ.out rfl rfl rfl rfl ?_); intro w4 HG hb4 hz4)
  exact ret_head Tryz.results26 rfl rfl HG rfl rfl ⟨rfl, Below.trans hL hb4⟩ rfl

/-- 16 bytes of a slice -/
theorem Bs.range16 {w : World} {n b o : Nat} {xs : List Int} (h : ∀ i, i < n → w.cell? ⟨b, o + i, none⟩ = some (.int .u8 (xs.getD i 0))) (hl : xs.length = n) (k : Nat) (hk : k + 16 ≤ n) : w.rangeAt b (o + k) (cellsB ((xs.drop k).take 16)) := by
  intro j v hv
  have hj : j < 16 := by
    have := (List.getElem?_eq_some_iff.1 hv).1
    rw [cellsB_length] at this
    simp at this
    omega
  rw [Nat.add_assoc, h (k + j) (by omega)]
  rw [cellsB_get (by simp; omega)] at hv
  rw [← hv]
  congr 2
  simp [List.getD, hj]
theorem exec_load_mid {f : Operand → Value} {dd : Option Tmp} {x : Operand} {ty : TypeId} {pos : String} {gd : Option (Nat × Bool)} {w : World} {b o : Nat} {s : List Int} (hx : f x = .pointer (some ⟨b, o, none⟩)) (h : w.rangeAt b o (cellsB s)) (hs : s.length = 16) :
    (execOp f ⟨dd, .load 24 x, ty, pos, #[], gd⟩).run Tryz.prog w = .ok (.value (.agg (cellsB s).toArray)) w := by
  unfold execOp
  simp only [hx, Instr.loadAt, Instr.sureAddr, Sem.run_bind, Sem.run_pure, Result.andThen_ok, run_loadVar_mid w b o 24 (cellsB s) _ h Tryz.underlying24 rfl (by rw [addr_size]; simp [cellsB_length, hs])]

theorem list16 (s : List Int) (h : s.length = 16) : ∃ s0 s1 s2 s3 s4 s5 s6 s7 s8 s9 s10 s11 s12 s13 s14 s15, s = [s0, s1, s2, s3, s4, s5, s6, s7, s8, s9, s10, s11, s12, s13, s14, s15] := by
  match s, h with
  | [s0, s1, s2, s3, s4, s5, s6, s7, s8, s9, s10, s11, s12, s13, s14, s15], _ => exact ⟨s0, s1, s2, s3, s4, s5, s6, s7, s8, s9, s10, s11, s12, s13, s14, s15, rfl⟩
theorem run_build_lit (a b c d e s0 s1 s2 s3 s4 s5 s6 s7 s8 s9 s10 s11 s12 s13 s14 s15 d0 d1 d2 d3 d4 d5 d6 d7 d8 d9 d10 d11 d12 d13 d14 d15 : Int) (w : World) :
    (Instr.build 26 #[(0, .int .i64 a), (1, .int .i64 b), (2, .int .i64 c), (3, .int .i64 d), (4, .int .i64 e), (5, .agg (cellsB [s0, s1, s2, s3, s4, s5, s6, s7, s8, s9, s10, s11, s12, s13, s14, s15]).toArray), (6, .agg (cellsB [d0, d1, d2, d3, d4, d5, d6, d7, d8, d9, d10, d11, d12, d13, d14, d15]).toArray)]).run Tryz.prog w = .ok (.agg (headC ⟨a, b, c, d, e, [s0, s1, s2, s3, s4, s5, s6, s7, s8, s9, s10, s11, s12, s13, s14, s15], [d0, d1, d2, d3, d4, d5, d6, d7, d8, d9, d10, d11, d12, d13, d14, d15]⟩).toArray) w := by kernel_rfl
theorem run_build_head (h : Hd) (hs : h.s.length = 16) (hd : h.d.length = 16) (w : World) :
    (Instr.build 26 #[(0, .int .i64 h.cl), (1, .int .i64 h.lb), (2, .int .i64 h.ln), (3, .int .i64 h.nx), (4, .int .i64 h.hp), (5, .agg (cellsB h.s).toArray), (6, .agg (cellsB h.d).toArray)]).run Tryz.prog w = .ok (.agg (headC h).toArray) w := by
  obtain ⟨a, b, c, d, e, s, t⟩ := h
  obtain ⟨s0, s1, s2, s3, s4, s5, s6, s7, s8, s9, s10, s11, s12, s13, s14, s15, rfl⟩ := list16 s hs
  obtain ⟨d0, d1, d2, d3, d4, d5, d6, d7, d8, d9, d10, d11, d12, d13, d14, d15, rfl⟩ := list16 t hd
  exact run_build_lit _ _ _ _ _ _ _ _ _ _ _ _ _ _ _ _ _ _ _ _ _ _ _ _ _ _ _ _ _ _ _ _ _ _ _ _ _ w

theorem exec_build_head {f : Operand → Value} {dd : Option Tmp} {x0 x1 x2 x3 x4 x5 x6 : Operand} {ty : TypeId} {pos : String} {gd : Option (Nat × Bool)} {w : World} (h : Hd) (hs : h.s.length = 16) (hd : h.d.length = 16)
    (e0 : f x0 = .int .i64 h.cl) (e1 : f x1 = .int .i64 h.lb) (e2 : f x2 = .int .i64 h.ln) (e3 : f x3 = .int .i64 h.nx) (e4 : f x4 = .int .i64 h.hp) (e5 : f x5 = .agg (cellsB h.s).toArray) (e6 : f x6 = .agg (cellsB h.d).toArray) :
    (execOp f ⟨dd, .build 26 #[(0, x0), (1, x1), (2, x2), (3, x3), (4, x4), (5, x5), (6, x6)], ty, pos, #[], gd⟩).run Tryz.prog w = .ok (.value (.agg (headC h).toArray)) w := by
  unfold execOp
  simp only [List.map_toArray, List.map_cons, List.map_nil, e0, e1, e2, e3, e4, e5, e6, Sem.run_bind, run_build_head h hs hd, Result.andThen_ok, Sem.run_pure]

set_option maxHeartbeats 1600000 in
set_option maxRecDepth 100000 in
theorem get_yes (A : Option Addr) (n c : Nat) (xs : List Int) (w : World) (hn : n ≤ 140737488355328) (hc : n ≤ c) (hc2 : c ≤ 9223372036854775807) (h1 : 40 ≤ n) (h2 : xs.getD 0 0 / 16 = 6) (hb : Bs w w.heap.size A n xs) :
    Calls Tryz.prog 26 #[.slice A n c] w fun e w' => GivesH w (getL xs) 0 e w' := by
  obtain ⟨f1, f2, f3, f4, f5⟩ := first_at xs hb.all
  rw [← f1] at h2
  have HF2 := Lib.hid f2
  have HF3 := Lib.hid f3
  have HOk := Lib.hid (getL_ok hb.all (by rw [hb.len]; exact h1))
  clear f1 f2 f3
  have HB0 := Lib.hid hb
  go_enter Tryz.func26, Tryz.ntmps26
  go_wp2_with ((with_reducible refine wpList_alloc_v rfl 26 rfl (headC zeroH) (by kernel_rfl) ?_); intro w1 HZ hL hz1; refine Hid.out ?_)
  refine Lib.hid ?_
  replace HZ := Lib.hid HZ
  replace hb := hb.below' hL hL.size
  go_wp2_with fail
  refine (u32_yes A n c 0 0 xs w1 hn hb rfl (by omega)).mono ?_
  rintro e w2 ⟨rfl, k, rfl⟩
  replace HZ : Hid (BlkH (w1.drewN k) w.heap.size zeroH) := HZ
  replace hL := below_drewN hL k
  replace hb : Bs (w1.drewN k) (w1.drewN k).heap.size A n xs := hb.drewN k
  clear hz1
  generalize w1.drewN k = w3 at *
  have a1 := and255u (num4 xs 0 / 1048576) (by omega) (by omega)
  have a2 := and1048575u (num4 xs 0) f4 f5
  rw [HF2.out] at a1
  rw [HF3.out] at a2
  have HB := Lib.hid hb
  clear hb
  have rq : 0 ≤ num4 xs 0 / 1048576 ∧ num4 xs 0 / 1048576 < 4294967296 := by omega
  go_wp2_with fail
  refine (u16_yes A n c 4 4 xs w3 hn HB.out rfl (by omega)).mono ?_
  rintro e w4 ⟨rfl, k, rfl⟩
  replace HZ : Hid (BlkH (w3.drewN k) w.heap.size zeroH) := HZ
  replace hL := below_drewN hL k
  replace HB : Hid (Bs (w3.drewN k) (w3.drewN k).heap.size A n xs) := Lib.hid (HB.out.drewN k)
  generalize w3.drewN k = w5 at *
  have HN2 := Lib.hid (show num2 xs 4 = xs.getD 4 0 * 256 + xs.getD 5 0 from rfl)
  generalize num2 xs 4 = ln at *
  go_wp2_with fail
  refine wp_region_planS (fun y => Below w.heap.size w y) (.rd 0 (.rd 1 (.rd 2 (.rd 3 (.rd 4 (.rd 5 (.rd 6 (.rd 7 (.rd 8 (.rd 9 (.rd 10 (.rd 11 (.rd 12 (.rd 13 (.rd 14 (.rd 15 (.rd 16 (.rd 17 (.rd 18 (.rd 19 (.rd 20 (.rd 21 (.rd 22 (.rd 23 (.rd 24 (.act 25 (.rd 26 (.done))))))))))))))))))))))))))))
    (by kernel_rfl) (by kernel_rfl) (fun _ _ d _ _ h => by cases d <;> exact h) (by kernel_rfl) (Below.drew hL) ?_
  replace HZ : Hid (BlkH w5.drew w.heap.size zeroH) := HZ
  replace hL := Below.drew hL
  clear HB
  generalize w5.drew = w6 at *
  have HB := HB0
  clear HB0
  have hall := HB.out.all
  have r0 := hall.getD 0
  have r1 := hall.getD 1
  have r2 := hall.getD 2
  have r3 := hall.getD 3
  have r6 := hall.getD 6
  have r7 := hall.getD 7
  obtain ⟨b, o, rfl, hbl, hcell⟩ := HB.out.mem (by omega)
  have HM1 := Lib.hid (Bs.range16 hcell HB.out.len 8 (by omega))
  have HM2 := Lib.hid (Bs.range16 hcell HB.out.len 24 (by omega))
  have c6 := hcell 6 (by omega)
  have c7 := hcell 7 (by omega)
  clear hcell
  have l1 : Hid (((xs.drop 8).take 16).length = 16) := Lib.hid HOk.out.s
  have l2 : Hid (((xs.drop 24).take 16).length = 16) := Lib.hid HOk.out.d
  have HG := Lib.hid (show getL xs = ⟨xs.getD 0 0 % 16 * 16 + xs.getD 1 0 / 16, xs.getD 1 0 % 16 * 65536 + xs.getD 2 0 * 256 + xs.getD 3 0, xs.getD 4 0 * 256 + xs.getD 5 0, xs.getD 6 0, xs.getD 7 0, (xs.drop 8).take 16, (xs.drop 24).take 16⟩ from rfl)
  rw [← HN2.out] at HG
  generalize (xs.drop 8).take 16 = s1 at *
  generalize (xs.drop 24).take 16 = s2 at *
  have hm1 : ∀ y, Below w.heap.size w y → y.rangeAt b (o + 8) (cellsB s1) := fun y hy j v hv => (hy.cell (p := ⟨b, o + 8 + j, none⟩) hbl).trans (HM1.out j v hv)
  have hm2 : ∀ y, Below w.heap.size w y → y.rangeAt b (o + 24) (cellsB s2) := fun y hy j v hv => (hy.cell (p := ⟨b, o + 24 + j, none⟩) hbl).trans (HM2.out j v hv)
  replace hm1 := Lib.hid hm1
  replace hm2 := Lib.hid hm2
  clear HM1 HM2 HF2 HF3 HN2 HB hall
  generalize xs.getD 0 0 = x0 at *
  generalize xs.getD 1 0 = x1 at *
  generalize xs.getD 2 0 = x2 at *
  generalize xs.getD 3 0 = x3 at *
  generalize xs.getD 6 0 = x6 at *
  generalize xs.getD 7 0 = x7 at *
  have q1 : 0 ≤ x0 % 16 * 16 + x1 / 16 ∧ x0 % 16 * 16 + x1 / 16 < 256 := by omega
  have q2 : 0 ≤ x1 % 16 * 65536 + x2 * 256 + x3 ∧ x1 % 16 * 65536 + x2 * 256 + x3 < 1048576 := by omega
  have hw1 : IntKind.i64.wrap (x0 % 16 * 16 + x1 / 16) = x0 % 16 * 16 + x1 / 16 := wraps_i64 _ q1.1 (by omega)
  have hw2 : IntKind.i64.wrap (x1 % 16 * 65536 + x2 * 256 + x3) = x1 % 16 * 65536 + x2 * 256 + x3 := wraps_i64 _ q2.1 (by omega)
  have n6 : (6 : Int) < n := by omega
  have n7 : (7 : Int) < n := by omega
  have n24 : (24 : Int) ≤ c := by omega
  have n40 : (40 : Int) ≤ c := by omega
  have hw6 : IntKind.i64.wrap x6 = x6 := wraps_i64 _ r6.1 (by omega)
  have hw7 : IntKind.i64.wrap x7 = x7 := wraps_i64 _ r7.1 (by omega)
  have nc8 : ¬ c = 8 := by omega
  have nc24 : ¬ c = 24 := by omega
  iterate 24 (refine walkS_read (v := _) rfl (by rfl) (by intro y hy; have e6 := (hy.cell (p := ⟨b, o + 6, none⟩) hbl).trans c6; have e7 := (hy.cell (p := ⟨b, o + 7, none⟩) hbl).trans c7; first | exact exec_load_mid rfl (hm1.out y hy) l1.out | exact exec_load_mid rfl (hm2.out y hy) l2.out | (go_simp; try rfl)) ?_; simp only [Act.put, List.setIfInBounds_toArray, List.set_cons_zero, List.set_cons_succ])
  refine walkS_read (v := _) rfl (by rfl) (by intro y hy; exact exec_build_head ⟨x0 % 16 * 16 + x1 / 16, x1 % 16 * 65536 + x2 * 256 + x3, ln, x6, x7, s1, s2⟩ l1.out l2.out rfl rfl rfl rfl rfl rfl rfl) ?_
  simp only [Act.put, List.setIfInBounds_toArray, List.set_cons_zero, List.set_cons_succ]
  rw [← HG.out]
  have HS := Lib.hid HOk.out.s
  have HD := Lib.hid HOk.out.d
  refine walkS_act rfl (by rfl) (fun K hK => ?_)
  refine wp_store_row 26 (.tmp 2) (.tmp 50) rfl w.heap.size (headC (getL xs)).toArray rfl rfl 26 _ HZ.out (by rw [head_size]; simp [headC_length HS.out HD.out]) (by simp [headC_length HS.out HD.out, headC_length zeroH_ok.s zeroH_ok.d]) (by rw [Array.all_eq_true_iff_forall_mem]; intro v hv; exact headC_one _ v (by simpa using hv)) ?_
  refine hK _ _ (hL.trans (low_setRow _ _ _ (Nat.le_refl _))) ?_
  clear hK K
  have HG2 : BlkH (w6.setRow w.heap.size (headC (getL xs)).toArray) w.heap.size (getL xs) := BlkV.setRow HZ.out _
  replace hL := hL.trans (low_setRow w6 w.heap.size (headC (getL xs)).toArray (Nat.le_refl _))
  clear HZ
  generalize w6.setRow w.heap.size (headC (getL xs)).toArray = w7 at *
  simp only [Act.put]
  refine walkS_read (v := _) rfl (by rfl) (by intro y hy; go_simp; try rfl) ?_
  simp only [Act.put, List.setIfInBounds_toArray, List.set_cons_zero, List.set_cons_succ]
  unfold walkS
  go_wp2
  exact ret_head Tryz.results26 rfl rfl HG2 HS.out HD.out ⟨rfl, hL⟩ rfl
theorem get_any (A : Option Addr) (n c : Nat) (xs : List Int) (w : World) (hn : n ≤ 140737488355328) (hc : n ≤ c) (hc2 : c ≤ 9223372036854775807) (hb : Bs w w.heap.size A n xs) :
    Calls Tryz.prog 26 #[.slice A n c] w fun e w' => GivesH w (getH xs) (getE xs) e w' := by
  have hl := hb.len
  rcases getE_cases xs with ⟨h1, e1, e2⟩ | ⟨h1, h2, e1, e2⟩ | ⟨h1, h2, e1, e2⟩
  · rw [e1, e2]; exact get_short A n c xs w hn (by omega) hb
  · rw [e1, e2]; exact get_yes A n c xs w hn hc hc2 (by omega) h2 hb
  · rw [e1, e2]; exact get_form A n c xs w hn (by omega) h2 hb
end Go.Proofs.YtjafjapnmffohaaGreatDoor

namespace Go.Proofs.YtjafjapnmffohaaGreatDoor
open Go.RowKit
set_option linter.unusedVariables false

set_option maxHeartbeats 1600000 in
set_option maxRecDepth 100000 in
theorem rget_short (A : Option Addr) (n c : Nat) (xs : List Int) (w : World) (hn : n ≤ 140737488355328) (h1 : n < 40) (hb : Bs w w.heap.size A n xs) :
    Calls Tryz.prog 15 #[.slice A n c] w fun e w' => GivesH w zeroH 3 e w' := by
  go_enter Tryz.func15, Tryz.ntmps15
  go_wp2_with ((with_reducible refine wpList_alloc_v rfl 26 rfl (headC zeroH) (by kernel_rfl) ?_); intro w1 HZ hL hz1; refine Hid.out ?_)
  refine Lib.hid ?_
  replace HZ := Lib.hid HZ
  go_wp2_with ((refine wpList_store_head rfl (.tmp 2) (.tmp 9) rfl w.heap.size rfl zeroH rfl zeroH HZ.out rfl rfl rfl rfl ?_); intro w4 HG hb4 hz4)
  exact ret_head Tryz.results15 rfl rfl HG rfl rfl ⟨rfl, Below.trans hL hb4⟩ rfl

set_option maxHeartbeats 1600000 in
set_option maxRecDepth 100000 in
theorem rget_form (A : Option Addr) (n c : Nat) (xs : List Int) (w : World) (hn : n ≤ 140737488355328) (h1 : 40 ≤ n) (h2 : ¬ xs.getD 0 0 / 16 = 6) (hb : Bs w w.heap.size A n xs) :
    Calls Tryz.prog 15 #[.slice A n c] w fun e w' => GivesH w zeroH 5 e w' := by
  have r0 := hb.nonneg 0
  go_enter Tryz.func15, Tryz.ntmps15
  go_wp2_with ((with_reducible refine wpList_alloc_v rfl 26 rfl (headC zeroH) (by kernel_rfl) ?_); intro w1 HZ hL hz1; refine Hid.out ?_)
  refine Lib.hid ?_
  replace HZ := Lib.hid HZ
  replace hb := hb.below' hL hL.size
  obtain ⟨b, o, rfl, hbl, hcell⟩ := hb.mem (by omega)
  have c0 := hcell 0 (by omega)
  rw [Nat.add_zero] at c0
  clear hcell hb
  generalize xs.getD 0 0 = x0 at *
  have n0 : (0 : Int) < n := by omega
  go_wp2_with ((refine wpList_store_head rfl (.tmp 2) (.tmp 15) rfl w.heap.size rfl zeroH rfl zeroH HZ.out rfl rfl rfl rfl ?_); intro w4 HG hb4 hz4)
  exact ret_head Tryz.results15 rfl rfl HG rfl rfl ⟨rfl, Below.trans hL hb4⟩ rfl

theorem run_build_five (a b c d e : Int) (w : World) :
    (Instr.build 26 #[(0, .int .i64 a), (1, .int .i64 b), (2, .int .i64 c), (3, .int .i64 d), (4, .int .i64 e)]).run Tryz.prog w = .ok (.agg (headC ⟨a, b, c, d, e, zero16, zero16⟩).toArray) w := by kernel_rfl
theorem exec_build_five {f : Operand → Value} {dd : Option Tmp} {x0 x1 x2 x3 x4 : Operand} {ty : TypeId} {pos : String} {gd : Option (Nat × Bool)} {w : World} (a b c d e : Int)
    (e0 : f x0 = .int .i64 a) (e1 : f x1 = .int .i64 b) (e2 : f x2 = .int .i64 c) (e3 : f x3 = .int .i64 d) (e4 : f x4 = .int .i64 e) :
    (execOp f ⟨dd, .build 26 #[(0, x0), (1, x1), (2, x2), (3, x3), (4, x4)], ty, pos, #[], gd⟩).run Tryz.prog w = .ok (.value (.agg (headC ⟨a, b, c, d, e, zero16, zero16⟩).toArray)) w := by
  unfold execOp
  simp only [List.map_toArray, List.map_cons, List.map_nil, e0, e1, e2, e3, e4, Sem.run_bind, run_build_five, Result.andThen_ok, Sem.run_pure]
theorem headC_set_s (h : Hd) (k : Nat) (x : Int) (hs : h.s.length = 16) (hk : k < 16) : (headC h).set (5 + k) (.int .u8 x) = headC { h with s := h.s.set k x } := by
  unfold headC
  rw [show 5 + k = k + 1 + 1 + 1 + 1 + 1 by omega]
  simp only [List.set_cons_succ]
  rw [List.set_append_left _ _ (by rw [cellsB_length, hs]; exact hk)]
  simp [cellsB, List.map_set]
theorem headC_set_d (h : Hd) (k : Nat) (x : Int) (hs : h.s.length = 16) (hk : k < 16) : (headC h).set (21 + k) (.int .u8 x) = headC { h with d := h.d.set k x } := by
  unfold headC
  rw [show 21 + k = (16 + k) + 1 + 1 + 1 + 1 + 1 by omega]
  simp only [List.set_cons_succ]
  rw [List.set_append_right _ _ (by rw [cellsB_length, hs]; omega), cellsB_length, hs, Nat.add_sub_cancel_left]
  simp [cellsB, List.map_set]

set_option maxHeartbeats 3200000 in
set_option maxRecDepth 100000 in
theorem rget_yes (A : Option Addr) (n c : Nat) (xs : List Int) (w : World) (hn : n ≤ 140737488355328) (h1 : 40 ≤ n) (h2 : xs.getD 0 0 / 16 = 6) (hb : Bs w w.heap.size A n xs) :
    Calls Tryz.prog 15 #[.slice A n c] w fun e w' => GivesH w (getL xs) 0 e w' := by
  have r0 := hb.nonneg 0
  have r1 := hb.nonneg 1
  have r2 := hb.nonneg 2
  have r3 := hb.nonneg 3
  have r4 := hb.nonneg 4
  have r5 := hb.nonneg 5
  have r6 := hb.nonneg 6
  have r7 := hb.nonneg 7
  have HA := Lib.hid hb.all
  have HLn := Lib.hid hb.len
  have HOk := Lib.hid (getL_ok hb.all (by rw [hb.len]; exact h1))
  obtain ⟨b, o, rfl, hbl, hcell⟩ := hb.mem (by omega)
  have HCell := Lib.hid hcell
  have c0 := hcell 0 (by omega)
  have c1 := hcell 1 (by omega)
  have c2 := hcell 2 (by omega)
  have c3 := hcell 3 (by omega)
  have c4 := hcell 4 (by omega)
  have c5 := hcell 5 (by omega)
  have c6 := hcell 6 (by omega)
  have c7 := hcell 7 (by omega)
  rw [Nat.add_zero] at c0
  clear hb hcell
  have HG := Lib.hid (show getL xs = ⟨xs.getD 0 0 % 16 * 16 + xs.getD 1 0 / 16, xs.getD 1 0 % 16 * 65536 + xs.getD 2 0 * 256 + xs.getD 3 0, xs.getD 4 0 * 256 + xs.getD 5 0, xs.getD 6 0, xs.getD 7 0, (xs.drop 8).take 16, (xs.drop 24).take 16⟩ from rfl)
  generalize xs.getD 0 0 = x0 at *
  generalize xs.getD 1 0 = x1 at *
  generalize xs.getD 2 0 = x2 at *
  generalize xs.getD 3 0 = x3 at *
  generalize xs.getD 4 0 = x4 at *
  generalize xs.getD 5 0 = x5 at *
  generalize xs.getD 6 0 = x6 at *
  generalize xs.getD 7 0 = x7 at *
  have n0 : (0 : Int) < n := by omega
  have n1 : (1 : Int) < n := by omega
  have n2 : (2 : Int) < n := by omega
  have n3 : (3 : Int) < n := by omega
  have n4 : (4 : Int) < n := by omega
  have n5 : (5 : Int) < n := by omega
  have n6 : (6 : Int) < n := by omega
  have n7 : (7 : Int) < n := by omega
  go_enter Tryz.func15, Tryz.ntmps15
  go_wp2_with ((with_reducible refine wpList_alloc_v rfl 26 rfl (headC zeroH) (by kernel_rfl) ?_); intro w1 HZ hL hz1; refine Hid.out ?_)
  refine Lib.hid ?_
  replace HZ := Lib.hid HZ
  have d0 := (hL.cell (p := ⟨b, o, none⟩) hbl).trans c0
  go_wp2_with fail
  clear d0
  refine wp_region_planS (fun y => Below w.heap.size w y) (.rd 0 (.rd 1 (.rd 2 (.rd 3 (.rd 4 (.rd 5 (.rd 6 (.rd 7 (.rd 8 (.rd 9 (.rd 10 (.rd 11 (.rd 12 (.rd 13 (.rd 14 (.rd 15 (.rd 16 (.rd 17 (.rd 18 (.rd 19 (.rd 20 (.rd 21 (.rd 22 (.rd 23 (.rd 24 (.rd 25 (.rd 26 (.rd 27 (.rd 28 (.rd 29 (.rd 30 (.rd 31 (.rd 32 (.rd 33 (.rd 34 (.rd 35 (.rd 36 (.rd 37 (.rd 38 (.rd 39 (.rd 40 (.rd 41 (.rd 42 (.rd 43 (.rd 44 (.rd 45 (.rd 46 (.rd 47 (.act 48 (.act 49 (.done)))))))))))))))))))))))))))))))))))))))))))))))))))
    (by kernel_rfl) (by kernel_rfl) (fun _ _ d _ _ h => by cases d <;> exact h) (by kernel_rfl) (Below.drew hL) ?_
  replace HZ : Hid (BlkH w1.drew w.heap.size zeroH) := HZ
  replace hL := Below.drew hL
  replace hz1 : w1.drew.heap.size = w.heap.size + 1 := hz1
  generalize w1.drew = w2 at *
  have n0' : 0 < n := by omega
  have k0 : IntKind.i64.wrap (x0 % 16) = x0 % 16 := wraps_i64 _ (by omega) (by omega)
  have k1 : IntKind.i64.wrap (x0 % 16 * 16) = x0 % 16 * 16 := wraps_i64 _ (by omega) (by omega)
  have k2 : IntKind.i64.wrap (x1 / 16) = x1 / 16 := wraps_i64 _ (by omega) (by omega)
  have k3 : IntKind.i64.wrap (x0 % 16 * 16 + x1 / 16) = x0 % 16 * 16 + x1 / 16 := wraps_i64 _ (by omega) (by omega)
  have k4 : IntKind.i64.wrap (x1 % 16) = x1 % 16 := wraps_i64 _ (by omega) (by omega)
  have k5 : IntKind.i64.wrap (x1 % 16 * 65536) = x1 % 16 * 65536 := wraps_i64 _ (by omega) (by omega)
  have k6 : IntKind.i64.wrap (x2) = x2 := wraps_i64 _ (by omega) (by omega)
  have k7 : IntKind.i64.wrap (x2 * 256) = x2 * 256 := wraps_i64 _ (by omega) (by omega)
  have k8 : IntKind.i64.wrap (x1 % 16 * 65536 + x2 * 256) = x1 % 16 * 65536 + x2 * 256 := wraps_i64 _ (by omega) (by omega)
  have k9 : IntKind.i64.wrap (x3) = x3 := wraps_i64 _ (by omega) (by omega)
  have k10 : IntKind.i64.wrap (x1 % 16 * 65536 + x2 * 256 + x3) = x1 % 16 * 65536 + x2 * 256 + x3 := wraps_i64 _ (by omega) (by omega)
  have k11 : IntKind.i64.wrap (x4) = x4 := wraps_i64 _ (by omega) (by omega)
  have k12 : IntKind.i64.wrap (x4 * 256) = x4 * 256 := wraps_i64 _ (by omega) (by omega)
  have k13 : IntKind.i64.wrap (x5) = x5 := wraps_i64 _ (by omega) (by omega)
  have k14 : IntKind.i64.wrap (x4 * 256 + x5) = x4 * 256 + x5 := wraps_i64 _ (by omega) (by omega)
  have k15 : IntKind.i64.wrap (x6) = x6 := wraps_i64 _ (by omega) (by omega)
  have k16 : IntKind.i64.wrap (x7) = x7 := wraps_i64 _ (by omega) (by omega)
  have t0 : x0.tmod 16 = x0 % 16 := Int.tmod_eq_emod_of_nonneg r0.1
  have t1 : x1.tmod 16 = x1 % 16 := Int.tmod_eq_emod_of_nonneg r1.1
  have t2 : x1.tdiv 16 = x1 / 16 := Int.tdiv_eq_ediv_of_nonneg r1.1
  have t3 : IntKind.u8.wrap (x1 / 16) = x1 / 16 := by simp [IntKind.wrap, IntKind.bits, IntKind.signed]; omega
  iterate 47 (refine walkS_read (v := _) rfl (by rfl) (by
    intro y hy
    have e0 := (hy.cell (p := ⟨b, o, none⟩) hbl).trans c0; have e1 := (hy.cell (p := ⟨b, o + 1, none⟩) hbl).trans c1; have e2 := (hy.cell (p := ⟨b, o + 2, none⟩) hbl).trans c2; have e3 := (hy.cell (p := ⟨b, o + 3, none⟩) hbl).trans c3
    have e4 := (hy.cell (p := ⟨b, o + 4, none⟩) hbl).trans c4; have e5 := (hy.cell (p := ⟨b, o + 5, none⟩) hbl).trans c5; have e6 := (hy.cell (p := ⟨b, o + 6, none⟩) hbl).trans c6; have e7 := (hy.cell (p := ⟨b, o + 7, none⟩) hbl).trans c7
    go_simp; try rfl) ?_; simp only [Act.put, List.setIfInBounds_toArray, List.set_cons_zero, List.set_cons_succ])
  refine walkS_read (v := _) rfl (by rfl) (by intro y hy; exact exec_build_five (x0 % 16 * 16 + x1 / 16) (x1 % 16 * 65536 + x2 * 256 + x3) (x4 * 256 + x5) x6 x7 rfl rfl rfl rfl rfl) ?_
  simp only [Act.put, List.setIfInBounds_toArray, List.set_cons_zero, List.set_cons_succ]
  clear c0 c1 c2 c3 c4 c5 c6 c7 n0 n1 n2 n3 n4 n5 n6 n7 k0 k1 k2 k3 k4 k5 k6 k7 k8 k9 k10 k11 k12 k13 k14 k15 k16
  have HS := Lib.hid HOk.out.s
  have HD := Lib.hid HOk.out.d
  rw [HG.out] at HS HD
  dsimp only at HS HD
  have HOk2 := HOk
  rw [HG.out] at HOk2
  clear t0 t1 t2 t3
  have HI := Lib.hid (show ∀ k, k < 16 → w.cell? ⟨b, o + (8 + k), none⟩ = some (.int .u8 (((xs.drop 8).take 16).getD k 0)) from fun k hk => by rw [HCell.out (8 + k) (by omega)]; simp [List.getD, hk])
  have HJ := Lib.hid (show ∀ k, k < 16 → w.cell? ⟨b, o + (24 + k), none⟩ = some (.int .u8 (((xs.drop 24).take 16).getD k 0)) from fun k hk => by rw [HCell.out (24 + k) (by omega)]; simp [List.getD, hk])
  generalize (xs.drop 8).take 16 = s1 at *
  generalize (xs.drop 24).take 16 = s2 at *
  generalize x0 % 16 * 16 + x1 / 16 = y0 at *
  generalize x1 % 16 * 65536 + x2 * 256 + x3 = y1 at *
  generalize x4 * 256 + x5 = y2 at *
  refine walkS_act rfl (by rfl) (fun K hK => ?_)
  refine wp_alloc_v 26 rfl (headC zeroH) (by kernel_rfl) ?_
  have hlA := Low.alloc w2 (.cells (headC zeroH).toArray 26)
  refine hK _ _ (hL.trans (hlA.mono hL.size)) ?_
  clear hK K
  replace HZ := Lib.hid (HZ.out.below hlA HZ.out.lt)
  have HN := Lib.hid (BlkV.new w2 26 (headC zeroH))
  rw [hz1] at HN
  replace hL := hL.trans (hlA.mono hL.size)
  simp only [Act.put, List.setIfInBounds_toArray, List.set_cons_zero, List.set_cons_succ]
  rw [hz1]
  clear hlA
  generalize w2.alloc (.cells (headC zeroH).toArray 26) = w3 at *
  have hz3 : (Hd.mk y0 y1 y2 x6 x7 zero16 zero16).s.length = 16 := rfl
  have hz4 : (Hd.mk y0 y1 y2 x6 x7 zero16 zero16).d.length = 16 := rfl
  refine walkS_act rfl (by rfl) (fun K hK => ?_)
  refine wp_store_row 26 (.tmp 4) (.tmp 63) rfl (w.heap.size + 1) (headC ⟨y0, y1, y2, x6, x7, zero16, zero16⟩).toArray rfl rfl 26 _ HN.out (by rw [head_size]; simp [headC_length hz3 hz4]) (by simp [headC_length hz3 hz4, headC_length zeroH_ok.s zeroH_ok.d]) (by rw [Array.all_eq_true_iff_forall_mem]; intro v hv; exact headC_one _ v (by simpa using hv)) ?_
  have hlB := low_setRow w3 (w.heap.size + 1) (headC ⟨y0, y1, y2, x6, x7, zero16, zero16⟩).toArray (Nat.le_refl _)
  refine hK _ _ (hL.trans (hlB.mono (by omega))) ?_
  clear hK K
  have HH : Hid (BlkH (w3.setRow (w.heap.size + 1) (headC ⟨y0, y1, y2, x6, x7, zero16, zero16⟩).toArray) (w.heap.size + 1) ⟨y0, y1, y2, x6, x7, zero16, zero16⟩) := Lib.hid (BlkV.setRow HN.out _)
  replace HZ := Lib.hid (HZ.out.below hlB (by omega))
  replace hL := hL.trans (hlB.mono (by omega))
  clear hlB HN
  generalize w3.setRow (w.heap.size + 1) (headC ⟨y0, y1, y2, x6, x7, zero16, zero16⟩).toArray = w4 at *
  unfold walkS
  simp only [Act.put]
  go_wp2_with fail
  go_loopw [5] (fun i wr => ∃ k : Nat, k ≤ 16 ∧ i = .int .i64 k ∧ Hid (BlkH wr (w.heap.size + 1) ⟨y0, y1, y2, x6, x7, s1.take k ++ zero16.drop k, s2.take k ++ zero16.drop k⟩) ∧ Hid (BlkH wr w.heap.size zeroH) ∧ Below w.heap.size w wr) (fun i _ => 16 - (intOf i).toNat)
  case atStart => exact ⟨0, Nat.zero_le _, rfl, HH, HZ, hL⟩
  case round =>
    clear HH HZ hL
    obtain ⟨k, hk, rfl, HH, HZ, hB⟩ := hrel
    have ls : Hid ((s1.take k ++ zero16.drop k).length = 16) := Lib.hid (by simp [HS.out, zero16]; omega)
    have ld : Hid ((s2.take k ++ zero16.drop k).length = 16) := Lib.hid (by simp [HD.out, zero16]; omega)
    by_cases hlt : k < 16
    · have HX1 := Lib.hid (pref_set zero16 s1 k rfl HS.out hlt)
      have HX2 := Lib.hid (pref_set zero16 s2 k rfl HD.out hlt)
      have i1 := HI.out k hlt
      have i2 := HJ.out k hlt
      have q1 : (w.heap.size + 1 : Nat) = w.heap.size + 1 := rfl
      generalize hp1 : s1.take k ++ zero16.drop k = p1 at *
      generalize hp2 : s2.take k ++ zero16.drop k = p2 at *
      generalize s1.getD k 0 = u1 at *
      generalize s2.getD k 0 = u2 at *
      have HK1 : Hid ((Hd.mk y0 y1 y2 x6 x7 p1 p2).ok) := Lib.hid ⟨HOk2.out.cl, HOk2.out.lb, HOk2.out.ln, HOk2.out.nx, HOk2.out.hp, ls.out, ld.out, by rw [← hp1]; exact (HOk2.out.vs.take k).append (zero_all.drop k), by rw [← hp2]; exact (HOk2.out.vd.take k).append (zero_all.drop k)⟩
      have ka : IntKind.i64.wrap (8 + (k : Int)) = 8 + k := wraps_i64 _ (by omega) (by omega)
      have kb : IntKind.i64.wrap (24 + (k : Int)) = 24 + k := wraps_i64 _ (by omega) (by omega)
      have ta : (8 + (k : Int)).toNat = 8 + k := by omega
      have tb : (24 + (k : Int)).toNat = 24 + k := by omega
      have na : 8 + (k : Int) < n := by omega
      have nb : 24 + (k : Int) < n := by omega
      go_wp2_with fail
      refine wp_region_planS (fun y => Below w.heap.size w y) (.rd 0 (.rd 1 (.rd 2 (.rd 3 (.rd 4 (.rd 5 (.rd 6 (.rd 7 (.rd 8 (.rd 9 (.rd 10 (.rd 11 (.rd 12 (.rd 13 (.rd 15 (.act 14 (.rd 16 (.act 17 (.done)))))))))))))))))))
        (by kernel_rfl) (by kernel_rfl) (fun _ _ d _ _ h => by cases d <;> exact h) (by kernel_rfl) (Below.drew hB) ?_
      replace HZ : Hid (BlkH wr.drew w.heap.size zeroH) := HZ
      replace HH : Hid (BlkH wr.drew (w.heap.size + 1) ⟨y0, y1, y2, x6, x7, p1, p2⟩) := HH
      replace hB := Below.drew hB
      generalize wr.drew = w5 at *
      iterate 15 (refine walkS_read (v := _) rfl (by rfl) (by
        intro y hy
        have e1 := (hy.cell (p := ⟨b, o + (8 + k), none⟩) hbl).trans i1; have e2 := (hy.cell (p := ⟨b, o + (24 + k), none⟩) hbl).trans i2
        go_simp; try rfl) ?_; simp only [Act.put, List.setIfInBounds_toArray, List.set_cons_zero, List.set_cons_succ])
      have v1 := (BlkV.src (h := ⟨y0, y1, y2, x6, x7, p1, p2⟩) HH.out HK1.out (B := w5.heap.size) HH.out.lt).mem (by omega)
      have g1 : w5.cell? ⟨w.heap.size + 1, 5 + k, none⟩ = some (.int .u8 (p1.getD k 0)) := by
        obtain ⟨b', o', e, _, hc⟩ := v1
        injection e with e
        injection e with e1 e2
        subst e1 e2
        exact hc k hlt
      have f1 := HH.out.frozen (5 + k)
      refine walkS_act rfl (by rfl) (fun K hK => ?_)
      go_simp
      refine hK _ _ (hB.setCell (Nat.le_succ _) _) ?_
      clear hK K
      replace hB := hB.setCell (p := ⟨w.heap.size + 1, 5 + k, none⟩) (Nat.le_succ _) (.int .u8 u1)
      have HH2 := BlkV.set_ HH.out (5 + k) (.int .u8 u1)
      rw [headC_set_s _ _ _ ls.out hlt] at HH2
      dsimp only at HH2
      rw [HX1.out] at HH2
      replace HZ := Lib.hid (HZ.out.far (p := ⟨w.heap.size + 1, 5 + k, none⟩) (by simp) (.int .u8 u1))
      clear v1 g1 f1 HH
      generalize w5.setCell ⟨w.heap.size + 1, 5 + k, none⟩ (.int .u8 u1) = w6 at *
      replace HH2 := Lib.hid HH2
      have ls2 : Hid ((s1.take (k + 1) ++ zero16.drop (k + 1)).length = 16) := Lib.hid (by simp [HS.out, zero16]; omega)
      have HK2 : Hid ((Hd.mk y0 y1 y2 x6 x7 (s1.take (k + 1) ++ zero16.drop (k + 1)) p2).ok) := Lib.hid ⟨HOk2.out.cl, HOk2.out.lb, HOk2.out.ln, HOk2.out.nx, HOk2.out.hp, ls2.out, ld.out, (HOk2.out.vs.take (k + 1)).append (zero_all.drop (k + 1)), HK1.out.vd⟩
      have v2 := (BlkV.dst HH2.out HK2.out (B := w6.heap.size) HH2.out.lt).mem (by omega)
      have g2 : w6.cell? ⟨w.heap.size + 1, 21 + k, none⟩ = some (.int .u8 (p2.getD k 0)) := by
        obtain ⟨b', o', e, _, hc⟩ := v2
        injection e with e
        injection e with e1 e2
        subst e1 e2
        exact hc k hlt
      have f2 := HH2.out.frozen (21 + k)
      iterate 1 (refine walkS_read (v := _) rfl (by rfl) (by intro y hy; go_simp; try rfl) ?_; simp only [Act.put, List.setIfInBounds_toArray, List.set_cons_zero, List.set_cons_succ])
      refine walkS_act rfl (by rfl) (fun K hK => ?_)
      go_simp
      refine hK _ _ (hB.setCell (Nat.le_succ _) _) ?_
      clear hK K
      replace hB := hB.setCell (p := ⟨w.heap.size + 1, 21 + k, none⟩) (Nat.le_succ _) (.int .u8 u2)
      have HH3 := BlkV.set_ HH2.out (21 + k) (.int .u8 u2)
      rw [headC_set_d _ _ _ ls2.out hlt] at HH3
      dsimp only at HH3
      rw [HX2.out] at HH3
      replace HZ := Lib.hid (HZ.out.far (p := ⟨w.heap.size + 1, 21 + k, none⟩) (by simp) (.int .u8 u2))
      clear v2 g2 f2 HH2
      generalize w6.setCell ⟨w.heap.size + 1, 21 + k, none⟩ (.int .u8 u2) = w7 at *
      unfold walkS
      go_wp2
      go_roundw
      case rel => exact ⟨k + 1, by omega, by go_num, Lib.hid HH3, HZ, hB⟩
      case measure => simp [intOf]; omega
    · obtain rfl : k = 16 := by omega
      have e1 : s1.take 16 ++ zero16.drop 16 = s1 := by rw [List.take_of_length_le (by rw [HS.out]; omega), show zero16.drop 16 = [] from rfl, List.append_nil]
      have e2 : s2.take 16 ++ zero16.drop 16 = s2 := by rw [List.take_of_length_le (by rw [HD.out]; omega), show zero16.drop 16 = [] from rfl, List.append_nil]
      rw [e1, e2, ← HG.out] at HH
      clear e1 e2 ls ld
      have HS2 := Lib.hid HOk.out.s
      have HD2 := Lib.hid HOk.out.d
      go_wp2_with (first
        | (with_reducible refine wpList_load_head rfl (.tmp 4) rfl (w.heap.size + 1) rfl (getL xs) HH.out HS2.out HD2.out ?_)
        | ((with_reducible refine wpList_store_head rfl (.tmp 2) (.tmp 84) rfl w.heap.size rfl (getL xs) rfl zeroH HZ.out rfl rfl HS2.out HD2.out ?_); intro w8 HG8 hb8 hz8))
      exact ret_head Tryz.results15 rfl rfl HG8 HS2.out HD2.out ⟨rfl, hB.trans hb8⟩ rfl
theorem rget_any (A : Option Addr) (n c : Nat) (xs : List Int) (w : World) (hn : n ≤ 140737488355328) (hb : Bs w w.heap.size A n xs) :
    Calls Tryz.prog 15 #[.slice A n c] w fun e w' => GivesH w (getH xs) (getE xs) e w' := by
  have hl := hb.len
  rcases getE_cases xs with ⟨h1, e1, e2⟩ | ⟨h1, h2, e1, e2⟩ | ⟨h1, h2, e1, e2⟩
  · rw [e1, e2]; exact rget_short A n c xs w hn (by omega) hb
  · rw [e1, e2]; exact rget_yes A n c xs w hn (by omega) h2 hb
  · rw [e1, e2]; exact rget_form A n c xs w hn (by omega) h2 hb
end Go.Proofs.YtjafjapnmffohaaGreatDoor
