/- Texts joined.
  The page's words on flows: their bytes, which of two comes first, flows in order; the order is total; lists in order are one. No program here.
  A flow by value and in memory: its cells, compared, loaded, stored; slices of flows. Condition: addresses are 16 bytes.
  What the document's own Back, Less and Bytes of flows tell. Conditions: addresses are 16 bytes, ports are ints.
  What the document's own Bytes of flows tells. Conditions: addresses are 16 bytes, ports are ints.
  What the program's own Back and Less of flows tell; a world that only draws and grows. Conditions: addresses are 16 bytes, ports are ints.
  What flow.Right and flow.Bytes tell. Conditions: addresses are 16 bytes, ports are ints.
  What flow.Text, and the document's own Text of flows, tell. Conditions: addresses are 16 bytes, ports are ints; the library's tables hold what their texts lay.
  What the laws' own small test of flows answers: true. Condition: the library's tables hold what their texts lay.
-/
import Derived.Test.YtjafjapnmffohaaDoorJAd
import Derived.Test.YtjafjapnmffohaaDoorJOct
import Derived.Test.YtjafjapnmffohaaDoorEl
import Derived.Test.YtjafjapnmffohaaDoorJSx
import Derived.Test.YtjafjapnmffohaaDoorApp
import Derived.Sort.Grow
import Derived.Deep.Draws
import Derived.Test.YtjafjapnmffohaaDoorJCk
import Derived.Test.YtjafjapnmffohaaDoorJAe
import Derived.Test.YtjafjapnmffohaaDoorJAf
import Derived.Test.YtjafjapnmffohaaDoorJSd
import Derived.Deep.MidRow
set_option maxRecDepth 100000
namespace Go.Proofs.YtjafjapnmffohaaDoor
open Go.RowKit
set_option linter.unusedVariables false

/-- a flow -/
structure Fw where
  s : List Int
  sp : Int
  d : List Int
  dp : Int
structure Fw.ok (f : Fw) : Prop where
  s : f.s.length = 16
  d : f.d.length = 16
  vs : AllB f.s
  vd : AllB f.d
  sp : i64ok f.sp
  dp : i64ok f.dp
def zeroF : Fw := ⟨zero16, 0, zero16, 0⟩
theorem zeroF_ok : zeroF.ok := ⟨rfl, rfl, zero_all, zero_all, by unfold i64ok; decide, by unfold i64ok; decide⟩
def backF (f : Fw) : Fw := ⟨f.d, f.dp, f.s, f.sp⟩
theorem backF_ok {f : Fw} (h : f.ok) : (backF f).ok := ⟨h.d, h.s, h.vd, h.vs, h.dp, h.sp⟩
def rightF (f : Fw) : Bool := decide (0 ≤ f.sp ∧ f.sp ≤ 65535 ∧ 0 ≤ f.dp ∧ f.dp ≤ 65535)
def bytesF (f : Fw) : List Int := f.s ++ two f.sp ++ f.d ++ two f.dp
theorem bytesF_len {f : Fw} (h : f.ok) : (bytesF f).length = 36 := by
  unfold bytesF two
  simp [h.s, h.d]
theorem bytesF_all {f : Fw} (h : f.ok) : AllB (bytesF f) := ((h.vs.append (two_all _)).append h.vd).append (two_all _)
/-- flows that may be have other bytes, if they are others -/
theorem two_one {x y : Int} (hx : 0 ≤ x ∧ x ≤ 65535) (hy : 0 ≤ y ∧ y ≤ 65535) (h : two x = two y) : x = y := by
  unfold two at h
  simp only [List.cons.injEq, and_true] at h
  omega
theorem bytesF_one {f g : Fw} (hf : f.ok) (hg : g.ok) (rf : rightF f = true) (rg : rightF g = true) (h : bytesF f = bytesF g) : f = g := by
  obtain ⟨a1, a2, a3, a4⟩ := of_decide_eq_true rf
  obtain ⟨b1, b2, b3, b4⟩ := of_decide_eq_true rg
  unfold bytesF at h
  simp only [List.append_assoc] at h
  obtain ⟨h1, h⟩ := List.append_inj h (by rw [hf.s, hg.s])
  obtain ⟨h2, h⟩ := List.append_inj h rfl
  obtain ⟨h3, h4⟩ := List.append_inj h (by rw [hf.d, hg.d])
  have e2 := two_one ⟨a1, a2⟩ ⟨b1, b2⟩ h2
  have e4 := two_one ⟨a3, a4⟩ ⟨b3, b4⟩ h4
  obtain ⟨fs, fp, fd, fq⟩ := f
  obtain ⟨gs, gp, gd, gq⟩ := g
  simp only at h1 h3 e2 e4
  subst h1 h3 e2 e4
  rfl

/-- the order of addresses is total -/
theorem lessL_irr : ∀ l : List Int, lessL l l = false
  | [] => rfl
  | x :: l => by rw [lessL, if_pos rfl, lessL_irr l]
theorem lessL_tri : ∀ {a b : List Int}, a.length = b.length → a ≠ b → (lessL a b = true ∧ lessL b a = false) ∨ (lessL a b = false ∧ lessL b a = true)
  | [], [], _, h => absurd rfl h
  | [], _ :: _, h, _ => by simp at h
  | _ :: _, [], h, _ => by simp at h
  | x :: a, y :: b, hl, h => by
    by_cases e : x = y
    · subst e
      rw [lessL, lessL, if_pos rfl, if_pos rfl]
      exact lessL_tri (by simpa using hl) fun e => h (by rw [e])
    · rw [lessL, lessL, if_neg e, if_neg (fun e' => e e'.symm)]
      by_cases hlt : x < y
      · exact .inl ⟨decide_eq_true hlt, decide_eq_false (by omega)⟩
      · exact .inr ⟨decide_eq_false hlt, decide_eq_true (by omega)⟩
theorem lessL_trans : ∀ {a b c : List Int}, lessL a b = true → lessL b c = true → lessL a c = true
  | [], b, c, h, _ => by cases b <;> simp [lessL] at h
  | _ :: _, [], c, h, _ => by simp [lessL] at h
  | _ :: _, _ :: _, [], _, h => by simp [lessL] at h
  | x :: a, y :: b, z :: c, h, k => by
    rw [lessL] at h k ⊢
    by_cases e : x = y
    · subst e
      rw [if_pos rfl] at h
      by_cases e2 : x = z
      · subst e2
        rw [if_pos rfl] at k ⊢
        exact lessL_trans h k
      · rw [if_neg e2] at k ⊢
        exact k
    · rw [if_neg e] at h
      have h1 := of_decide_eq_true h
      by_cases e2 : y = z
      · subst e2
        rw [if_neg e]
        exact h
      · rw [if_neg e2] at k
        have h2 := of_decide_eq_true k
        rw [if_neg (by omega)]
        exact decide_eq_true (by omega)

/-- does one come ahead of another? -/
def lessF (a b : Fw) : Bool :=
  if a.s = b.s then (if a.sp = b.sp then (if a.d = b.d then decide (a.dp < b.dp) else lessL a.d b.d) else decide (a.sp < b.sp)) else lessL a.s b.s
theorem lessF_irr (a : Fw) : lessF a a = false := by
  unfold lessF
  rw [if_pos rfl, if_pos rfl, if_pos rfl]
  exact decide_eq_false (by omega)
theorem lessF_tri {a b : Fw} (ha : a.ok) (hb : b.ok) (h : a ≠ b) : (lessF a b = true ∧ lessF b a = false) ∨ (lessF a b = false ∧ lessF b a = true) := by
  unfold lessF
  by_cases e1 : a.s = b.s
  · rw [if_pos e1, if_pos e1.symm]
    by_cases e2 : a.sp = b.sp
    · rw [if_pos e2, if_pos e2.symm]
      by_cases e3 : a.d = b.d
      · rw [if_pos e3, if_pos e3.symm]
        have e4 : a.dp ≠ b.dp := fun e4 => h (by
          obtain ⟨x1, x2, x3, x4⟩ := a
          obtain ⟨y1, y2, y3, y4⟩ := b
          simp only at e1 e2 e3 e4
          subst e1 e2 e3 e4
          rfl)
        by_cases hlt : a.dp < b.dp
        · exact .inl ⟨decide_eq_true hlt, decide_eq_false (by omega)⟩
        · exact .inr ⟨decide_eq_false hlt, decide_eq_true (by omega)⟩
      · rw [if_neg e3, if_neg (fun e => e3 e.symm)]
        exact lessL_tri (by rw [ha.d, hb.d]) e3
    · rw [if_neg e2, if_neg (fun e => e2 e.symm)]
      by_cases hlt : a.sp < b.sp
      · exact .inl ⟨decide_eq_true hlt, decide_eq_false (by omega)⟩
      · exact .inr ⟨decide_eq_false hlt, decide_eq_true (by omega)⟩
  · rw [if_neg e1, if_neg (fun e => e1 e.symm)]
    exact lessL_tri (by rw [ha.s, hb.s]) e1
theorem lessF_trans {a b c : Fw} (h : lessF a b = true) (k : lessF b c = true) : lessF a c = true := by
  unfold lessF at h k ⊢
  by_cases e1 : a.s = b.s
  · rw [if_pos e1] at h
    by_cases f1 : b.s = c.s
    · rw [if_pos f1] at k
      rw [if_pos (e1.trans f1)]
      by_cases e2 : a.sp = b.sp
      · rw [if_pos e2] at h
        by_cases f2 : b.sp = c.sp
        · rw [if_pos f2] at k
          rw [if_pos (e2.trans f2)]
          by_cases e3 : a.d = b.d
          · rw [if_pos e3] at h
            by_cases f3 : b.d = c.d
            · rw [if_pos f3] at k
              rw [if_pos (e3.trans f3)]
              have h1 := of_decide_eq_true h
              have h2 := of_decide_eq_true k
              exact decide_eq_true (by omega)
            · rw [if_neg f3] at k
              rw [if_neg (by rw [e3]; exact f3), e3]
              exact k
          · rw [if_neg e3] at h
            by_cases f3 : b.d = c.d
            · rw [← f3, if_neg e3]
              exact h
            · rw [if_neg f3] at k
              have ht := lessL_trans h k
              rw [if_neg (fun e => by rw [e, lessL_irr] at ht; exact absurd ht (by decide))]
              exact ht
        · rw [if_neg f2] at k
          rw [if_neg (by omega), e2]
          exact k
      · rw [if_neg e2] at h
        have h1 := of_decide_eq_true h
        by_cases f2 : b.sp = c.sp
        · rw [if_neg (by omega)]
          exact decide_eq_true (by omega)
        · rw [if_neg f2] at k
          have h2 := of_decide_eq_true k
          rw [if_neg (by omega)]
          exact decide_eq_true (by omega)
    · rw [if_neg f1] at k
      rw [if_neg (by rw [e1]; exact f1), e1]
      exact k
  · rw [if_neg e1] at h
    by_cases f1 : b.s = c.s
    · rw [← f1, if_neg e1]
      exact h
    · rw [if_neg f1] at k
      have ht := lessL_trans h k
      rw [if_neg (fun e => by rw [e, lessL_irr] at ht; exact absurd ht (by decide))]
      exact ht

/-- flows in order, each once -/
def Ordered (l : List Fw) : Prop := l.Pairwise fun a b => lessF a b = true
def SortsF (l out : List Fw) : Prop := (∀ x, x ∈ out ↔ x ∈ l) ∧ Ordered out
theorem Ordered.one : ∀ {a b : List Fw}, Ordered a → Ordered b → (∀ x, x ∈ a ↔ x ∈ b) → a = b
  | [], [], _, _, _ => rfl
  | [], y :: b, _, _, h => absurd ((h y).2 List.mem_cons_self) (by simp)
  | x :: a, [], _, _, h => absurd ((h x).1 List.mem_cons_self) (by simp)
  | x :: a, y :: b, ha, hb, h => by
    obtain ⟨ha1, ha2⟩ := List.pairwise_cons.1 ha
    obtain ⟨hb1, hb2⟩ := List.pairwise_cons.1 hb
    have hxy : x = y := by
      rcases List.mem_cons.1 ((h x).1 List.mem_cons_self) with e | hx
      · exact e
      · rcases List.mem_cons.1 ((h y).2 List.mem_cons_self) with e | hy
        · exact e.symm
        · have t := lessF_trans (hb1 x hx) (ha1 y hy)
          rw [lessF_irr] at t
          exact absurd t (by decide)
    subst hxy
    have hs : ∀ z, z ∈ a ↔ z ∈ b := fun z => by
      constructor
      · intro hz
        rcases List.mem_cons.1 ((h z).1 (List.mem_cons_of_mem _ hz)) with e | hz2
        · subst e
          have t := ha1 z hz
          rw [lessF_irr] at t
          exact absurd t (by decide)
        · exact hz2
      · intro hz
        rcases List.mem_cons.1 ((h z).2 (List.mem_cons_of_mem _ hz)) with e | hz2
        · subst e
          have t := hb1 z hz
          rw [lessF_irr] at t
          exact absurd t (by decide)
        · exact hz2
    rw [Ordered.one ha2 hb2 hs]
theorem SortsF.one {l a b : List Fw} (ha : SortsF l a) (hb : SortsF l b) : a = b := Ordered.one ha.2 hb.2 fun x => (ha.1 x).trans (hb.1 x).symm
end Go.Proofs.YtjafjapnmffohaaDoor

namespace Go.Proofs.YtjafjapnmffohaaDoor
open Go.RowKit
set_option linter.unusedVariables false

def fwC (f : Fw) : List Value := cellsB f.s ++ (.int .i64 f.sp :: (cellsB f.d ++ [.int .i64 f.dp]))
def fwV (f : Fw) : Value := .agg (fwC f).toArray
theorem fwC_length {f : Fw} (hs : f.s.length = 16) (hd : f.d.length = 16) : (fwC f).length = 34 := by simp [fwC, cellsB_length, hs, hd]
theorem fwC_one (f : Fw) : ∀ u ∈ fwC f, u.oneCell' = true := by
  intro u hu
  unfold fwC at hu
  simp only [List.mem_cons, List.mem_append, List.not_mem_nil, or_false] at hu
  rcases hu with hu | rfl | hu | rfl
  · exact cellsB_one f.s u hu
  · rfl
  · exact cellsB_one f.d u hu
  · rfl
theorem flow_size : (Tryd.prog.info? 25).map (·.size) = some 34 := by kernel_rfl
theorem flow_zero : (Tryd.prog.info? 25).map (·.zero) = some (some (.agg (fwC zeroF).toArray)) := by kernel_rfl
theorem info_flow : (Tryd.prog.info? 25).map (fun i => (i.zero, i.size, i.bytes)) = some (some (fwV zeroF), 34, 48) := by kernel_rfl
/-- flows as elements -/
def fwE : Elt Fw where
  cells := fwC
  ok := Fw.ok
  k := 34
  pos := by omega
  len := fun f h => fwC_length h.s h.d
  one := fwC_one
  zero := zeroF
  zok := zeroF_ok

/-- flows are compared -/
def eqFw (a b : Fw) : Bool := a.s == b.s && a.sp == b.sp && a.d == b.d && a.dp == b.dp
theorem eqFw_refl (a : Fw) : eqFw a a = true := by simp [eqFw]
theorem eqFw_iff (a b : Fw) : eqFw a b = true ↔ a = b := by
  obtain ⟨x1, x2, x3, x4⟩ := a
  obtain ⟨y1, y2, y3, y4⟩ := b
  simp [eqFw, and_assoc]
theorem fpart_s (f : Fw) (hs : f.s.length = 16) (w : World) : (part 23 (fwC f).toArray 0).run Tryd.prog w = .ok (.agg (cellsB f.s).toArray) w := by
  obtain ⟨i, hi, hz⟩ := info_sized addr_size
  simp only [part, isAgg, run_underlying Tryd.underlying23, sizeOf, typeInfo, Sem.run_bind, run_program, hi, hz, fwC, Result.andThen_ok, Sem.run_pure, if_true]
  congr 2
  simp [cellsB_length, hs]
theorem fpart_d (f : Fw) (hs : f.s.length = 16) (hd : f.d.length = 16) (w : World) : (part 23 (fwC f).toArray 17).run Tryd.prog w = .ok (.agg (cellsB f.d).toArray) w := by
  obtain ⟨i, hi, hz⟩ := info_sized addr_size
  simp only [part, isAgg, run_underlying Tryd.underlying23, sizeOf, typeInfo, Sem.run_bind, run_program, hi, hz, fwC, Result.andThen_ok, Sem.run_pure, if_true]
  congr 2
  simp [cellsB_length, hs, List.drop_append]
  rw [List.drop_eq_nil_of_le (by rw [cellsB_length]; omega), List.nil_append, List.take_append_of_le_length (by rw [cellsB_length]; omega)]
  exact List.take_of_length_le (by rw [cellsB_length]; omega)
theorem fwC_sp (f : Fw) (hs : f.s.length = 16) : (fwC f)[16]? = some (.int .i64 f.sp) := by
  unfold fwC
  rw [List.getElem?_append_right (by rw [cellsB_length]; omega), cellsB_length, hs]
  rfl
theorem fwC_dp (f : Fw) (hs : f.s.length = 16) (hd : f.d.length = 16) : (fwC f)[33]? = some (.int .i64 f.dp) := by
  unfold fwC
  rw [List.getElem?_append_right (by rw [cellsB_length]; omega), cellsB_length, hs, show 33 - 16 = 16 + 1 by omega, List.getElem?_cons_succ, List.getElem?_append_right (by rw [cellsB_length]; omega), cellsB_length, hd]
  rfl
theorem fpart_sp (f : Fw) (hs : f.s.length = 16) (w : World) : (part 3 (fwC f).toArray 16).run Tryd.prog w = .ok (.int .i64 f.sp) w := part_int (fwC f).toArray 16 _ (by rw [List.getElem?_toArray]; exact fwC_sp f hs) w
theorem fpart_dp (f : Fw) (hs : f.s.length = 16) (hd : f.d.length = 16) (w : World) : (part 3 (fwC f).toArray 33).run Tryd.prog w = .ok (.int .i64 f.dp) w := part_int (fwC f).toArray 33 _ (by rw [List.getElem?_toArray]; exact fwC_dp f hs hd) w
theorem eq_flow (a b : Fw) (ha : a.s.length = 16) (ha2 : a.d.length = 16) (hb : b.s.length = 16) (hb2 : b.d.length = 16) (w : World) :
    (Op.equalIn 10000 25 (.agg (fwC a).toArray) (.agg (fwC b).toArray)).run Tryd.prog w = .ok (eqFw a b) w := by
  rw [run_equalIn_struct w 9999 25 _ _ (by simp only [Program.fieldsOf, Tryd.underlying25]) (by kernel_rfl)]
  simp only [Program.fieldsOf, Tryd.underlying25]
  rw [eqFields_step (by simp) (fpart_s a ha w) (fpart_s b hb w) (eq_addr9 _ _ ha hb w),
    eqFields_step (by simp) (fpart_sp a ha w) (fpart_sp b hb w) (eq_int a.sp b.sp w),
    eqFields_step (by simp) (fpart_d a ha ha2 w) (fpart_d b hb hb2 w) (eq_addr9 _ _ ha2 hb2 w),
    eqFields_step (by simp) (fpart_dp a ha ha2 w) (fpart_dp b hb hb2 w) (eq_int a.dp b.dp w)]
  unfold eqFw
  simp only [Op.eqFields, Sem.run_pure]
  generalize (a.s == b.s) = x1
  generalize (a.sp == b.sp) = x2
  generalize (a.d == b.d) = x3
  generalize (a.dp == b.dp) = x4
  cases x1 <;> cases x2 <;> cases x3 <;> cases x4 <;> rfl

/-- block g is just the flow f -/
abbrev BlkF (w : World) (g : Nat) (f : Fw) : Prop := BlkV w 25 g (fwC f)
section
variable {w : World} {g : Nat} {f : Fw} (hb : BlkF w g f) (hs : f.s.length = 16) (hd : f.d.length = 16)
include hb
theorem BlkF.src : w.rangeAt g 0 (cellsB f.s) := fun j v hv => by
  rw [BlkV.cell hb (0 + j), Nat.zero_add, fwC, List.getElem?_append_left (List.getElem?_eq_some_iff.1 hv).1, hv]
theorem BlkF.dst (hs : f.s.length = 16) : w.rangeAt g 17 (cellsB f.d) := fun j v hv => by
  have hj := (List.getElem?_eq_some_iff.1 hv).1
  rw [BlkV.cell hb (17 + j), fwC, List.getElem?_append_right (by rw [cellsB_length]; omega), cellsB_length, hs, show 17 + j - 16 = j + 1 by omega, List.getElem?_cons_succ, List.getElem?_append_left hj, hv]
theorem BlkF.sp (hs : f.s.length = 16) : w.cell? ⟨g, 16, none⟩ = some (.int .i64 f.sp) := (BlkV.cell hb 16).trans (fwC_sp f hs)
theorem BlkF.dp (hs : f.s.length = 16) (hd : f.d.length = 16) : w.cell? ⟨g, 33, none⟩ = some (.int .i64 f.dp) := (BlkV.cell hb 33).trans (fwC_dp f hs hd)
end
section
variable {ops : Array Oper} {rest : List Oper} {o : Oper} {a : Act} {w : World} {Q : Exit → Act → World → Prop}
theorem wpList_box_fw (hgd : o.guard = none) (x : Operand) (ho : o.op = .box 25 x) (f : Fw) (hx : a.eval x = .agg (fwC f).toArray)
    (hk : ∀ w', BlkF w' w.heap.size f → Low w w' → w'.heap.size = w.heap.size + 1 → wpList Tryd.prog ops Q rest (a.put o.dst (.pointer (some ⟨w.heap.size, 0, none⟩))) w') : wpList Tryd.prog ops Q (o :: rest) a w :=
  wpList_box_v hgd 25 x ho (fwC f) hx hk
theorem wpList_alloc_fw (hgd : o.guard = none) (ho : o.op = .alloc 25)
    (hk : ∀ w', BlkF w' w.heap.size zeroF → Low w w' → w'.heap.size = w.heap.size + 1 → wpList Tryd.prog ops Q rest (a.put o.dst (.pointer (some ⟨w.heap.size, 0, none⟩))) w') : wpList Tryd.prog ops Q (o :: rest) a w :=
  wpList_alloc_v hgd 25 ho (fwC zeroF) flow_zero hk
theorem wpList_load_fw (hgd : o.guard = none) (x : Operand) (ho : o.op = .load 25 x) (g : Nat) (hx : a.eval x = .pointer (some ⟨g, 0, none⟩)) (f : Fw) (hb : BlkF w g f) (hs : f.s.length = 16) (hd : f.d.length = 16)
    (hk : wpList Tryd.prog ops Q rest (a.put o.dst (.agg (fwC f).toArray)) w) : wpList Tryd.prog ops Q (o :: rest) a w :=
  wpList_load_row hgd 25 x ho g hx _ (fwC f).toArray (0, 0) _ hb Tryd.underlying25 rfl (by rw [flow_size]; simp [fwC_length hs hd]) hk
theorem wpList_load_fw_g (hw : Region.wanted o (yielded ops a.tmps) = true) (x : Operand) (ho : o.op = .load 25 x) (g : Nat) (hx : a.eval x = .pointer (some ⟨g, 0, none⟩)) (f : Fw) (hb : BlkF w g f) (hs : f.s.length = 16) (hd : f.d.length = 16)
    (hk : wpList Tryd.prog ops Q rest (a.put o.dst (.agg (fwC f).toArray)) w) : wpList Tryd.prog ops Q (o :: rest) a w :=
  wpList_step fun K hK => by
    simp only [hw, if_true]
    exact wp_load_row 25 x ho g hx _ (fwC f).toArray (0, 0) _ hb Tryd.underlying25 rfl (by rw [flow_size]; simp [fwC_length hs hd]) (hK _ _ hk)
/-- one flow of a row is read -/
theorem wpList_load_fwat (hgd : o.guard = none) (x : Operand) (ho : o.op = .load 25 x) (b p : Nat) (hx : a.eval x = .pointer (some ⟨b, p, none⟩)) (f : Fw) (hs : f.s.length = 16) (hd : f.d.length = 16) (hc : w.rangeAt b p (fwC f))
    (hk : wpList Tryd.prog ops Q rest (a.put o.dst (.agg (fwC f).toArray)) w) : wpList Tryd.prog ops Q (o :: rest) a w :=
  wpList_load_mid hgd 25 x ho b p hx (fwC f) _ hc Tryd.underlying25 rfl (by rw [flow_size]; simp [fwC_length hs hd]) hk
/-- a whole flow is stored; what lies in other blocks stays -/
theorem wpList_store_fw (hgd : o.guard = none) (x y : Operand) (ho : o.op = .store 25 x y) (g : Nat) (hx : a.eval x = .pointer (some ⟨g, 0, none⟩)) (f : Fw) (hy : a.eval y = .agg (fwC f).toArray) (old : Fw) (hb : BlkF w g old)
    (hos : old.s.length = 16) (hod : old.d.length = 16) (hs : f.s.length = 16) (hd : f.d.length = 16)
    (hk : ∀ w', BlkF w' g f → Below g w w' → w'.heap.size = w.heap.size → (∀ k : Nat, k ≠ g → w'.heap[k]? = w.heap[k]?) → wpList Tryd.prog ops Q rest (a.put o.dst undef) w') : wpList Tryd.prog ops Q (o :: rest) a w :=
  wpList_store_row hgd 25 x y ho g _ hx hy _ _ hb (by rw [flow_size]; simp [fwC_length hs hd]) (by simp [fwC_length hs hd, fwC_length hos hod])
    (by rw [Array.all_eq_true_iff_forall_mem]; intro v hv; exact fwC_one f v (by simpa using hv)) (hk _ (BlkV.setRow hb _) (low_setRow _ _ _ (Nat.le_refl _)) (by simp) (fun k hk => by simp [World.setRow, Array.getElem?_modify, Ne.symm hk]))
end
theorem exec_load_fw {f : Operand → Value} {dd : Option Tmp} {x : Operand} {ty : TypeId} {pos : String} {gd : Option (Nat × Bool)} {w : World} {g : Nat} {h : Fw} (hx : f x = .pointer (some ⟨g, 0, none⟩)) (hb : BlkF w g h) (hs : h.s.length = 16) (hd : h.d.length = 16) :
    (execOp f ⟨dd, .load 25 x, ty, pos, #[], gd⟩).run Tryd.prog w = .ok (.value (.agg (fwC h).toArray)) w := by
  unfold execOp
  simp only [hx, Instr.loadAt, Instr.sureAddr, Sem.run_bind, Sem.run_pure, Result.andThen_ok, run_loadVar_row w g 25 25 (fwC h).toArray _ _ hb Tryd.underlying25 rfl (by rw [flow_size]; simp [fwC_length hs hd])]
end Go.Proofs.YtjafjapnmffohaaDoor

namespace Go.Proofs.YtjafjapnmffohaaDoor
open Go.RowKit
set_option linter.unusedVariables false

theorem results_cell1F {P : Program} {fn : Func} {p : Tmp} {ty : TypeId} (h : fn.results = #[.cell p ty]) (tmps : Array Value) (w : World) (g : Nat) (t : TypeId) (cs : Array Value) (fr : Nat × Nat) (d : TypeDesc)
    (hp : tmps.getD p undef = .pointer (some ⟨g, 0, none⟩)) (hg : w.heap[g]? = some (.cells cs t fr))
    (hu : P.underlying ty = some d) (hd : (match d with | .struct _ | .array _ _ => true | _ => false) = true) (hi : (P.info? ty).map (·.size) = some cs.size) :
    (results fn tmps).run P w = .ok (.agg cs) w := by
  have hp' : tmps[p]?.getD undef = .pointer (some ⟨g, 0, none⟩) := by simpa using hp
  simp [results, h, hp', asAddr, run_loadVar_row w g t ty cs fr d hg hu hd hi]
theorem ret_fw {fn : Func} {p : Tmp} {R : Ending → World → Prop} {tmps : Array Value} {df : List Deferred} {w : World} {g : Nat} {f : Fw} (hfn : fn.results = #[.cell p 25]) (hp : tmps.getD p undef = .pointer (some ⟨g, 0, none⟩))
    (hb : BlkF w g f) (hs : f.s.length = 16) (hd : f.d.length = 16) (hR : R (.returned (fwV f)) w) (hdf : df = []) : bodyPost Tryd.prog fn R .ret ⟨tmps, df⟩ w :=
  bodyPost_ret (results_cell1F hfn tmps w g _ _ _ _ hp hb Tryd.underlying25 rfl (by rw [flow_size]; simp [fwC_length hs hd])) hdf hR
theorem run_build_fwK (p q s0 s1 s2 s3 s4 s5 s6 s7 s8 s9 s10 s11 s12 s13 s14 s15 d0 d1 d2 d3 d4 d5 d6 d7 d8 d9 d10 d11 d12 d13 d14 d15 : Int) (w : World) :
    (Instr.build 25 #[(0, .agg (cellsB [s0, s1, s2, s3, s4, s5, s6, s7, s8, s9, s10, s11, s12, s13, s14, s15]).toArray), (1, .int .i64 p), (2, .agg (cellsB [d0, d1, d2, d3, d4, d5, d6, d7, d8, d9, d10, d11, d12, d13, d14, d15]).toArray), (3, .int .i64 q)]).run Tryd.prog w = .ok (.agg (fwC ⟨[s0, s1, s2, s3, s4, s5, s6, s7, s8, s9, s10, s11, s12, s13, s14, s15], p, [d0, d1, d2, d3, d4, d5, d6, d7, d8, d9, d10, d11, d12, d13, d14, d15], q⟩).toArray) w := by kernel_rfl
theorem list16F (s : List Int) (h : s.length = 16) : ∃ s0 s1 s2 s3 s4 s5 s6 s7 s8 s9 s10 s11 s12 s13 s14 s15 : Int, s = [s0, s1, s2, s3, s4, s5, s6, s7, s8, s9, s10, s11, s12, s13, s14, s15] := by
  match s, h with
  | [s0, s1, s2, s3, s4, s5, s6, s7, s8, s9, s10, s11, s12, s13, s14, s15], _ => exact ⟨_, _, _, _, _, _, _, _, _, _, _, _, _, _, _, _, rfl⟩
theorem run_build_fw (s d : List Int) (p q : Int) (hs : s.length = 16) (hd : d.length = 16) (w : World) :
    (Instr.build 25 #[(0, .agg (cellsB s).toArray), (1, .int .i64 p), (2, .agg (cellsB d).toArray), (3, .int .i64 q)]).run Tryd.prog w = .ok (.agg (fwC ⟨s, p, d, q⟩).toArray) w := by
  obtain ⟨s0, s1, s2, s3, s4, s5, s6, s7, s8, s9, s10, s11, s12, s13, s14, s15, rfl⟩ := list16F s hs
  obtain ⟨d0, d1, d2, d3, d4, d5, d6, d7, d8, d9, d10, d11, d12, d13, d14, d15, rfl⟩ := list16F d hd
  exact run_build_fwK _ _ _ _ _ _ _ _ _ _ _ _ _ _ _ _ _ _ _ _ _ _ _ _ _ _ _ _ _ _ _ _ _ _ w
theorem wpList_build_fw {ops : Array Oper} {rest : List Oper} {o : Oper} {a : Act} {w : World} {Q : Exit → Act → World → Prop} (hgd : o.guard = none) (x0 x1 x2 x3 : Operand) (ho : o.op = .build 25 #[(0, x0), (1, x1), (2, x2), (3, x3)])
    (s d : List Int) (p q : Int) (e0 : a.eval x0 = .agg (cellsB s).toArray) (e1 : a.eval x1 = .int .i64 p) (e2 : a.eval x2 = .agg (cellsB d).toArray) (e3 : a.eval x3 = .int .i64 q) (hs : s.length = 16) (hd : d.length = 16)
    (hk : wpList Tryd.prog ops Q rest (a.put o.dst (.agg (fwC ⟨s, p, d, q⟩).toArray)) w) : wpList Tryd.prog ops Q (o :: rest) a w :=
  wpList_plain hgd fun K hK => by
    unfold Oper.wp execOp
    simp only [ho, List.map_toArray, List.map_cons, List.map_nil, e0, e1, e2, e3, Sem.run_bind, run_build_fw s d p q hs hd, Result.andThen_ok, Sem.run_pure]
    exact hK _ _ hk
theorem wpList_load_atF {ops : Array Oper} {rest : List Oper} {o : Oper} {a : Act} {w : World} {Q : Exit → Act → World → Prop} (hgd : o.guard = none) (x : Operand) (ho : o.op = .load 23 x) (b p : Nat) (hx : a.eval x = .pointer (some ⟨b, p, none⟩)) (s : List Int) (hs : s.length = 16) (hc : w.rangeAt b p (cellsB s))
    (hk : wpList Tryd.prog ops Q rest (a.put o.dst (.agg (cellsB s).toArray)) w) : wpList Tryd.prog ops Q (o :: rest) a w :=
  wpList_load_mid hgd 23 x ho b p hx (cellsB s) _ hc Tryd.underlying23 rfl (by rw [addr_size]; simp [cellsB_length, hs]) hk

set_option maxRecDepth 100000 in
set_option maxHeartbeats 1600000 in
theorem rfback_any (f : Fw) (w : World) (hf : f.ok) :
    Calls Tryd.prog 11 #[fwV f] w fun e w' => e = .returned (fwV (backF f)) ∧ Below w.heap.size w w' := by
  unfold fwV
  have HS := Lib.hid hf.s
  have HD := Lib.hid hf.d
  clear hf
  go_enter Tryd.func11, Tryd.ntmps11
  go_wp2_with (first | ((with_reducible refine wpList_box_fw rfl (.tmp 0) rfl f rfl ?_); intro w1 HB hL hz1) | ((with_reducible refine wpList_alloc_fw rfl rfl ?_); intro w2 HZ hl hz2; refine Hid.out ?_))
  refine Lib.hid ?_
  rw [hz1] at HZ
  replace HB := Lib.hid (HB.below hl HB.lt)
  replace HZ := Lib.hid HZ
  replace hL := hL.trans hl
  clear hz1 hz2 hl
  have HRS := Lib.hid (BlkF.src HB.out)
  have HRD := Lib.hid (BlkF.dst HB.out HS.out)
  have c16 := BlkF.sp HB.out HS.out
  have c33 := BlkF.dp HB.out HS.out HD.out
  go_wp2_with (first
    | (with_reducible refine wpList_load_atF rfl (.tmp 3) rfl w.heap.size 17 rfl f.d HD.out HRD.out ?_)
    | (with_reducible refine wpList_load_atF rfl (.tmp 7) rfl w.heap.size 0 rfl f.s HS.out HRS.out ?_)
    | ((refine wpList_build_fw rfl (.tmp 4) (.tmp 6) (.tmp 8) (.tmp 10) rfl f.d f.s f.dp f.sp rfl rfl rfl rfl HD.out HS.out ?_); refine Hid.out ?_))
  refine Lib.hid ?_
  clear c16 c33
  go_wp2_with ((refine wpList_store_fw rfl (.tmp 2) (.tmp 11) rfl (w.heap.size + 1) rfl (backF f) rfl zeroF HZ.out rfl rfl HD.out HS.out ?_); intro w3 HG hb3 hz3 ho3; refine Hid.out ?_)
  refine Lib.hid ?_
  have HR := Lib.hid HG
  go_wp2_with fail
  exact ret_fw Tryd.results11 rfl HR.out HD.out HS.out ⟨rfl, Below.trans hL (hb3.mono (by omega))⟩ rfl

set_option maxRecDepth 100000 in
set_option maxHeartbeats 3200000 in
theorem rfless_any (a b : Fw) (w : World) (ha : a.ok) (hb : b.ok) :
    Calls Tryd.prog 17 #[fwV a, fwV b] w fun e w' => e = .returned (.bool (lessF a b)) ∧ Below w.heap.size w w' := by
  unfold fwV
  have HAS := Lib.hid ha.s
  have HAD := Lib.hid ha.d
  have HBS := Lib.hid hb.s
  have HBD := Lib.hid hb.d
  clear ha hb
  have HLF := Lib.hid (show lessF a b = if a.s = b.s then (if a.sp = b.sp then (if a.d = b.d then decide (a.dp < b.dp) else lessL a.d b.d) else decide (a.sp < b.sp)) else lessL a.s b.s from rfl)
  generalize lessF a b = r at *
  go_enter Tryd.func17, Tryd.ntmps17
  go_wp2_with (first | ((with_reducible refine wpList_box_fw rfl (.tmp 0) rfl a rfl ?_); intro w1 HA hL hz1) | ((with_reducible refine wpList_box_fw rfl (.tmp 1) rfl b rfl ?_); intro w2 HB hl hz2; refine Hid.out ?_))
  refine Lib.hid ?_
  rw [hz1] at HB
  replace HA := Lib.hid (HA.below hl HA.lt)
  replace HB := Lib.hid HB
  replace hL := hL.trans hl
  clear hz1 hz2 hl
  have RAS := Lib.hid (BlkF.src HA.out)
  have RAD := Lib.hid (BlkF.dst HA.out HAS.out)
  have RBS := Lib.hid (BlkF.src HB.out)
  have RBD := Lib.hid (BlkF.dst HB.out HBS.out)
  have heq := fun u => eq_addr a.s b.s HAS.out HBS.out u
  obtain ⟨q1, hq1⟩ : ∃ q, q = (a.s == b.s) := ⟨_, rfl⟩
  rw [← hq1] at heq
  replace hq1 := Lib.hid hq1
  cases q1
  · have HE := Lib.hid (show r = lessL a.s b.s by
      have h := hq1.out
      rw [HLF.out, if_neg (by intro e; rw [e] at h; simp at h)])
    go_wp2_with (first
      | (with_reducible refine wpList_load_atF rfl (.tmp 5) rfl w.heap.size 0 rfl a.s HAS.out RAS.out ?_)
      | (with_reducible refine wpList_load_atF rfl (.tmp 7) rfl (w.heap.size + 1) 0 rfl b.s HBS.out RBS.out ?_)
      | (with_reducible refine wpList_load_atF rfl (.tmp 10) rfl w.heap.size 0 rfl a.s HAS.out RAS.out ?_)
      | (with_reducible refine wpList_load_atF rfl (.tmp 12) rfl (w.heap.size + 1) 0 rfl b.s HBS.out RBS.out ?_))
    refine (rless_any a.s b.s w2 HAS.out HBS.out).mono ?_
    rintro e w3 ⟨rfl, hl⟩
    rw [← HE.out]
    have hL3 := Low.trans hL hl
    clear hl heq
    go_wp2_with fail
    go_ret
    exact ⟨rfl, hL3⟩
  · have HS2 := Lib.hid (show a.s = b.s by
      have h := hq1.out
      simpa using h.symm)
    have ka := BlkF.sp HA.out HAS.out
    have kb := BlkF.sp HB.out HBS.out
    by_cases e2 : a.sp = b.sp
    · have HSP := Lib.hid e2
      have n2 : (a.sp != b.sp) = false := by simpa using e2
      clear e2
      have heq2 := fun u => eq_addr a.d b.d HAD.out HBD.out u
      obtain ⟨q2, hq2⟩ : ∃ q, q = (a.d == b.d) := ⟨_, rfl⟩
      rw [← hq2] at heq2
      replace hq2 := Lib.hid hq2
      cases q2
      · have HE := Lib.hid (show r = lessL a.d b.d by
          have h := hq2.out
          rw [HLF.out, if_pos HS2.out, if_pos HSP.out, if_neg (by intro e; rw [e] at h; simp at h)])
        go_wp2_with (first
          | (with_reducible refine wpList_load_atF rfl (.tmp 5) rfl w.heap.size 0 rfl a.s HAS.out RAS.out ?_)
          | (with_reducible refine wpList_load_atF rfl (.tmp 7) rfl (w.heap.size + 1) 0 rfl b.s HBS.out RBS.out ?_)
          | (with_reducible refine wpList_load_atF rfl (.tmp 25) rfl w.heap.size 17 rfl a.d HAD.out RAD.out ?_)
          | (with_reducible refine wpList_load_atF rfl (.tmp 27) rfl (w.heap.size + 1) 17 rfl b.d HBD.out RBD.out ?_)
          | (with_reducible refine wpList_load_atF rfl (.tmp 30) rfl w.heap.size 17 rfl a.d HAD.out RAD.out ?_)
          | (with_reducible refine wpList_load_atF rfl (.tmp 32) rfl (w.heap.size + 1) 17 rfl b.d HBD.out RBD.out ?_))
        refine (rless_any a.d b.d w2 HAD.out HBD.out).mono ?_
        rintro e w3 ⟨rfl, hl⟩
        rw [← HE.out]
        have hL3 := Low.trans hL hl
        clear hl heq heq2 ka kb n2
        go_wp2_with fail
        go_ret
        exact ⟨rfl, hL3⟩
      · have HE := Lib.hid (show r = decide (a.dp < b.dp) by
          have h := hq2.out
          rw [HLF.out, if_pos HS2.out, if_pos HSP.out, if_pos (by simpa using h.symm)])
        have la := BlkF.dp HA.out HAS.out HAD.out
        have lb := BlkF.dp HB.out HBS.out HBD.out
        go_wp2_with (first
          | (with_reducible refine wpList_load_atF rfl (.tmp 5) rfl w.heap.size 0 rfl a.s HAS.out RAS.out ?_)
          | (with_reducible refine wpList_load_atF rfl (.tmp 7) rfl (w.heap.size + 1) 0 rfl b.s HBS.out RBS.out ?_)
          | (with_reducible refine wpList_load_atF rfl (.tmp 25) rfl w.heap.size 17 rfl a.d HAD.out RAD.out ?_)
          | (with_reducible refine wpList_load_atF rfl (.tmp 27) rfl (w.heap.size + 1) 17 rfl b.d HBD.out RBD.out ?_))
        go_ret
        exact ⟨by rw [HE.out]; rfl, hL⟩
    · have HSP := Lib.hid e2
      have n2 : (a.sp != b.sp) = true := by simpa using e2
      clear e2
      have HE := Lib.hid (show r = decide (a.sp < b.sp) by rw [HLF.out, if_pos HS2.out, if_neg HSP.out])
      go_wp2_with (first
        | (with_reducible refine wpList_load_atF rfl (.tmp 5) rfl w.heap.size 0 rfl a.s HAS.out RAS.out ?_)
        | (with_reducible refine wpList_load_atF rfl (.tmp 7) rfl (w.heap.size + 1) 0 rfl b.s HBS.out RBS.out ?_))
      go_ret
      exact ⟨by rw [HE.out]; rfl, hL⟩
end Go.Proofs.YtjafjapnmffohaaDoor

namespace Go.Proofs.YtjafjapnmffohaaDoor
open Go.RowKit
set_option linter.unusedVariables false

/-- bytes of the call's own handed back -/
def GivesFl (w : World) (ys : List Int) (e : Ending) (w' : World) : Prop := ∃ A c, e = .returned (.slice A ys.length c) ∧ OwnB 5 w' w.heap.size A ys.length c ys ∧ Below w.heap.size w w'
theorem take_oneF {l : List Int} {k : Nat} (h : k < l.length) : l.take (k + 1) = l.take k ++ [l.getD k 0] := by
  rw [List.take_succ_eq_append_getElem h]
  simp [List.getD, h]
theorem fwC_at_s {f : Fw} {k : Nat} (hs : f.s.length = 16) (h : k < 16) : (fwC f)[k]? = some (.int .u8 (f.s.getD k 0)) := by
  unfold fwC
  rw [List.getElem?_append_left (by rw [cellsB_length]; omega), cellsB_get (by omega)]
theorem fwC_at_d {f : Fw} {k : Nat} (hs : f.s.length = 16) (hd : f.d.length = 16) (h : k < 16) : (fwC f)[17 + k]? = some (.int .u8 (f.d.getD k 0)) := by
  unfold fwC
  rw [List.getElem?_append_right (by rw [cellsB_length]; omega), cellsB_length, hs, show 17 + k - 16 = k + 1 by omega, List.getElem?_cons_succ, List.getElem?_append_left (by rw [cellsB_length]; omega), cellsB_get (by omega)]

theorem OwnB.lowerF {t : TypeId} {w : World} {base base' n c : Nat} {A : Option Addr} {ys : List Int} (h : OwnB t w base A n c ys) (hb : base' ≤ base) : OwnB t w base' A n c ys :=
  ⟨⟨h.1.1, h.1.2.imp id fun ⟨g, cap, cur, e, hbg, r⟩ => ⟨g, cap, cur, e, Nat.le_trans hb hbg, r⟩⟩, h.2⟩
theorem BlkV.grownF {w w' : World} {t : TypeId} {g : Nat} {vs : List Value} {row : Option Nat} (h : BlkV w t g vs) (hg : w.grownBy w' row) (hr : ∀ j, row = some j → g ≠ j) : BlkV w' t g vs :=
  (hg.block g h.lt (fun e => hr g e.symm rfl)).trans h

set_option maxRecDepth 100000 in
set_option maxHeartbeats 3200000 in
theorem rfbytes_any (f : Fw) (w : World) (hf : f.ok) :
    Calls Tryd.prog 7 #[fwV f] w (GivesFl w (bytesF f)) := by
  unfold fwV
  obtain ⟨i0, hi, hz0, hz1, hz2⟩ := info_parts info5
  have HI := Lib.hid hi
  have HZ0 := Lib.hid hz0
  have HZ1 := Lib.hid hz1
  have HZ2 := Lib.hid hz2
  have HF := Lib.hid hf
  have HBL := Lib.hid (bytesF_len hf)
  have HBE := Lib.hid (show bytesF f = f.s ++ two f.sp ++ f.d ++ two f.dp from rfl)
  clear hi hz0 hz1 hz2 hf
  go_enter Tryd.func7, Tryd.ntmps7
  go_wp2_with ((with_reducible refine wpList_box_fw rfl (.tmp 0) rfl f rfl ?_); intro w1 HB hL hz1; refine Hid.out ?_)
  refine Lib.hid ?_
  replace HB := Lib.hid HB
  go_wp2_with fail
  go_loopw [3, 4] (fun v3 v4 wr => ∃ (k : Nat) (A : Option Addr) (c : Nat), k ≤ 16 ∧ v4 = .int .i64 k ∧ v3 = .slice A k c ∧ Hid (OwnB 5 wr (w.heap.size + 1) A k c (f.s.take k)) ∧ Hid (BlkF wr w.heap.size f) ∧ Hid (w.heap.size + 1 ≤ wr.heap.size) ∧ Below w.heap.size w wr) (fun _ v4 _ => 16 - (intOf v4).toNat)
  case atStart => exact ⟨0, none, 0, by omega, rfl, rfl, Lib.hid (OwnB.none_ _ _ _), HB, Lib.hid (by omega), hL⟩
  case round =>
    clear HB hL hz1
    obtain ⟨k, A, c, hk, rfl, rfl, HO, HB, HSZ, hL⟩ := hrel
    by_cases hlt : k < 16
    · have c1 := (BlkV.cell HB.out k).trans (fwC_at_s HF.out.s hlt)
      have va := HF.out.vs.getD k
      have HT := Lib.hid (take_oneF (l := f.s) (k := k) (by rw [HF.out.s]; exact hlt))
      obtain ⟨x, hx⟩ : ∃ x, x = f.s.getD k 0 := ⟨_, rfl⟩
      rw [← hx] at c1 va HT
      clear hx
      have hlA := Low.alloc wr (.cells #[.int .u8 x] 5)
      have hsA : (wr.alloc (.cells #[.int .u8 x] 5)).heap.size = wr.heap.size + 1 := by simp
      have hkA : Blk (wr.alloc (.cells #[.int .u8 x] 5)) 5 wr.heap.size [x] := Blk.new wr 5 [x]
      have hbA := hkA.bs (n := 1) (.cons va.1 va.2 .nil) hkA.lt rfl
      have hO3 := HO.out.below hlA
      have hB3 := hL.trans (hlA.mono hL.size)
      have HB3 : Hid (BlkF (wr.alloc (.cells #[.int .u8 x] 5)) w.heap.size f) := Lib.hid (HB.out.below hlA HB.out.lt)
      have hz := HSZ.out
      clear hkA hlA
      go_wp2_with (at_builtin; refine wpList_append_bs rfl (.tmp 10) (.tmp 15) _ rfl (w.heap.size + 1) 5 i0 Tryd.underlying26 HI.out HZ0.out HZ1.out HZ2.out _ k c (f.s.take k) rfl hO3 _ 1 _ _ [x] rfl hbA (by omega) (by omega) ?_; intro A2 c2 w2 hown hgr hob)
      have hL2 : Below w.heap.size w w2 := hB3.grown hgr (by omega) (fun j hj => by have := (hO3.lt j hj).1; omega)
      have HB2 : Hid (BlkF w2 w.heap.size f) := Lib.hid (BlkV.grownF HB3.out hgr (fun j hj => by have := (hO3.lt j hj).1; omega))
      have HO2 : Hid (OwnB 5 w2 (w.heap.size + 1) A2 (k + 1) c2 (f.s.take (k + 1))) := Lib.hid (by rw [HT.out]; exact hown)
      have HSZ2 : Hid (w.heap.size + 1 ≤ w2.heap.size) := Lib.hid (by have := HB2.out.lt; omega)
      clear hown hgr hob hO3 hB3 HB3 hbA hsA
      go_roundw
      case rel =>
        first
        | exact ⟨k + 1, A2, c2, by omega, by go_num, rfl, HO2, HB2, HSZ2, hL2⟩
        | ((repeat apply Exists.intro); refine ⟨?_, rfl⟩; exact ⟨k + 1, A2, c2, by omega, by go_num, rfl, HO2, HB2, HSZ2, hL2⟩)
      case measure => simp [intOf]; omega
    · obtain rfl : k = 16 := by omega
      have hO := HO.out
      rw [List.take_of_length_le (by rw [HF.out.s]; omega)] at hO
      have c16 := BlkF.sp HB.out HF.out.s
      have hz := HSZ.out
      go_wp2_with fail
      refine (rtwo_any f.sp wr HF.out.sp).mono ?_
      rintro e w2 ⟨v, rfl, g5, rfl, hg5, hk5, hl5, ha5, hl⟩
      have hl2 : Low wr w2 := hl
      have hb5 := hk5.bs (n := 2) ha5 hk5.lt hl5
      have hO2 := hO.below hl2
      have HB2 : Hid (BlkF w2 w.heap.size f) := Lib.hid (HB.out.below hl2 HB.out.lt)
      have hL2 := hL.trans (hl2.mono hL.size)
      have hs2 := hl2.size
      clear c16 hk5 hl hl2 HO hO HB hL
      go_wp2_with (at_builtin; refine wpList_append_bs rfl (.tmp 17) (.tmp 20) _ rfl (w.heap.size + 1) 5 i0 Tryd.underlying26 HI.out HZ0.out HZ1.out HZ2.out _ 16 c f.s rfl hO2 _ 2 _ _ (two f.sp) rfl hb5 (by omega) (by omega) ?_; intro A3 c3 w3 hown hgr hob; refine Hid.out ?_)
      refine Lib.hid ?_
      have hL3 : Below w.heap.size w w3 := hL2.grown hgr (by omega) (fun j hj => by have := (hO2.lt j hj).1; omega)
      have HB3 : Hid (BlkF w3 w.heap.size f) := Lib.hid (BlkV.grownF HB2.out hgr (fun j hj => by have := (hO2.lt j hj).1; omega))
      have HO3 := Lib.hid hown
      have hz3 : w.heap.size + 1 ≤ w3.heap.size := by have := HB3.out.lt; omega
      obtain ⟨p1, hp1⟩ : ∃ p, p = f.s ++ two f.sp := ⟨_, rfl⟩
      rw [← hp1] at HO3
      have HP1 := Lib.hid hp1
      clear hown hgr hob hO2 HB2 hL2 hb5 hs2 hg5 hl5 ha5 hp1 hz HSZ
      go_wp2_with fail
      go_loopw [3, 5] (fun v3 v5 wr => ∃ (k : Nat) (A : Option Addr) (c : Nat), k ≤ 16 ∧ v5 = .int .i64 k ∧ v3 = .slice A (18 + k) c ∧ Hid (OwnB 5 wr (w.heap.size + 1) A (18 + k) c (p1 ++ f.d.take k)) ∧ Hid (BlkF wr w.heap.size f) ∧ Hid (w.heap.size + 1 ≤ wr.heap.size) ∧ Below w.heap.size w wr) (fun _ v5 _ => 16 - (intOf v5).toNat)
      case atStart => exact ⟨0, A3, c3, by omega, rfl, rfl, Lib.hid (by rw [List.take_zero, List.append_nil]; exact HO3.out), HB3, Lib.hid hz3, hL3⟩
      case round =>
        clear HB3 hL3 HO3 hz3
        obtain ⟨k, A, c, hk, rfl, rfl, HO, HB, HSZ, hL⟩ := hrel
        by_cases hlt : k < 16
        · have c1 := (BlkV.cell HB.out (17 + k)).trans (fwC_at_d HF.out.s HF.out.d hlt)
          have va := HF.out.vd.getD k
          have HT := Lib.hid (take_oneF (l := f.d) (k := k) (by rw [HF.out.d]; exact hlt))
          obtain ⟨x, hx⟩ : ∃ x, x = f.d.getD k 0 := ⟨_, rfl⟩
          rw [← hx] at c1 va HT
          clear hx
          have hlA := Low.alloc wr (.cells #[.int .u8 x] 5)
          have hsA : (wr.alloc (.cells #[.int .u8 x] 5)).heap.size = wr.heap.size + 1 := by simp
          have hkA : Blk (wr.alloc (.cells #[.int .u8 x] 5)) 5 wr.heap.size [x] := Blk.new wr 5 [x]
          have hbA := hkA.bs (n := 1) (.cons va.1 va.2 .nil) hkA.lt rfl
          have hO3 := HO.out.below hlA
          have hB3 := hL.trans (hlA.mono hL.size)
          have HB3 : Hid (BlkF (wr.alloc (.cells #[.int .u8 x] 5)) w.heap.size f) := Lib.hid (HB.out.below hlA HB.out.lt)
          have hz := HSZ.out
          clear hkA hlA
          go_wp2_with (at_builtin; refine wpList_append_bs rfl (.tmp 26) (.tmp 31) _ rfl (w.heap.size + 1) 5 i0 Tryd.underlying26 HI.out HZ0.out HZ1.out HZ2.out _ (18 + k) c (p1 ++ f.d.take k) rfl hO3 _ 1 _ _ [x] rfl hbA (by omega) (by omega) ?_; intro A2 c2 w2 hown hgr hob)
          have hL2 : Below w.heap.size w w2 := hB3.grown hgr (by omega) (fun j hj => by have := (hO3.lt j hj).1; omega)
          have HB2 : Hid (BlkF w2 w.heap.size f) := Lib.hid (BlkV.grownF HB3.out hgr (fun j hj => by have := (hO3.lt j hj).1; omega))
          have HO2 : Hid (OwnB 5 w2 (w.heap.size + 1) A2 (18 + (k + 1)) c2 (p1 ++ f.d.take (k + 1))) := Lib.hid (by rw [HT.out, ← List.append_assoc]; exact hown)
          have HSZ2 : Hid (w.heap.size + 1 ≤ w2.heap.size) := Lib.hid (by have := HB2.out.lt; omega)
          clear hown hgr hob hO3 hB3 HB3 hbA hsA
          go_roundw
          case rel =>
            first
            | exact ⟨k + 1, A2, c2, by omega, by go_num, rfl, HO2, HB2, HSZ2, hL2⟩
            | ((repeat apply Exists.intro); refine ⟨?_, rfl⟩; exact ⟨k + 1, A2, c2, by omega, by go_num, rfl, HO2, HB2, HSZ2, hL2⟩)
          case measure => simp [intOf]; omega
        · obtain rfl : k = 16 := by omega
          have hO := HO.out
          rw [List.take_of_length_le (l := f.d) (by rw [HF.out.d]; omega)] at hO
          have c33 := BlkF.dp HB.out HF.out.s HF.out.d
          have hz := HSZ.out
          go_wp2_with fail
          refine (rtwo_any f.dp wr HF.out.dp).mono ?_
          rintro e w4 ⟨v, rfl, g5, rfl, hg5, hk5, hl5, ha5, hl⟩
          have hl2 : Low wr w4 := hl
          have hb5 := hk5.bs (n := 2) ha5 hk5.lt hl5
          have hO2 := hO.below hl2
          have hL2 := hL.trans (hl2.mono hL.size)
          have hs2 := hl2.size
          clear c33 hk5 hl hl2 HO hO HB hL
          go_wp2_with (at_builtin; refine wpList_append_bs rfl (.tmp 33) (.tmp 36) _ rfl (w.heap.size + 1) 5 i0 Tryd.underlying26 HI.out HZ0.out HZ1.out HZ2.out _ (18 + 16) c (p1 ++ f.d) rfl hO2 _ 2 _ _ (two f.dp) rfl hb5 (by omega) (by omega) ?_; intro A5 c5 w5 hown hgr hob; refine Hid.out ?_)
          refine Lib.hid ?_
          have hL5 : Below w.heap.size w w5 := hL2.grown hgr (by omega) (fun j hj => by have := (hO2.lt j hj).1; omega)
          rw [HP1.out, ← HBE.out] at hown
          have HO5 := Lib.hid hown
          clear hown hgr hob hO2 hL2 hb5
          go_wp2_with fail
          go_ret
          exact ⟨A5, c5, by rw [HBL.out]; rfl, by rw [HBL.out]; exact HO5.out.lowerF (by omega), hL5⟩
end Go.Proofs.YtjafjapnmffohaaDoor

namespace Go.Proofs.YtjafjapnmffohaaDoor
open Go.RowKit
set_option linter.unusedVariables false

/-- the world has drawn, and has more blocks; nothing else -/
def Ext (w w' : World) : Prop := ∃ (q : Nat) (os : Array Obj), w' = Go.Sort.grow (w.drewN q) os
theorem Ext.refl (w : World) : Ext w w := ⟨0, #[], by rw [World.drewN_zero, Go.Sort.grow_empty]⟩
theorem Ext.drewN {w w' : World} (h : Ext w w') (n : Nat) : Ext w (w'.drewN n) := by
  obtain ⟨q, os, rfl⟩ := h
  exact ⟨q + n, os, by rw [← World.drewN_drewN]; rfl⟩
theorem Ext.grow {w w' : World} (h : Ext w w') (os : Array Obj) : Ext w (Go.Sort.grow w' os) := by
  obtain ⟨q, os', rfl⟩ := h
  exact ⟨q, os' ++ os, Go.Sort.grow_grow _ _ _⟩
theorem Ext.trans {w w' w'' : World} (h : Ext w w') (k : Ext w' w'') : Ext w w'' := by
  obtain ⟨q, os, rfl⟩ := k
  exact (h.drewN q).grow os
theorem Ext.alloc (w : World) (o : Obj) : Ext w (w.alloc o) := by
  rw [Go.Sort.alloc_eq_grow]
  exact (Ext.refl w).grow _
theorem Ext.low {w w' : World} (h : Ext w w') : Low w w' := by
  obtain ⟨q, os, rfl⟩ := h
  exact ⟨rfl, rfl, rfl, by simp [Go.Sort.grow], fun j hj => by simp [Go.Sort.grow, Array.getElem?_append, hj]⟩
theorem ext2 (w : World) (s d : List Int) (t1 t2 : TypeId) : Ext w ((w.alloc (.cells (cellsB s).toArray t1)).alloc (.cells (cellsB d).toArray t2)) := (Ext.alloc w _).trans (Ext.alloc _ _)
theorem wpList_box_fwX {ops : Array Oper} {rest : List Oper} {o : Oper} {a : Act} {w : World} {Q : Exit → Act → World → Prop} (hgd : o.guard = none) (x : Operand) (ho : o.op = .box 25 x) (f : Fw) (hx : a.eval x = .agg (fwC f).toArray)
    (hk : ∀ w', BlkF w' w.heap.size f → Ext w w' → w'.heap.size = w.heap.size + 1 → wpList Tryd.prog ops Q rest (a.put o.dst (.pointer (some ⟨w.heap.size, 0, none⟩))) w') : wpList Tryd.prog ops Q (o :: rest) a w :=
  wpList_plain hgd fun K hK => by
    unfold Oper.wp execOp
    simp only [ho, hx, Instr.box, newVar, newRow, Value.cells, Sem.run_bind, run_newObj, Result.andThen_ok, Sem.run_pure]
    exact hK _ _ (hk _ (BlkV.new w _ (fwC f)) (Ext.alloc w _) (by simp))
set_option maxHeartbeats 800000 in
theorem less_ext (s d : List Int) (w : World) (hs : s.length = 16) (hd : d.length = 16) :
    Calls Tryd.prog 27 #[addrV s, addrV d] w fun e w' => e = .returned (.bool (lessL s d)) ∧ Ext w w' := by
  unfold addrV
  have HS := Lib.hid hs
  have HD := Lib.hid hd
  have HB0 := Lib.hid (box_first w s d 23 23)
  have HB1 := Lib.hid (box_second w s d 23 23)
  have hL := ext2 w s d 23 23
  clear hs hd
  go_enter Tryd.func27, Tryd.ntmps27
  go_wp2_with fail
  generalize (w.alloc (.cells (cellsB s).toArray 23)).alloc (.cells (cellsB d).toArray 23) = w2 at *
  go_loopw [6] (fun i wr => ∃ k : Nat, k ≤ 16 ∧ i = .int .i64 k ∧ Hid (lessL s d = lessL (s.drop k) (d.drop k)) ∧ Ext w2 wr) (fun i _ => 16 - (intOf i).toNat)
  case atStart => exact ⟨0, Nat.zero_le _, rfl, rfl, Ext.refl _⟩
  case round =>
    obtain ⟨k, hk, rfl, HE, hB⟩ := hrel
    by_cases hlt : k < 16
    · have h0 := (HB0.out.below hB.low HB0.out.lt).cell k
      rw [cellsB_get (by rw [HS.out]; exact hlt)] at h0
      have h1 := (HB1.out.below hB.low HB1.out.lt).cell k
      rw [cellsB_get (by rw [HD.out]; exact hlt)] at h1
      have HLs := Lib.hid (less_same (s := s) (d := d) (k := k) (by rw [HS.out]; exact hlt) (by rw [HD.out]; exact hlt))
      have HLo := Lib.hid (less_other (s := s) (d := d) (k := k) (by rw [HS.out]; exact hlt) (by rw [HD.out]; exact hlt))
      obtain ⟨x, hx⟩ : ∃ x, x = s.getD k 0 := ⟨_, rfl⟩
      obtain ⟨y, hy⟩ : ∃ y, y = d.getD k 0 := ⟨_, rfl⟩
      rw [← hx, ← hy] at HLs HLo
      rw [← hx] at h0
      rw [← hy] at h1
      clear hx hy
      by_cases hxy : x = y
      · have HE2 := Lib.hid (HE.out.trans (HLs.out hxy))
        clear HE HLs HLo
        subst hxy
        go_wp2
        go_quiet (fail)
        go_wp2
        go_roundw
        case rel => exact ⟨k + 1, by omega, by go_num, HE2, hB.drewN _⟩
        case measure => simp [intOf]; omega
      · have HE2 := Lib.hid (HE.out.trans (HLo.out hxy))
        clear HE HLs HLo
        have hxy' : (x == y) = false := by simpa using hxy
        have hxy2 : (x != y) = true := by simpa using hxy
        go_wp2
        go_quiet (fail)
        go_wp2
        go_quiet (fail)
        go_wp2
        go_ret
        exact ⟨ret_bool HE2.out.symm, hL.trans ((hB.drewN _).drewN _)⟩
    · obtain rfl : k = 16 := by omega
      have HE2 := Lib.hid (HE.out.trans (less_end (by rw [HS.out]; omega)))
      go_wp2
      go_ret
      exact ⟨ret_bool HE2.out.symm, hL.trans hB⟩

set_option maxRecDepth 100000 in
set_option maxHeartbeats 3200000 in
theorem fless_ext (a b : Fw) (w : World) (ha : a.ok) (hb : b.ok) :
    Calls Tryd.prog 16 #[fwV a, fwV b] w fun e w' => e = .returned (.bool (lessF a b)) ∧ Ext w w' := by
  unfold fwV
  have HAS := Lib.hid ha.s
  have HAD := Lib.hid ha.d
  have HBS := Lib.hid hb.s
  have HBD := Lib.hid hb.d
  clear ha hb
  have HLF := Lib.hid (show lessF a b = if a.s = b.s then (if a.sp = b.sp then (if a.d = b.d then decide (a.dp < b.dp) else lessL a.d b.d) else decide (a.sp < b.sp)) else lessL a.s b.s from rfl)
  generalize lessF a b = r at *
  go_enter Tryd.func16, Tryd.ntmps16
  go_wp2_with (first | ((with_reducible refine wpList_box_fwX rfl (.tmp 0) rfl a rfl ?_); intro w1 HA hL hz1) | ((with_reducible refine wpList_box_fwX rfl (.tmp 1) rfl b rfl ?_); intro w2 HB hl hz2; refine Hid.out ?_))
  refine Lib.hid ?_
  rw [hz1] at HB
  replace HA := Lib.hid (HA.below hl.low HA.lt)
  replace HB := Lib.hid HB
  replace hL := hL.trans hl
  clear hz1 hz2 hl
  have RAS := Lib.hid (BlkF.src HA.out)
  have RAD := Lib.hid (BlkF.dst HA.out HAS.out)
  have RBS := Lib.hid (BlkF.src HB.out)
  have RBD := Lib.hid (BlkF.dst HB.out HBS.out)
  have heq := fun u => eq_addr a.s b.s HAS.out HBS.out u
  obtain ⟨q1, hq1⟩ : ∃ q, q = (a.s == b.s) := ⟨_, rfl⟩
  rw [← hq1] at heq
  replace hq1 := Lib.hid hq1
  cases q1
  · have HE := Lib.hid (show r = lessL a.s b.s by
      have h := hq1.out
      rw [HLF.out, if_neg (by intro e; rw [e] at h; simp at h)])
    go_wp2_with (first
      | (with_reducible refine wpList_load_atF rfl (.tmp 11) rfl w.heap.size 0 rfl a.s HAS.out RAS.out ?_)
      | (with_reducible refine wpList_load_atF rfl (.tmp 13) rfl (w.heap.size + 1) 0 rfl b.s HBS.out RBS.out ?_)
      | (with_reducible refine wpList_load_atF rfl (.tmp 16) rfl w.heap.size 0 rfl a.s HAS.out RAS.out ?_)
      | (with_reducible refine wpList_load_atF rfl (.tmp 18) rfl (w.heap.size + 1) 0 rfl b.s HBS.out RBS.out ?_))
    refine (less_ext a.s b.s w2 HAS.out HBS.out).mono ?_
    rintro e w3 ⟨rfl, hl⟩
    rw [← HE.out]
    have hL3 := Ext.trans hL hl
    clear hl heq
    go_wp2_with fail
    go_ret
    exact ⟨rfl, hL3⟩
  · have HS2 := Lib.hid (show a.s = b.s by
      have h := hq1.out
      simpa using h.symm)
    have ka := BlkF.sp HA.out HAS.out
    have kb := BlkF.sp HB.out HBS.out
    by_cases e2 : a.sp = b.sp
    · have HSP := Lib.hid e2
      have n2 : (a.sp != b.sp) = false := by simpa using e2
      clear e2
      have heq2 := fun u => eq_addr a.d b.d HAD.out HBD.out u
      obtain ⟨q2, hq2⟩ : ∃ q, q = (a.d == b.d) := ⟨_, rfl⟩
      rw [← hq2] at heq2
      replace hq2 := Lib.hid hq2
      cases q2
      · have HE := Lib.hid (show r = lessL a.d b.d by
          have h := hq2.out
          rw [HLF.out, if_pos HS2.out, if_pos HSP.out, if_neg (by intro e; rw [e] at h; simp at h)])
        go_wp2_with (first
          | (with_reducible refine wpList_load_atF rfl (.tmp 11) rfl w.heap.size 0 rfl a.s HAS.out RAS.out ?_)
          | (with_reducible refine wpList_load_atF rfl (.tmp 13) rfl (w.heap.size + 1) 0 rfl b.s HBS.out RBS.out ?_)
          | (with_reducible refine wpList_load_atF rfl (.tmp 33) rfl w.heap.size 17 rfl a.d HAD.out RAD.out ?_)
          | (with_reducible refine wpList_load_atF rfl (.tmp 35) rfl (w.heap.size + 1) 17 rfl b.d HBD.out RBD.out ?_)
          | (with_reducible refine wpList_load_atF rfl (.tmp 38) rfl w.heap.size 17 rfl a.d HAD.out RAD.out ?_)
          | (with_reducible refine wpList_load_atF rfl (.tmp 40) rfl (w.heap.size + 1) 17 rfl b.d HBD.out RBD.out ?_))
        refine (less_ext a.d b.d w2 HAD.out HBD.out).mono ?_
        rintro e w3 ⟨rfl, hl⟩
        rw [← HE.out]
        have hL3 := Ext.trans hL hl
        clear hl heq heq2 ka kb n2
        go_wp2_with fail
        go_ret
        exact ⟨rfl, hL3⟩
      · have HE := Lib.hid (show r = decide (a.dp < b.dp) by
          have h := hq2.out
          rw [HLF.out, if_pos HS2.out, if_pos HSP.out, if_pos (by simpa using h.symm)])
        have la := BlkF.dp HA.out HAS.out HAD.out
        have lb := BlkF.dp HB.out HBS.out HBD.out
        go_wp2_with (first
          | (with_reducible refine wpList_load_atF rfl (.tmp 11) rfl w.heap.size 0 rfl a.s HAS.out RAS.out ?_)
          | (with_reducible refine wpList_load_atF rfl (.tmp 13) rfl (w.heap.size + 1) 0 rfl b.s HBS.out RBS.out ?_)
          | (with_reducible refine wpList_load_atF rfl (.tmp 33) rfl w.heap.size 17 rfl a.d HAD.out RAD.out ?_)
          | (with_reducible refine wpList_load_atF rfl (.tmp 35) rfl (w.heap.size + 1) 17 rfl b.d HBD.out RBD.out ?_))
        go_ret
        exact ⟨by rw [HE.out]; rfl, hL⟩
    · have HSP := Lib.hid e2
      have n2 : (a.sp != b.sp) = true := by simpa using e2
      clear e2
      have HE := Lib.hid (show r = decide (a.sp < b.sp) by rw [HLF.out, if_pos HS2.out, if_neg HSP.out])
      go_wp2_with (first
        | (with_reducible refine wpList_load_atF rfl (.tmp 11) rfl w.heap.size 0 rfl a.s HAS.out RAS.out ?_)
        | (with_reducible refine wpList_load_atF rfl (.tmp 13) rfl (w.heap.size + 1) 0 rfl b.s HBS.out RBS.out ?_))
      go_ret
      exact ⟨by rw [HE.out]; rfl, hL⟩
set_option maxRecDepth 100000 in
set_option maxHeartbeats 1600000 in
theorem fback_any (f : Fw) (w : World) (hf : f.ok) :
    Calls Tryd.prog 10 #[fwV f] w fun e w' => e = .returned (fwV (backF f)) ∧ Below w.heap.size w w' := by
  unfold fwV
  have HS := Lib.hid hf.s
  have HD := Lib.hid hf.d
  clear hf
  go_enter Tryd.func10, Tryd.ntmps10
  go_wp2_with (first | ((with_reducible refine wpList_box_fw rfl (.tmp 0) rfl f rfl ?_); intro w1 HB hL hz1) | ((with_reducible refine wpList_alloc_fw rfl rfl ?_); intro w2 HZ hl hz2; refine Hid.out ?_))
  refine Lib.hid ?_
  rw [hz1] at HZ
  replace HB := Lib.hid (HB.below hl HB.lt)
  replace HZ := Lib.hid HZ
  replace hL := hL.trans hl
  clear hz1 hz2 hl
  have HRS := Lib.hid (BlkF.src HB.out)
  have HRD := Lib.hid (BlkF.dst HB.out HS.out)
  have c16 := BlkF.sp HB.out HS.out
  have c33 := BlkF.dp HB.out HS.out HD.out
  go_wp2_with (first
    | (with_reducible refine wpList_load_atF rfl (.tmp 3) rfl w.heap.size 17 rfl f.d HD.out HRD.out ?_)
    | (with_reducible refine wpList_load_atF rfl (.tmp 7) rfl w.heap.size 0 rfl f.s HS.out HRS.out ?_)
    | ((refine wpList_build_fw rfl (.tmp 4) (.tmp 6) (.tmp 8) (.tmp 10) rfl f.d f.s f.dp f.sp rfl rfl rfl rfl HD.out HS.out ?_); refine Hid.out ?_))
  refine Lib.hid ?_
  clear c16 c33
  go_wp2_with ((refine wpList_store_fw rfl (.tmp 2) (.tmp 11) rfl (w.heap.size + 1) rfl (backF f) rfl zeroF HZ.out rfl rfl HD.out HS.out ?_); intro w3 HG hb3 hz3 ho3; refine Hid.out ?_)
  refine Lib.hid ?_
  have HR := Lib.hid HG
  go_wp2_with fail
  exact ret_fw Tryd.results10 rfl HR.out HD.out HS.out ⟨rfl, Below.trans hL (hb3.mono (by omega))⟩ rfl

end Go.Proofs.YtjafjapnmffohaaDoor

namespace Go.Proofs.YtjafjapnmffohaaDoor
open Go.RowKit
set_option linter.unusedVariables false

def portB (n : Int) : Bool := decide (0 ≤ n ∧ n ≤ 65535)
theorem rightF_ports (f : Fw) : rightF f = (portB f.sp && portB f.dp) := by
  unfold rightF portB
  rw [Bool.eq_iff_iff]
  simp only [Bool.and_eq_true, decide_eq_true_eq]
  omega
set_option maxRecDepth 100000 in
theorem isport_any (n : Int) (w : World) : Calls Tryd.prog 24 #[.int .i64 n] w fun e w' => e = .returned (.bool (portB n)) ∧ w = w' := by
  by_cases h : 0 ≤ n
  · have HE := Lib.hid (show portB n = decide (n ≤ 65535) by unfold portB; rw [Bool.eq_iff_iff]; simp only [decide_eq_true_eq]; omega)
    go_enter Tryd.func24, Tryd.ntmps24
    go_wp2_with fail
    go_ret
    exact ⟨by rw [HE.out]; rfl, rfl⟩
  · have HE := Lib.hid (show portB n = false by unfold portB; exact decide_eq_false (by omega))
    go_enter Tryd.func24, Tryd.ntmps24
    go_wp2_with fail
    go_ret
    exact ⟨by rw [HE.out]; rfl, rfl⟩
set_option maxRecDepth 100000 in
theorem right_any (f : Fw) (w : World) (hf : f.ok) : Calls Tryd.prog 12 #[fwV f] w fun e w' => e = .returned (.bool (rightF f)) ∧ Below w.heap.size w w' := by
  unfold fwV
  have HS := Lib.hid hf.s
  have HD := Lib.hid hf.d
  clear hf
  have HE := Lib.hid (rightF_ports f)
  generalize rightF f = r at *
  go_enter Tryd.func12, Tryd.ntmps12
  go_wp2_with ((with_reducible refine wpList_box_fw rfl (.tmp 0) rfl f rfl ?_); intro w1 HB hL hz1; refine Hid.out ?_)
  refine Lib.hid ?_
  have c16 := BlkF.sp HB HS.out
  have c33 := BlkF.dp HB HS.out HD.out
  clear HB hz1
  go_wp2_with fail
  refine (isport_any f.sp w1).mono ?_
  rintro e w2 ⟨rfl, rfl⟩
  obtain ⟨q, hq⟩ : ∃ q, q = portB f.sp := ⟨_, rfl⟩
  rw [← hq] at HE ⊢
  clear hq
  cases q
  · go_wp2_with fail
    go_ret
    exact ⟨by rw [HE.out]; rfl, hL⟩
  · go_wp2_with fail
    refine (isport_any f.dp w1).mono ?_
    rintro e w2 ⟨rfl, rfl⟩
    go_wp2_with fail
    go_ret
    exact ⟨by rw [HE.out]; rfl, hL⟩

/-- the two addresses in a flow's block, as bytes -/
theorem BlkF.bsrc {w : World} {g : Nat} {f : Fw} (hb : BlkF w g f) (hk : f.ok) {B : Nat} (hg : g < B) : Bs w B (some ⟨g, 0, none⟩) 16 f.s :=
  ⟨hk.s, hk.vs, fun _ => ⟨g, 0, rfl, hg, fun i hi => by
    rw [BlkV.cell hb, Nat.zero_add]
    exact fwC_at_s hk.s hi⟩⟩
theorem BlkF.bdst {w : World} {g : Nat} {f : Fw} (hb : BlkF w g f) (hk : f.ok) {B : Nat} (hg : g < B) : Bs w B (some ⟨g, 17, none⟩) 16 f.d :=
  ⟨hk.d, hk.vd, fun _ => ⟨g, 17, rfl, hg, fun i hi => by
    rw [BlkV.cell hb]
    exact fwC_at_d hk.s hk.d hi⟩⟩

set_option maxHeartbeats 1600000 in
set_option maxRecDepth 100000 in
theorem fbytes_any (f : Fw) (w : World) (hf : f.ok) :
    Calls Tryd.prog 6 #[fwV f] w fun e w' => ∃ v, e = .returned v ∧ NewB 5 w 36 (bytesF f) v w' := by
  unfold fwV
  have HO := Lib.hid hf
  have HLn := Lib.hid (bytesF_len hf)
  have HA := Lib.hid (bytesF_all hf)
  have HE := Lib.hid (show [f.s, two f.sp, f.d, two f.dp].flatten = bytesF f by unfold bytesF; simp)
  clear hf
  go_enter Tryd.func6, Tryd.ntmps6
  go_wp2_with ((with_reducible refine wpList_box_fw rfl (.tmp 0) rfl f rfl ?_); intro w1 HB hL hz1; refine Hid.out ?_)
  refine Lib.hid ?_
  replace HB := Lib.hid HB
  clear hz1
  go_wp2_with fail
  refine wp_region_plan (.rd 0 (.rd 1 (.rd 2 (.rd 3 (.rd 5 (.rd 6 (.rd 7 (.rd 8 (.act 4 (.act 9 (.act 10 (.act 11 (.rd 12 (.done))))))))))))))
    (by kernel_rfl) (by kernel_rfl) (fun _ _ d _ _ h => by cases d <;> exact h) (by kernel_rfl) ?_
  replace hL : Low w w1.drew := hL.trans (Below.drew (Below.refl _ _))
  replace HB : Hid (BlkF w1.drew w.heap.size f) := HB
  generalize w1.drew = w5 at *
  have c16 := BlkF.sp HB.out HO.out.s
  have c33 := BlkF.dp HB.out HO.out.s HO.out.d
  have hgs := HB.out.lt
  have HS := Lib.hid (BlkF.bsrc HB.out HO.out hgs)
  have HD := Lib.hid (BlkF.bdst HB.out HO.out hgs)
  clear HB
  generalize w.heap.size = gs at c16 c33 HS HD hgs ⊢
  iterate 8 (refine walkP_read (v := _) rfl (by rfl) (by intro y hy; have e3 := (hy.cell (p := ⟨gs, 16, none⟩) hgs).trans c16; have e4 := (hy.cell (p := ⟨gs, 33, none⟩) hgs).trans c33; go_simp; try rfl) ?_; simp only [Act.put, List.setIfInBounds_toArray, List.set_cons_zero, List.set_cons_succ])
  clear c16 c33 hgs
  refine walkP_act rfl (by rfl) (fun K hK => ?_)
  go_simp
  refine (put16_any none 0 0 f.sp [] w5 (by omega) HO.out.sp (Bs.nil _ _ _)).mono ?_
  rintro e w6 ⟨v, rfl, g3, rfl, hg3, hk3, hl3, ha3, hl⟩
  replace hk3 : Blk w6 5 g3 (two f.sp) := hk3
  have hb3 := hk3.bs (n := 2) ha3 hk3.lt hl3
  go_simp
  refine hK _ _ hl ?_
  clear hK K
  replace hL := hL.trans hl
  replace HS := Lib.hid (HS.out.below' hl hl.size)
  replace HD := Lib.hid (HD.out.below' hl hl.size)
  clear hl hk3 ha3 hl3 hg3
  refine walkP_act rfl (by rfl) (fun K hK => ?_)
  go_simp
  refine (put16_any none 0 0 f.dp [] w6 (by omega) HO.out.dp (Bs.nil _ _ _)).mono ?_
  rintro e w7 ⟨v, rfl, g4, rfl, hg4, hk4, hl4, ha4, hl⟩
  replace hk4 : Blk w7 5 g4 (two f.dp) := hk4
  have hb4 := hk4.bs (n := 2) ha4 hk4.lt hl4
  go_simp
  refine hK _ _ hl ?_
  clear hK K
  replace hL := hL.trans hl
  replace HS := Lib.hid (HS.out.below' hl hl.size)
  replace HD := Lib.hid (HD.out.below' hl hl.size)
  replace hb3 := hb3.below' hl hl.size
  clear hl hk4 ha4 hl4 hg4
  refine walkP_act rfl (by rfl) (fun K hK => ?_)
  go_simp
  refine hK _ _ (Low.alloc _ _) ?_
  clear hK K
  have hl := Low.alloc w7 (.cells #[.slice (some ⟨gs, 0, none⟩) 16 16, .slice (some ⟨g3, 0, none⟩) 2 2, .slice (some ⟨gs, 17, none⟩) 16 16, .slice (some ⟨g4, 0, none⟩) 2 2] 26)
  have hrow := heap_alloc_new w7 (.cells #[.slice (some ⟨gs, 0, none⟩) 16 16, .slice (some ⟨g3, 0, none⟩) 2 2, .slice (some ⟨gs, 17, none⟩) 16 16, .slice (some ⟨g4, 0, none⟩) 2 2] 26 (0, 0))
  replace hL := hL.trans hl
  replace hb3 := hb3.below' hl hl.size
  replace hb4 := hb4.below' hl hl.size
  replace HS := Lib.hid (HS.out.below' hl hl.size)
  replace HD := Lib.hid (HD.out.below' hl hl.size)
  clear hl
  generalize w7.alloc (.cells #[.slice (some ⟨gs, 0, none⟩) 16 16, .slice (some ⟨g3, 0, none⟩) 2 2, .slice (some ⟨gs, 17, none⟩) 16 16, .slice (some ⟨g4, 0, none⟩) 2 2] 26) = w8 at *
  generalize w7.heap.size = g7 at *
  have hR := Row.four hrow HS.out hb3 HD.out hb4
  clear hb3 hb4 HS HD hrow
  refine walkP_act rfl (by rfl) (fun K hK => ?_)
  go_simp
  refine (join_any _ 4 4 _ _ 36 w8 rfl (by omega) hR (by rw [HE.out, HLn.out]) (by omega)).mono ?_
  rintro e w9 ⟨rfl, hk8, hl⟩
  rw [HE.out] at hk8
  have hN2 : NewB 5 w 36 (bytesF f) (.slice (some ⟨w8.heap.size, 0, none⟩) 36 36) w9 := ⟨_, rfl, hL.size, hk8, HLn.out, HA.out, hL.trans hl⟩
  go_simp
  refine hK _ _ hl ?_
  clear hK K hR hk8 hl
  iterate 1 (refine walkP_read (v := _) rfl (by rfl) (by intro y hy; go_simp; try rfl) ?_; simp only [Act.put, List.setIfInBounds_toArray, List.set_cons_zero, List.set_cons_succ])
  unfold walkP
  go_wp2
  go_ret
  exact ⟨_, rfl, hN2⟩
end Go.Proofs.YtjafjapnmffohaaDoor

namespace Go.Proofs.YtjafjapnmffohaaDoor
open Go.RowKit
set_option linter.unusedVariables false

theorem exec_load_atF {f : Operand → Value} {dd : Option Tmp} {x : Operand} {ty : TypeId} {pos : String} {gd : Option (Nat × Bool)} {w : World} {b p : Nat} {s : List Int} (hx : f x = .pointer (some ⟨b, p, none⟩)) (hs : s.length = 16) (hc : w.rangeAt b p (cellsB s)) :
    (execOp f ⟨dd, .load 23 x, ty, pos, #[], gd⟩).run Tryd.prog w = .ok (.value (.agg (cellsB s).toArray)) w := by
  unfold execOp
  simp only [hx, Instr.loadAt, Instr.sureAddr, Sem.run_bind, Sem.run_pure, Result.andThen_ok, run_loadVar_mid w b p 23 (cellsB s) _ hc Tryd.underlying23 rfl (by rw [addr_size]; simp [cellsB_length, hs])]
theorem textL_size {s : List Int} : (strD (textL s)).size ≤ 56 := by
  rw [strD_size, text_same]
  unfold rtextL
  exact rtx_length _ _ _ 8
theorem itoa_size {n : Int} (h : i64ok n) : (strD (Lib.itoa n)).size ≤ 21 := by
  unfold i64ok at h
  rw [strD_size]
  exact Lib.itoa_length_le n h.1 h.2
/-- one end of a flow as text -/
def endT (s : List Int) (p : Int) : List UInt8 := [91] ++ textL s ++ [93, 58] ++ Lib.itoa p
/-- a flow as text -/
def textF (f : Fw) : List UInt8 := endT f.s f.sp ++ [32, 62, 32] ++ endT f.d f.dp
theorem endT_size {s : List Int} {p : Int} (h : i64ok p) : (strD (endT s p)).size ≤ 80 := by
  have h1 := textL_size (s := s)
  have h2 := itoa_size h
  rw [strD_size] at h1 h2 ⊢
  unfold endT
  simp only [List.length_append, List.length_cons, List.length_nil]
  omega
theorem endT_eq (s : List Int) (p : Int) : strD [91] ++ strD (textL s) ++ strD [93, 58] ++ strD (Lib.itoa p) = strD (endT s p) := by
  rw [strD_append, strD_append, strD_append]
  rfl
theorem textF_eq (f : Fw) : strD (endT f.s f.sp) ++ strD [32, 62, 32] ++ strD (endT f.d f.dp) = strD (textF f) := by
  rw [strD_append, strD_append]
  rfl
theorem textF_eq2 (f : Fw) : strD [91] ++ strD (textL f.s) ++ strD [93, 58] ++ strD (Lib.itoa f.sp) ++ strD [32, 62, 32, 91] ++ strD (textL f.d) ++ strD [93, 58] ++ strD (Lib.itoa f.dp) = strD (textF f) := by
  rw [strD_append, strD_append, strD_append, strD_append, strD_append, strD_append, strD_append]
  congr 1
  unfold textF endT
  simp only [List.append_assoc, List.cons_append, List.nil_append]

set_option maxRecDepth 100000 in
set_option maxHeartbeats 1600000 in
theorem end_any (s : List Int) (p : Int) (w : World) (hs : s.length = 16) (vs : AllB s) (hq : i64ok p) (hp : Pow10 w) (ht : LibT w) :
    Calls Tryd.prog 21 #[addrV s, .int .i64 p] w fun e w' => e = .returned (.string (strD (endT s p))) ∧ Below w.heap.size w w' := by
  unfold addrV
  have HS := Lib.hid hs
  have HP := Lib.hid hp
  have HT := Lib.hid ht
  have HQ := Lib.hid hq
  clear hs hp ht hq
  have HB0 := Lib.hid (Blk.new w 23 s)
  have hL := low1 w s 23
  go_enter Tryd.func21, Tryd.ntmps21
  go_wp2_with (with_reducible refine wpList_load_addr rfl (.tmp 2) rfl w.heap.size rfl _ s HB0.out HS.out ?_)
  clear HB0
  generalize w.alloc (.cells (cellsB s).toArray 23) = w0 at *
  refine (text_any s w0 HS.out vs (HT.out.low hL)).mono ?_
  rintro e w1 ⟨rfl, hl⟩
  replace hL := Low.trans hL hl
  clear hl
  have z1 := textL_size (s := s)
  have z2 := itoa_size HQ.out
  have HX := Lib.hid (endT_eq s p)
  obtain ⟨s1, hs1⟩ : ∃ x, x = strD (textL s) := ⟨_, rfl⟩
  rw [show strL (textL s) = s1 from hs1.symm]
  rw [← hs1] at z1 HX
  clear hs1
  have z3 := sum_size (strD [91]) s1 1 56 57 (by decide) z1 rfl
  have z4 := sum_size (strD [91] ++ s1) (strD [93, 58]) 57 2 59 z3 (by decide) rfl
  have q1 : ¬ 9223372036854775807 < (strD [91]).size + s1.size := by have : (strD [91]).size = 1 := rfl; omega
  have q2 : ¬ 9223372036854775807 < (strD [91] ++ s1).size + (strD [93, 58]).size := by have : (strD [93, 58]).size = 2 := rfl; omega
  have q3 : ¬ 9223372036854775807 < (strD [91] ++ s1 ++ strD [93, 58]).size + (strD (Lib.itoa p)).size := by omega
  unfold strD at *
  go_wp2_with fail
  refine (itoa_any p w1 HQ.out (HP.out.low hL)).mono ?_
  rintro e w2 ⟨rfl, hl⟩
  replace hL := Low.trans hL hl
  clear hl
  go_wp2_with fail
  go_ret
  exact ⟨congrArg (fun x => Ending.returned (.string x)) HX.out, hL⟩
theorem rangeAt_belowF {w w' : World} {B b p : Nat} {cs : List Value} (h : w.rangeAt b p cs) (hb : Below B w w') (hlt : b < B) : w'.rangeAt b p cs := fun j v hv => (hb.cell (p := ⟨b, p + j, none⟩) hlt).trans (h j v hv)

set_option maxRecDepth 100000 in
set_option maxHeartbeats 3200000 in
theorem ftext_any (f : Fw) (w : World) (hf : f.ok) (hp : Pow10 w) (ht : LibT w) :
    Calls Tryd.prog 8 #[fwV f] w fun e w' => e = .returned (.string (strD (textF f))) ∧ Below w.heap.size w w' := by
  unfold fwV
  have HO := Lib.hid hf
  have HP := Lib.hid hp
  have HT := Lib.hid ht
  have HX := Lib.hid (textF_eq f)
  clear hf hp ht
  go_enter Tryd.func8, Tryd.ntmps8
  go_wp2_with ((with_reducible refine wpList_box_fw rfl (.tmp 0) rfl f rfl ?_); intro w1 HB hL hz1; refine Hid.out ?_)
  refine Lib.hid ?_
  replace HB := Lib.hid HB
  clear hz1
  go_wp2_with fail
  refine wp_region_plan (.rd 0 (.rd 1 (.rd 2 (.rd 3 (.rd 6 (.rd 7 (.rd 8 (.rd 9 (.act 4 (.rd 5 (.act 10 (.rd 11 (.rd 12 (.done))))))))))))))
    (by kernel_rfl) (by kernel_rfl) (fun _ _ d _ _ h => by cases d <;> exact h) (by kernel_rfl) ?_
  replace hL : Low w w1.drew := hL.trans (Below.drew (Below.refl _ _))
  replace HB : Hid (BlkF w1.drew w.heap.size f) := HB
  generalize w1.drew = w5 at *
  have c16 := BlkF.sp HB.out HO.out.s
  have c33 := BlkF.dp HB.out HO.out.s HO.out.d
  have hgs := HB.out.lt
  have HRS := Lib.hid (BlkF.src HB.out)
  have HRD := Lib.hid (BlkF.dst HB.out HO.out.s)
  clear HB
  generalize w.heap.size = gs at c16 c33 HRS HRD hgs ⊢
  iterate 8 (refine walkP_read (v := _) rfl (by rfl) (by
      intro y hy
      first
      | exact exec_load_atF (b := gs) (p := 0) rfl HO.out.s (rangeAt_belowF HRS.out hy hgs)
      | exact exec_load_atF (b := gs) (p := 17) rfl HO.out.d (rangeAt_belowF HRD.out hy hgs)
      | (have e3 := (hy.cell (p := ⟨gs, 16, none⟩) hgs).trans c16; have e4 := (hy.cell (p := ⟨gs, 33, none⟩) hgs).trans c33; go_simp; try rfl)) ?_; simp only [Act.put, List.setIfInBounds_toArray, List.set_cons_zero, List.set_cons_succ])
  clear c16 c33 hgs HRS HRD
  refine walkP_act rfl (by rfl) (fun K hK => ?_)
  go_simp
  refine (end_any f.s f.sp w5 HO.out.s HO.out.vs HO.out.sp (HP.out.low hL) (HT.out.low hL)).mono ?_
  rintro e w6 ⟨rfl, hl⟩
  have z1 := endT_size (s := f.s) HO.out.sp
  obtain ⟨s1, hs1⟩ : ∃ s, s = strD (endT f.s f.sp) := ⟨_, rfl⟩
  rw [← hs1] at z1 HX ⊢
  clear hs1
  go_simp
  refine hK _ _ hl ?_
  clear hK K
  replace hL := hL.trans hl
  clear hl
  iterate 1 (refine walkP_read (v := _) rfl (by rfl) (by intro y hy; exact exec_cat s1 (strD [32, 62, 32]) 80 3 83 z1 (by decide) rfl (by omega) rfl rfl y) ?_; simp only [Act.put, List.setIfInBounds_toArray, List.set_cons_zero, List.set_cons_succ])
  have z3 := sum_size s1 (strD [32, 62, 32]) 80 3 83 z1 (by decide) rfl
  obtain ⟨s3, hs3⟩ : ∃ s, s = s1 ++ strD [32, 62, 32] := ⟨_, rfl⟩
  rw [← hs3] at z3 HX ⊢
  clear hs3
  refine walkP_act rfl (by rfl) (fun K hK => ?_)
  go_simp
  refine (end_any f.d f.dp w6 HO.out.d HO.out.vd HO.out.dp (HP.out.low hL) (HT.out.low hL)).mono ?_
  rintro e w7 ⟨rfl, hl⟩
  have z2 := endT_size (s := f.d) HO.out.dp
  obtain ⟨s2, hs2⟩ : ∃ s, s = strD (endT f.d f.dp) := ⟨_, rfl⟩
  rw [← hs2] at z2 HX ⊢
  clear hs2
  go_simp
  refine hK _ _ hl ?_
  clear hK K
  replace hL := hL.trans hl
  clear hl
  iterate 1 (refine walkP_read (v := _) rfl (by rfl) (by intro y hy; exact exec_cat s3 s2 83 80 163 z3 z2 rfl (by omega) rfl rfl y) ?_; simp only [Act.put, List.setIfInBounds_toArray, List.set_cons_zero, List.set_cons_succ])
  iterate 1 (refine walkP_read (v := _) rfl (by rfl) (by intro y hy; go_simp; try rfl) ?_; simp only [Act.put, List.setIfInBounds_toArray, List.set_cons_zero, List.set_cons_succ])
  unfold walkP
  clear z1 z2 z3
  generalize s3 ++ s2 = s7 at *
  go_wp2_with fail
  go_ret
  exact ⟨congrArg (fun x => Ending.returned (.string x)) HX.out, hL⟩

set_option maxRecDepth 100000 in
set_option maxHeartbeats 6400000 in
theorem rftext_any (f : Fw) (w : World) (hf : f.ok) :
    Calls Tryd.prog 9 #[fwV f] w fun e w' => e = .returned (.string (strD (textF f))) ∧ Below w.heap.size w w' := by
  unfold fwV
  have HO := Lib.hid hf
  have HX := Lib.hid (textF_eq2 f)
  clear hf
  go_enter Tryd.func9, Tryd.ntmps9
  go_wp2_with ((with_reducible refine wpList_box_fw rfl (.tmp 0) rfl f rfl ?_); intro w1 HB hL hz1; refine Hid.out ?_)
  refine Lib.hid ?_
  replace HB := Lib.hid HB
  clear hz1
  go_wp2_with fail
  refine wp_region_plan (.rd 0 (.rd 1 (.rd 5 (.rd 6 (.rd 10 (.rd 11 (.rd 15 (.rd 16 (.act 2 (.rd 3 (.rd 4 (.act 7 (.rd 8 (.rd 9 (.act 12 (.rd 13 (.rd 14 (.act 17 (.rd 18 (.rd 19 (.done)))))))))))))))))))))
    (by kernel_rfl) (by kernel_rfl) (fun _ _ d _ _ h => by cases d <;> exact h) (by kernel_rfl) ?_
  replace hL : Low w w1.drew := hL.trans (Below.drew (Below.refl _ _))
  replace HB : Hid (BlkF w1.drew w.heap.size f) := HB
  generalize w1.drew = w5 at *
  have c16 := BlkF.sp HB.out HO.out.s
  have c33 := BlkF.dp HB.out HO.out.s HO.out.d
  have hgs := HB.out.lt
  have HRS := Lib.hid (BlkF.src HB.out)
  have HRD := Lib.hid (BlkF.dst HB.out HO.out.s)
  clear HB
  generalize w.heap.size = gs at c16 c33 HRS HRD hgs ⊢
  iterate 8 (refine walkP_read (v := _) rfl (by rfl) (by
      intro y hy
      first
      | exact exec_load_atF (b := gs) (p := 0) rfl HO.out.s (rangeAt_belowF HRS.out hy hgs)
      | exact exec_load_atF (b := gs) (p := 17) rfl HO.out.d (rangeAt_belowF HRD.out hy hgs)
      | (have e3 := (hy.cell (p := ⟨gs, 16, none⟩) hgs).trans c16; have e4 := (hy.cell (p := ⟨gs, 33, none⟩) hgs).trans c33; go_simp; try rfl)) ?_; simp only [Act.put, List.setIfInBounds_toArray, List.set_cons_zero, List.set_cons_succ])
  clear c16 c33 hgs HRS HRD
  refine walkP_act rfl (by rfl) (fun K hK => ?_)
  go_simp
  refine (rtext_any f.s w5 HO.out.s HO.out.vs).mono ?_
  rintro e w6 ⟨rfl, hl⟩
  rw [← text_same]
  have z1 := textL_size (s := f.s)
  obtain ⟨s1, hs1⟩ : ∃ s, s = strD (textL f.s) := ⟨_, rfl⟩
  rw [show strL (textL f.s) = s1 from hs1.symm]
  rw [← hs1] at z1 HX
  clear hs1
  go_simp
  refine hK _ _ hl ?_
  clear hK K
  replace hL := hL.trans hl
  clear hl
  iterate 1 (refine walkP_read (v := _) rfl (by rfl) (by intro y hy; exact exec_cat (strD [91]) s1 1 56 57 (by decide) z1 rfl (by omega) rfl rfl y) ?_; simp only [Act.put, List.setIfInBounds_toArray, List.set_cons_zero, List.set_cons_succ])
  have z3 := sum_size (strD [91]) s1 1 56 57 (by decide) z1 rfl
  iterate 1 (refine walkP_read (v := _) rfl (by rfl) (by intro y hy; exact exec_cat (strD [91] ++ s1) (strD [93, 58]) 57 2 59 z3 (by decide) rfl (by omega) rfl rfl y) ?_; simp only [Act.put, List.setIfInBounds_toArray, List.set_cons_zero, List.set_cons_succ])
  have z4 := sum_size (strD [91] ++ s1) (strD [93, 58]) 57 2 59 z3 (by decide) rfl
  obtain ⟨s4, hs4⟩ : ∃ s, s = strD [91] ++ s1 ++ strD [93, 58] := ⟨_, rfl⟩
  rw [← hs4] at z4 HX ⊢
  clear hs4 z3
  refine walkP_act rfl (by rfl) (fun K hK => ?_)
  go_simp
  refine (rDigits_any f.sp w6 HO.out.sp).mono ?_
  rintro e w7 ⟨rfl, hl⟩
  have z2 := itoa_size HO.out.sp
  obtain ⟨s2, hs2⟩ : ∃ s, s = strD (Lib.itoa f.sp) := ⟨_, rfl⟩
  rw [← hs2] at z2 HX ⊢
  clear hs2
  go_simp
  refine hK _ _ hl ?_
  clear hK K
  replace hL := hL.trans hl
  clear hl
  iterate 1 (refine walkP_read (v := _) rfl (by rfl) (by intro y hy; exact exec_cat s4 s2 59 21 80 z4 z2 rfl (by omega) rfl rfl y) ?_; simp only [Act.put, List.setIfInBounds_toArray, List.set_cons_zero, List.set_cons_succ])
  have z5 := sum_size s4 s2 59 21 80 z4 z2 rfl
  iterate 1 (refine walkP_read (v := _) rfl (by rfl) (by intro y hy; exact exec_cat (s4 ++ s2) (strD [32, 62, 32, 91]) 80 4 84 z5 (by decide) rfl (by omega) rfl rfl y) ?_; simp only [Act.put, List.setIfInBounds_toArray, List.set_cons_zero, List.set_cons_succ])
  have z6 := sum_size (s4 ++ s2) (strD [32, 62, 32, 91]) 80 4 84 z5 (by decide) rfl
  obtain ⟨s6, hs6⟩ : ∃ s, s = s4 ++ s2 ++ strD [32, 62, 32, 91] := ⟨_, rfl⟩
  rw [← hs6] at z6 HX ⊢
  clear hs6 z5 z4 z2 z1
  refine walkP_act rfl (by rfl) (fun K hK => ?_)
  go_simp
  refine (rtext_any f.d w7 HO.out.d HO.out.vd).mono ?_
  rintro e w8 ⟨rfl, hl⟩
  rw [← text_same]
  have z1 := textL_size (s := f.d)
  obtain ⟨s7, hs7⟩ : ∃ s, s = strD (textL f.d) := ⟨_, rfl⟩
  rw [show strL (textL f.d) = s7 from hs7.symm]
  rw [← hs7] at z1 HX
  clear hs7
  go_simp
  refine hK _ _ hl ?_
  clear hK K
  replace hL := hL.trans hl
  clear hl
  iterate 1 (refine walkP_read (v := _) rfl (by rfl) (by intro y hy; exact exec_cat s6 s7 84 56 140 z6 z1 rfl (by omega) rfl rfl y) ?_; simp only [Act.put, List.setIfInBounds_toArray, List.set_cons_zero, List.set_cons_succ])
  have z3 := sum_size s6 s7 84 56 140 z6 z1 rfl
  iterate 1 (refine walkP_read (v := _) rfl (by rfl) (by intro y hy; exact exec_cat (s6 ++ s7) (strD [93, 58]) 140 2 142 z3 (by decide) rfl (by omega) rfl rfl y) ?_; simp only [Act.put, List.setIfInBounds_toArray, List.set_cons_zero, List.set_cons_succ])
  have z4 := sum_size (s6 ++ s7) (strD [93, 58]) 140 2 142 z3 (by decide) rfl
  obtain ⟨s8, hs8⟩ : ∃ s, s = s6 ++ s7 ++ strD [93, 58] := ⟨_, rfl⟩
  rw [← hs8] at z4 HX ⊢
  clear hs8 z3
  refine walkP_act rfl (by rfl) (fun K hK => ?_)
  go_simp
  refine (rDigits_any f.dp w8 HO.out.dp).mono ?_
  rintro e w9 ⟨rfl, hl⟩
  have z2 := itoa_size HO.out.dp
  obtain ⟨s9, hs9⟩ : ∃ s, s = strD (Lib.itoa f.dp) := ⟨_, rfl⟩
  rw [← hs9] at z2 HX ⊢
  clear hs9
  go_simp
  refine hK _ _ hl ?_
  clear hK K
  replace hL := hL.trans hl
  clear hl
  iterate 1 (refine walkP_read (v := _) rfl (by rfl) (by intro y hy; exact exec_cat s8 s9 142 21 163 z4 z2 rfl (by omega) rfl rfl y) ?_; simp only [Act.put, List.setIfInBounds_toArray, List.set_cons_zero, List.set_cons_succ])
  iterate 1 (refine walkP_read (v := _) rfl (by rfl) (by intro y hy; go_simp; try rfl) ?_; simp only [Act.put, List.setIfInBounds_toArray, List.set_cons_zero, List.set_cons_succ])
  unfold walkP
  clear z1 z2 z4 z6
  generalize s8 ++ s9 = s10 at *
  go_wp2_with fail
  go_ret
  exact ⟨congrArg (fun x => Ending.returned (.string x)) HX.out, hL⟩
end Go.Proofs.YtjafjapnmffohaaDoor

namespace Go.Proofs.YtjafjapnmffohaaDoor
open Go.RowKit
set_option linter.unusedVariables false

def exFd : List Int := [0, 0, 0, 0, 0, 0, 0, 0, 0, 0, 0, 0, 0, 0, 0, 1]
def exF : Fw := ⟨zero16, 1, exFd, 2⟩
theorem exF_ok : exF.ok := ⟨rfl, rfl, zero_all, fun x hx => by
  simp [exF, exFd] at hx
  omega, by simp [exF, i64ok], by simp [exF, i64ok]⟩
theorem exF_text : textF exF = [91, 58, 58, 93, 58, 49, 32, 62, 32, 91, 58, 58, 49, 93, 58, 50] := by
  have h1 : Lib.itoa 1 = [49] := by rw [show (1 : Int) = ((1 : Nat) : Int) from rfl, Lib.itoa_nonneg, Lib.decDigits_one (by omega)]; rfl
  have h2 : Lib.itoa 2 = [50] := by rw [show (2 : Int) = ((2 : Nat) : Int) from rfl, Lib.itoa_nonneg, Lib.decDigits_one (by omega)]; rfl
  have h3 : textL zero16 = [58, 58] := by decide +kernel
  have h4 : textL exFd = [58, 58, 49] := by decide +kernel
  unfold textF endT
  rw [show exF.s = zero16 from rfl, show exF.sp = 1 from rfl, show exF.d = exFd from rfl, show exF.dp = 2 from rfl, h1, h2, h3, h4]
  rfl
theorem exF_right : rightF exF = true := by decide
theorem exF_less : lessF zeroF exF = true := by decide
theorem run_build_exA (w : World) : (Instr.build 23 #[(15, .int .u8 1)]).run Tryd.prog w = .ok (.agg (cellsB exFd).toArray) w := by kernel_rfl
theorem run_build_exF (w : World) : (Instr.build 25 #[(1, .int .i64 1), (2, .agg (cellsB exFd).toArray), (3, .int .i64 2)]).run Tryd.prog w = .ok (.agg (fwC exF).toArray) w := by kernel_rfl
theorem run_build_exZ (w : World) : (Instr.build 25 #[]).run Tryd.prog w = .ok (.agg (fwC zeroF).toArray) w := by kernel_rfl
theorem run_field_exB (w : World) : (Instr.field 25 (.agg (fwC (backF exF)).toArray) 1).run Tryd.prog w = .ok (.int .i64 2) w := by kernel_rfl
section
variable {ops : Array Oper} {rest : List Oper} {o : Oper} {a : Act} {w : World} {Q : Exit → Act → World → Prop}
theorem wpList_build_exA (hgd : o.guard = none) (x : Operand) (ho : o.op = .build 23 #[(15, x)]) (q : List Int) (hq : q = exFd) (e : a.eval x = .int .u8 1)
    (hk : wpList Tryd.prog ops Q rest (a.put o.dst (.agg (cellsB q).toArray)) w) : wpList Tryd.prog ops Q (o :: rest) a w :=
  wpList_plain hgd fun K hK => by
    subst hq
    unfold Oper.wp execOp
    simp only [ho, List.map_toArray, List.map_cons, List.map_nil, e, Sem.run_bind, run_build_exA, Result.andThen_ok, Sem.run_pure]
    exact hK _ _ hk
theorem wpList_build_exF (hgd : o.guard = none) (x1 x2 x3 : Operand) (ho : o.op = .build 25 #[(1, x1), (2, x2), (3, x3)]) (q : List Int) (hq : q = exFd) (F : Fw) (hF : F = exF) (e1 : a.eval x1 = .int .i64 1) (e2 : a.eval x2 = .agg (cellsB q).toArray) (e3 : a.eval x3 = .int .i64 2)
    (hk : wpList Tryd.prog ops Q rest (a.put o.dst (.agg (fwC F).toArray)) w) : wpList Tryd.prog ops Q (o :: rest) a w :=
  wpList_plain hgd fun K hK => by
    subst hq hF
    unfold Oper.wp execOp
    simp only [ho, List.map_toArray, List.map_cons, List.map_nil, e1, e2, e3, Sem.run_bind, run_build_exF, Result.andThen_ok, Sem.run_pure]
    exact hK _ _ hk
theorem wpList_build_exZ_g (hw : Region.wanted o (yielded ops a.tmps) = true) (ho : o.op = .build 25 #[]) (Z : Fw) (hZ : Z = zeroF)
    (hk : wpList Tryd.prog ops Q rest (a.put o.dst (.agg (fwC Z).toArray)) w) : wpList Tryd.prog ops Q (o :: rest) a w :=
  wpList_step fun K hK => by
    subst hZ
    simp only [hw, if_true]
    unfold Oper.wp execOp
    simp only [ho, List.map_toArray, List.map_nil, Sem.run_bind, run_build_exZ, Result.andThen_ok, Sem.run_pure]
    exact hK _ _ hk
theorem wpList_field_exB_g (hw : Region.wanted o (yielded ops a.tmps) = true) (x : Operand) (ho : o.op = .field 25 x 1) (F : Fw) (hF : F = exF) (hx : a.eval x = .agg (fwC (backF F)).toArray)
    (hk : wpList Tryd.prog ops Q rest (a.put o.dst (.int .i64 2)) w) : wpList Tryd.prog ops Q (o :: rest) a w :=
  wpList_step fun K hK => by
    subst hF
    simp only [hw, if_true]
    unfold Oper.wp execOp
    simp only [ho, hx, Sem.run_bind, run_field_exB, Result.andThen_ok, Sem.run_pure]
    exact hK _ _ hk
end

set_option maxRecDepth 100000 in
set_option maxHeartbeats 3200000 in
theorem fllives_any (w : World) (hp : Pow10 w) (ht : LibT w) : Calls Tryd.prog 13 #[] w fun e w' => e = .returned (.bool true) ∧ Below w.heap.size w w' := by
  have HP := Lib.hid hp
  have HT := Lib.hid ht
  clear hp ht
  obtain ⟨F, hF⟩ : ∃ F, F = exF := ⟨_, rfl⟩
  obtain ⟨Z, hZ⟩ : ∃ Z, Z = zeroF := ⟨_, rfl⟩
  obtain ⟨q, hq⟩ : ∃ q, q = exFd := ⟨_, rfl⟩
  have HO := Lib.hid (hF ▸ exF_ok)
  have HZ := Lib.hid (hZ ▸ zeroF_ok)
  have HX := Lib.hid (hF ▸ exF_text)
  have HR := Lib.hid (hF ▸ exF_right)
  have HL := Lib.hid (hF ▸ hZ ▸ exF_less)
  replace hF := Lib.hid hF
  replace hZ := Lib.hid hZ
  replace hq := Lib.hid hq
  go_enter Tryd.func13, Tryd.ntmps13
  go_wp2_with (first
    | (with_reducible refine wpList_build_exA rfl _ rfl q hq.out rfl ?_)
    | (with_reducible refine wpList_build_exF rfl _ _ _ rfl q hq.out F hF.out rfl rfl rfl ?_)
    | ((with_reducible refine wpList_alloc_fw rfl rfl ?_); intro w1 HY hl1 hz1; refine Hid.out ?_))
  refine Lib.hid ?_
  replace HY := Lib.hid HY
  go_wp2_with ((with_reducible refine wpList_store_fw rfl (.tmp 1) (.tmp 3) rfl w.heap.size rfl F rfl zeroF HY.out rfl rfl HO.out.s HO.out.d ?_); intro w2 HB hb2 hz2 ho2; refine Hid.out ?_)
  refine Lib.hid ?_
  replace HB := Lib.hid HB
  have hL : Low w w2 := Below.trans hl1 hb2
  clear HY hl1 hz1 hb2 hz2 ho2
  generalize hG : w.heap.size = G at *
  go_wp2_with (with_reducible refine wpList_load_fw rfl (.tmp 1) rfl G rfl F HB.out HO.out.s HO.out.d ?_)
  have HC := Lib.hid (ftext_any F w2 HO.out (HP.out.low hL) (HT.out.low hL))
  rw [HX.out] at HC
  unfold strD fwV at HC
  refine HC.out.mono ?_
  rintro e w3 ⟨rfl, hl⟩
  clear HC
  replace HB := Lib.hid (HB.out.below hl HB.out.lt)
  replace hL := hL.trans hl
  clear hl
  go_wp2_with (with_reducible refine wpList_load_fw_g rfl (.tmp 1) rfl G rfl F HB.out HO.out.s HO.out.d ?_)
  refine (fback_any F w3 HO.out).mono ?_
  rintro e w4 ⟨rfl, hl⟩
  replace HB := Lib.hid (HB.out.below hl HB.out.lt)
  replace hL := hL.trans hl
  clear hl
  unfold fwV
  go_wp2_with (first
    | (with_reducible refine wpList_field_exB_g rfl _ rfl F hF.out rfl ?_)
    | (with_reducible refine wpList_load_fw_g rfl (.tmp 1) rfl G rfl F HB.out HO.out.s HO.out.d ?_))
  refine (right_any F w4 HO.out).mono ?_
  rintro e w5 ⟨rfl, hl⟩
  rw [HR.out]
  replace HB := Lib.hid (HB.out.below hl HB.out.lt)
  replace hL := hL.trans hl
  clear hl
  go_wp2_with (with_reducible refine wpList_load_fw_g rfl (.tmp 1) rfl G rfl F HB.out HO.out.s HO.out.d ?_)
  refine (fbytes_any F w5 HO.out).mono ?_
  rintro e w6 ⟨v, rfl, g3, rfl, hg3, hk3, hl3, ha3, hl⟩
  replace HB := Lib.hid (HB.out.below hl HB.out.lt)
  replace hL := hL.trans hl
  clear hl hk3 ha3 hl3 hg3
  go_wp2_with (first
    | (with_reducible refine wpList_build_exZ_g rfl rfl Z hZ.out ?_)
    | (with_reducible refine wpList_load_fw_g rfl (.tmp 1) rfl G rfl F HB.out HO.out.s HO.out.d ?_))
  refine (fless_ext Z F w6 HZ.out HO.out).mono ?_
  rintro e w7 ⟨rfl, hl⟩
  rw [HL.out]
  replace hL := hL.trans hl.low
  clear hl
  go_wp2_with fail
  go_ret
  exact ⟨rfl, hL⟩
end Go.Proofs.YtjafjapnmffohaaDoor
