/- Texts joined.
  The page's words on flows: their bytes, which of two comes first, flows in order; the order is total; lists in order are one. No program here.
  A flow by value and in memory: its cells, compared, loaded, stored; slices of flows. Condition: addresses are 16 bytes.
  What the document's own Back, Less and Bytes of flows tell. Conditions: addresses are 16 bytes, ports are ints.
  What the document's own Bytes of flows tells. Conditions: addresses are 16 bytes, ports are ints.
  What the program's own Back and Less of flows tell; a world that only draws and grows. Conditions: addresses are 16 bytes, ports are ints.
  What flow.Right and flow.Bytes tell. Conditions: addresses are 16 bytes, ports are ints.
-/
import Derived.Test.YtcfppidobenbfaaJAd
import Derived.Test.YtcfppidobenbfaaJOct
import Derived.Test.YtcfppidobenbfaaEl
import Derived.Test.YtcfppidobenbfaaJSx
import Derived.Test.YtcfppidobenbfaaApp
import Derived.Sort.Grow
import Derived.Deep.Draws
import Derived.Test.YtcfppidobenbfaaJCk
set_option maxRecDepth 100000
namespace Go.Proofs.Ytcfppidobenbfaa
open Go.RowKit
set_option linter.unusedVariables false

/-- a flow -/
structure Fw where
  s : List Int
  sp : Int
  d : List Int
  dp : Int
structure Fw.ok (f : Fw) : Prop where
  s : f.s.length = 16
  d : f.d.length = 16
  vs : AllB f.s
  vd : AllB f.d
  sp : i64ok f.sp
  dp : i64ok f.dp
def zeroF : Fw := ⟨zero16, 0, zero16, 0⟩
theorem zeroF_ok : zeroF.ok := ⟨rfl, rfl, zero_all, zero_all, by unfold i64ok; decide, by unfold i64ok; decide⟩
def backF (f : Fw) : Fw := ⟨f.d, f.dp, f.s, f.sp⟩
theorem backF_ok {f : Fw} (h : f.ok) : (backF f).ok := ⟨h.d, h.s, h.vd, h.vs, h.dp, h.sp⟩
def rightF (f : Fw) : Bool := decide (0 ≤ f.sp ∧ f.sp ≤ 65535 ∧ 0 ≤ f.dp ∧ f.dp ≤ 65535)
def bytesF (f : Fw) : List Int := f.s ++ two f.sp ++ f.d ++ two f.dp
theorem bytesF_len {f : Fw} (h : f.ok) : (bytesF f).length = 36 := by
  unfold bytesF two
  simp [h.s, h.d]
theorem bytesF_all {f : Fw} (h : f.ok) : AllB (bytesF f) := ((h.vs.append (two_all _)).append h.vd).append (two_all _)
/-- flows that may be have other bytes, if they are others -/
theorem two_one {x y : Int} (hx : 0 ≤ x ∧ x ≤ 65535) (hy : 0 ≤ y ∧ y ≤ 65535) (h : two x = two y) : x = y := by
  unfold two at h
  simp only [List.cons.injEq, and_true] at h
  omega
theorem bytesF_one {f g : Fw} (hf : f.ok) (hg : g.ok) (rf : rightF f = true) (rg : rightF g = true) (h : bytesF f = bytesF g) : f = g := by
  obtain ⟨a1, a2, a3, a4⟩ := of_decide_eq_true rf
  obtain ⟨b1, b2, b3, b4⟩ := of_decide_eq_true rg
  unfold bytesF at h
  simp only [List.append_assoc] at h
  obtain ⟨h1, h⟩ := List.append_inj h (by rw [hf.s, hg.s])
  obtain ⟨h2, h⟩ := List.append_inj h rfl
  obtain ⟨h3, h4⟩ := List.append_inj h (by rw [hf.d, hg.d])
  have e2 := two_one ⟨a1, a2⟩ ⟨b1, b2⟩ h2
  have e4 := two_one ⟨a3, a4⟩ ⟨b3, b4⟩ h4
  obtain ⟨fs, fp, fd, fq⟩ := f
  obtain ⟨gs, gp, gd, gq⟩ := g
  simp only at h1 h3 e2 e4
  subst h1 h3 e2 e4
  rfl

/-- the order of addresses is total -/
theorem lessL_irr : ∀ l : List Int, lessL l l = false
  | [] => rfl
  | x :: l => by rw [lessL, if_pos rfl, lessL_irr l]
theorem lessL_tri : ∀ {a b : List Int}, a.length = b.length → a ≠ b → (lessL a b = true ∧ lessL b a = false) ∨ (lessL a b = false ∧ lessL b a = true)
  | [], [], _, h => absurd rfl h
  | [], _ :: _, h, _ => by simp at h
  | _ :: _, [], h, _ => by simp at h
  | x :: a, y :: b, hl, h => by
    by_cases e : x = y
    · subst e
      rw [lessL, lessL, if_pos rfl, if_pos rfl]
      exact lessL_tri (by simpa using hl) fun e => h (by rw [e])
    · rw [lessL, lessL, if_neg e, if_neg (fun e' => e e'.symm)]
      by_cases hlt : x < y
      · exact .inl ⟨decide_eq_true hlt, decide_eq_false (by omega)⟩
      · exact .inr ⟨decide_eq_false hlt, decide_eq_true (by omega)⟩
theorem lessL_trans : ∀ {a b c : List Int}, lessL a b = true → lessL b c = true → lessL a c = true
  | [], b, c, h, _ => by cases b <;> simp [lessL] at h
  | _ :: _, [], c, h, _ => by simp [lessL] at h
  | _ :: _, _ :: _, [], _, h => by simp [lessL] at h
  | x :: a, y :: b, z :: c, h, k => by
    rw [lessL] at h k ⊢
    by_cases e : x = y
    · subst e
      rw [if_pos rfl] at h
      by_cases e2 : x = z
      · subst e2
        rw [if_pos rfl] at k ⊢
        exact lessL_trans h k
      · rw [if_neg e2] at k ⊢
        exact k
    · rw [if_neg e] at h
      have h1 := of_decide_eq_true h
      by_cases e2 : y = z
      · subst e2
        rw [if_neg e]
        exact h
      · rw [if_neg e2] at k
        have h2 := of_decide_eq_true k
        rw [if_neg (by omega)]
        exact decide_eq_true (by omega)

/-- does one come ahead of another? -/
def lessF (a b : Fw) : Bool :=
  if a.s = b.s then (if a.sp = b.sp then (if a.d = b.d then decide (a.dp < b.dp) else lessL a.d b.d) else decide (a.sp < b.sp)) else lessL a.s b.s
theorem lessF_irr (a : Fw) : lessF a a = false := by
  unfold lessF
  rw [if_pos rfl, if_pos rfl, if_pos rfl]
  exact decide_eq_false (by omega)
theorem lessF_tri {a b : Fw} (ha : a.ok) (hb : b.ok) (h : a ≠ b) : (lessF a b = true ∧ lessF b a = false) ∨ (lessF a b = false ∧ lessF b a = true) := by
  unfold lessF
  by_cases e1 : a.s = b.s
  · rw [if_pos e1, if_pos e1.symm]
    by_cases e2 : a.sp = b.sp
    · rw [if_pos e2, if_pos e2.symm]
      by_cases e3 : a.d = b.d
      · rw [if_pos e3, if_pos e3.symm]
        have e4 : a.dp ≠ b.dp := fun e4 => h (by
          obtain ⟨x1, x2, x3, x4⟩ := a
          obtain ⟨y1, y2, y3, y4⟩ := b
          simp only at e1 e2 e3 e4
          subst e1 e2 e3 e4
          rfl)
        by_cases hlt : a.dp < b.dp
        · exact .inl ⟨decide_eq_true hlt, decide_eq_false (by omega)⟩
        · exact .inr ⟨decide_eq_false hlt, decide_eq_true (by omega)⟩
      · rw [if_neg e3, if_neg (fun e => e3 e.symm)]
        exact lessL_tri (by rw [ha.d, hb.d]) e3
    · rw [if_neg e2, if_neg (fun e => e2 e.symm)]
      by_cases hlt : a.sp < b.sp
      · exact .inl ⟨decide_eq_true hlt, decide_eq_false (by omega)⟩
      · exact .inr ⟨decide_eq_false hlt, decide_eq_true (by omega)⟩
  · rw [if_neg e1, if_neg (fun e => e1 e.symm)]
    exact lessL_tri (by rw [ha.s, hb.s]) e1
theorem lessF_trans {a b c : Fw} (h : lessF a b = true) (k : lessF b c = true) : lessF a c = true := by
  unfold lessF at h k ⊢
  by_cases e1 : a.s = b.s
  · rw [if_pos e1] at h
    by_cases f1 : b.s = c.s
    · rw [if_pos f1] at k
      rw [if_pos (e1.trans f1)]
      by_cases e2 : a.sp = b.sp
      · rw [if_pos e2] at h
        by_cases f2 : b.sp = c.sp
        · rw [if_pos f2] at k
          rw [if_pos (e2.trans f2)]
          by_cases e3 : a.d = b.d
          · rw [if_pos e3] at h
            by_cases f3 : b.d = c.d
            · rw [if_pos f3] at k
              rw [if_pos (e3.trans f3)]
              have h1 := of_decide_eq_true h
              have h2 := of_decide_eq_true k
              exact decide_eq_true (by omega)
            · rw [if_neg f3] at k
              rw [if_neg (by rw [e3]; exact f3), e3]
              exact k
          · rw [if_neg e3] at h
            by_cases f3 : b.d = c.d
            · rw [← f3, if_neg e3]
              exact h
            · rw [if_neg f3] at k
              have ht := lessL_trans h k
              rw [if_neg (fun e => by rw [e, lessL_irr] at ht; exact absurd ht (by decide))]
              exact ht
        · rw [if_neg f2] at k
          rw [if_neg (by omega), e2]
          exact k
      · rw [if_neg e2] at h
        have h1 := of_decide_eq_true h
        by_cases f2 : b.sp = c.sp
        · rw [if_neg (by omega)]
          exact decide_eq_true (by omega)
        · rw [if_neg f2] at k
          have h2 := of_decide_eq_true k
          rw [if_neg (by omega)]
          exact decide_eq_true (by omega)
    · rw [if_neg f1] at k
      rw [if_neg (by rw [e1]; exact f1), e1]
      exact k
  · rw [if_neg e1] at h
    by_cases f1 : b.s = c.s
    · rw [← f1, if_neg e1]
      exact h
    · rw [if_neg f1] at k
      have ht := lessL_trans h k
      rw [if_neg (fun e => by rw [e, lessL_irr] at ht; exact absurd ht (by decide))]
      exact ht

/-- flows in order, each once -/
def Ordered (l : List Fw) : Prop := l.Pairwise fun a b => lessF a b = true
def SortsF (l out : List Fw) : Prop := (∀ x, x ∈ out ↔ x ∈ l) ∧ Ordered out
theorem Ordered.one : ∀ {a b : List Fw}, Ordered a → Ordered b → (∀ x, x ∈ a ↔ x ∈ b) → a = b
  | [], [], _, _, _ => rfl
  | [], y :: b, _, _, h => absurd ((h y).2 List.mem_cons_self) (by simp)
  | x :: a, [], _, _, h => absurd ((h x).1 List.mem_cons_self) (by simp)
  | x :: a, y :: b, ha, hb, h => by
    obtain ⟨ha1, ha2⟩ := List.pairwise_cons.1 ha
    obtain ⟨hb1, hb2⟩ := List.pairwise_cons.1 hb
    have hxy : x = y := by
      rcases List.mem_cons.1 ((h x).1 List.mem_cons_self) with e | hx
      · exact e
      · rcases List.mem_cons.1 ((h y).2 List.mem_cons_self) with e | hy
        · exact e.symm
        · have t := lessF_trans (hb1 x hx) (ha1 y hy)
          rw [lessF_irr] at t
          exact absurd t (by decide)
    subst hxy
    have hs : ∀ z, z ∈ a ↔ z ∈ b := fun z => by
      constructor
      · intro hz
        rcases List.mem_cons.1 ((h z).1 (List.mem_cons_of_mem _ hz)) with e | hz2
        · subst e
          have t := ha1 z hz
          rw [lessF_irr] at t
          exact absurd t (by decide)
        · exact hz2
      · intro hz
        rcases List.mem_cons.1 ((h z).2 (List.mem_cons_of_mem _ hz)) with e | hz2
        · subst e
          have t := hb1 z hz
          rw [lessF_irr] at t
          exact absurd t (by decide)
        · exact hz2
    rw [Ordered.one ha2 hb2 hs]
theorem SortsF.one {l a b : List Fw} (ha : SortsF l a) (hb : SortsF l b) : a = b := Ordered.one ha.2 hb.2 fun x => (ha.1 x).trans (hb.1 x).symm
end Go.Proofs.Ytcfppidobenbfaa

namespace Go.Proofs.Ytcfppidobenbfaa
open Go.RowKit
set_option linter.unusedVariables false

def fwC (f : Fw) : List Value := cellsB f.s ++ (.int .i64 f.sp :: (cellsB f.d ++ [.int .i64 f.dp]))
def fwV (f : Fw) : Value := .agg (fwC f).toArray
theorem fwC_length {f : Fw} (hs : f.s.length = 16) (hd : f.d.length = 16) : (fwC f).length = 34 := by simp [fwC, cellsB_length, hs, hd]
theorem fwC_one (f : Fw) : ∀ u ∈ fwC f, u.oneCell' = true := by
  intro u hu
  unfold fwC at hu
  simp only [List.mem_cons, List.mem_append, List.not_mem_nil, or_false] at hu
  rcases hu with hu | rfl | hu | rfl
  · exact cellsB_one f.s u hu
  · rfl
  · exact cellsB_one f.d u hu
  · rfl
theorem flow_size : (Try.prog.info? 35).map (·.size) = some 34 := by kernel_rfl
theorem flow_zero : (Try.prog.info? 35).map (·.zero) = some (some (.agg (fwC zeroF).toArray)) := by kernel_rfl
theorem info_flow : (Try.prog.info? 35).map (fun i => (i.zero, i.size, i.bytes)) = some (some (fwV zeroF), 34, 48) := by kernel_rfl
/-- flows as elements -/
def fwE : Elt Fw where
  cells := fwC
  ok := Fw.ok
  k := 34
  pos := by omega
  len := fun f h => fwC_length h.s h.d
  one := fwC_one
  zero := zeroF
  zok := zeroF_ok

/-- flows are compared -/
def eqFw (a b : Fw) : Bool := a.s == b.s && a.sp == b.sp && a.d == b.d && a.dp == b.dp
theorem eqFw_refl (a : Fw) : eqFw a a = true := by simp [eqFw]
theorem eqFw_iff (a b : Fw) : eqFw a b = true ↔ a = b := by
  obtain ⟨x1, x2, x3, x4⟩ := a
  obtain ⟨y1, y2, y3, y4⟩ := b
  simp [eqFw, and_assoc]
theorem fpart_s (f : Fw) (hs : f.s.length = 16) (w : World) : (part 33 (fwC f).toArray 0).run Try.prog w = .ok (.agg (cellsB f.s).toArray) w := by
  obtain ⟨i, hi, hz⟩ := info_sized addr_size
  simp only [part, isAgg, run_underlying Try.underlying33, sizeOf, typeInfo, Sem.run_bind, run_program, hi, hz, fwC, Result.andThen_ok, Sem.run_pure, if_true]
  congr 2
  simp [cellsB_length, hs]
theorem fpart_d (f : Fw) (hs : f.s.length = 16) (hd : f.d.length = 16) (w : World) : (part 33 (fwC f).toArray 17).run Try.prog w = .ok (.agg (cellsB f.d).toArray) w := by
  obtain ⟨i, hi, hz⟩ := info_sized addr_size
  simp only [part, isAgg, run_underlying Try.underlying33, sizeOf, typeInfo, Sem.run_bind, run_program, hi, hz, fwC, Result.andThen_ok, Sem.run_pure, if_true]
  congr 2
  simp [cellsB_length, hs, List.drop_append]
  rw [List.drop_eq_nil_of_le (by rw [cellsB_length]; omega), List.nil_append, List.take_append_of_le_length (by rw [cellsB_length]; omega)]
  exact List.take_of_length_le (by rw [cellsB_length]; omega)
theorem fwC_sp (f : Fw) (hs : f.s.length = 16) : (fwC f)[16]? = some (.int .i64 f.sp) := by
  unfold fwC
  rw [List.getElem?_append_right (by rw [cellsB_length]; omega), cellsB_length, hs]
  rfl
theorem fwC_dp (f : Fw) (hs : f.s.length = 16) (hd : f.d.length = 16) : (fwC f)[33]? = some (.int .i64 f.dp) := by
  unfold fwC
  rw [List.getElem?_append_right (by rw [cellsB_length]; omega), cellsB_length, hs, show 33 - 16 = 16 + 1 by omega, List.getElem?_cons_succ, List.getElem?_append_right (by rw [cellsB_length]; omega), cellsB_length, hd]
  rfl
theorem fpart_sp (f : Fw) (hs : f.s.length = 16) (w : World) : (part 3 (fwC f).toArray 16).run Try.prog w = .ok (.int .i64 f.sp) w := part_int (fwC f).toArray 16 _ (by rw [List.getElem?_toArray]; exact fwC_sp f hs) w
theorem fpart_dp (f : Fw) (hs : f.s.length = 16) (hd : f.d.length = 16) (w : World) : (part 3 (fwC f).toArray 33).run Try.prog w = .ok (.int .i64 f.dp) w := part_int (fwC f).toArray 33 _ (by rw [List.getElem?_toArray]; exact fwC_dp f hs hd) w
theorem eq_flow (a b : Fw) (ha : a.s.length = 16) (ha2 : a.d.length = 16) (hb : b.s.length = 16) (hb2 : b.d.length = 16) (w : World) :
    (Op.equalIn 10000 35 (.agg (fwC a).toArray) (.agg (fwC b).toArray)).run Try.prog w = .ok (eqFw a b) w := by
  rw [run_equalIn_struct w 9999 35 _ _ (by simp only [Program.fieldsOf, Try.underlying35]) (by kernel_rfl)]
  simp only [Program.fieldsOf, Try.underlying35]
  rw [eqFields_step (by simp) (fpart_s a ha w) (fpart_s b hb w) (eq_addr9 _ _ ha hb w),
    eqFields_step (by simp) (fpart_sp a ha w) (fpart_sp b hb w) (eq_int a.sp b.sp w),
    eqFields_step (by simp) (fpart_d a ha ha2 w) (fpart_d b hb hb2 w) (eq_addr9 _ _ ha2 hb2 w),
    eqFields_step (by simp) (fpart_dp a ha ha2 w) (fpart_dp b hb hb2 w) (eq_int a.dp b.dp w)]
  unfold eqFw
  simp only [Op.eqFields, Sem.run_pure]
  generalize (a.s == b.s) = x1
  generalize (a.sp == b.sp) = x2
  generalize (a.d == b.d) = x3
  generalize (a.dp == b.dp) = x4
  cases x1 <;> cases x2 <;> cases x3 <;> cases x4 <;> rfl

/-- block g is just the flow f -/
abbrev BlkF (w : World) (g : Nat) (f : Fw) : Prop := BlkV w 35 g (fwC f)
section
variable {w : World} {g : Nat} {f : Fw} (hb : BlkF w g f) (hs : f.s.length = 16) (hd : f.d.length = 16)
include hb
theorem BlkF.src : w.rangeAt g 0 (cellsB f.s) := fun j v hv => by
  rw [BlkV.cell hb (0 + j), Nat.zero_add, fwC, List.getElem?_append_left (List.getElem?_eq_some_iff.1 hv).1, hv]
theorem BlkF.dst (hs : f.s.length = 16) : w.rangeAt g 17 (cellsB f.d) := fun j v hv => by
  have hj := (List.getElem?_eq_some_iff.1 hv).1
  rw [BlkV.cell hb (17 + j), fwC, List.getElem?_append_right (by rw [cellsB_length]; omega), cellsB_length, hs, show 17 + j - 16 = j + 1 by omega, List.getElem?_cons_succ, List.getElem?_append_left hj, hv]
theorem BlkF.sp (hs : f.s.length = 16) : w.cell? ⟨g, 16, none⟩ = some (.int .i64 f.sp) := (BlkV.cell hb 16).trans (fwC_sp f hs)
theorem BlkF.dp (hs : f.s.length = 16) (hd : f.d.length = 16) : w.cell? ⟨g, 33, none⟩ = some (.int .i64 f.dp) := (BlkV.cell hb 33).trans (fwC_dp f hs hd)
end
section
variable {ops : Array Oper} {rest : List Oper} {o : Oper} {a : Act} {w : World} {Q : Exit → Act → World → Prop}
theorem wpList_box_fw (hgd : o.guard = none) (x : Operand) (ho : o.op = .box 35 x) (f : Fw) (hx : a.eval x = .agg (fwC f).toArray)
    (hk : ∀ w', BlkF w' w.heap.size f → Low w w' → w'.heap.size = w.heap.size + 1 → wpList Try.prog ops Q rest (a.put o.dst (.pointer (some ⟨w.heap.size, 0, none⟩))) w') : wpList Try.prog ops Q (o :: rest) a w :=
  wpList_box_v hgd 35 x ho (fwC f) hx hk
theorem wpList_alloc_fw (hgd : o.guard = none) (ho : o.op = .alloc 35)
    (hk : ∀ w', BlkF w' w.heap.size zeroF → Low w w' → w'.heap.size = w.heap.size + 1 → wpList Try.prog ops Q rest (a.put o.dst (.pointer (some ⟨w.heap.size, 0, none⟩))) w') : wpList Try.prog ops Q (o :: rest) a w :=
  wpList_alloc_v hgd 35 ho (fwC zeroF) flow_zero hk
theorem wpList_load_fw (hgd : o.guard = none) (x : Operand) (ho : o.op = .load 35 x) (g : Nat) (hx : a.eval x = .pointer (some ⟨g, 0, none⟩)) (f : Fw) (hb : BlkF w g f) (hs : f.s.length = 16) (hd : f.d.length = 16)
    (hk : wpList Try.prog ops Q rest (a.put o.dst (.agg (fwC f).toArray)) w) : wpList Try.prog ops Q (o :: rest) a w :=
  wpList_load_row hgd 35 x ho g hx _ (fwC f).toArray (0, 0) _ hb Try.underlying35 rfl (by rw [flow_size]; simp [fwC_length hs hd]) hk
theorem wpList_load_fw_g (hw : Region.wanted o (yielded ops a.tmps) = true) (x : Operand) (ho : o.op = .load 35 x) (g : Nat) (hx : a.eval x = .pointer (some ⟨g, 0, none⟩)) (f : Fw) (hb : BlkF w g f) (hs : f.s.length = 16) (hd : f.d.length = 16)
    (hk : wpList Try.prog ops Q rest (a.put o.dst (.agg (fwC f).toArray)) w) : wpList Try.prog ops Q (o :: rest) a w :=
  wpList_step fun K hK => by
    simp only [hw, if_true]
    exact wp_load_row 35 x ho g hx _ (fwC f).toArray (0, 0) _ hb Try.underlying35 rfl (by rw [flow_size]; simp [fwC_length hs hd]) (hK _ _ hk)
/-- one flow of a row is read -/
theorem wpList_load_fwat (hgd : o.guard = none) (x : Operand) (ho : o.op = .load 35 x) (b p : Nat) (hx : a.eval x = .pointer (some ⟨b, p, none⟩)) (f : Fw) (hs : f.s.length = 16) (hd : f.d.length = 16) (hc : w.rangeAt b p (fwC f))
    (hk : wpList Try.prog ops Q rest (a.put o.dst (.agg (fwC f).toArray)) w) : wpList Try.prog ops Q (o :: rest) a w :=
  wpList_load_mid hgd 35 x ho b p hx (fwC f) _ hc Try.underlying35 rfl (by rw [flow_size]; simp [fwC_length hs hd]) hk
/-- a whole flow is stored; what lies in other blocks stays -/
theorem wpList_store_fw (hgd : o.guard = none) (x y : Operand) (ho : o.op = .store 35 x y) (g : Nat) (hx : a.eval x = .pointer (some ⟨g, 0, none⟩)) (f : Fw) (hy : a.eval y = .agg (fwC f).toArray) (old : Fw) (hb : BlkF w g old)
    (hos : old.s.length = 16) (hod : old.d.length = 16) (hs : f.s.length = 16) (hd : f.d.length = 16)
    (hk : ∀ w', BlkF w' g f → Below g w w' → w'.heap.size = w.heap.size → (∀ k : Nat, k ≠ g → w'.heap[k]? = w.heap[k]?) → wpList Try.prog ops Q rest (a.put o.dst undef) w') : wpList Try.prog ops Q (o :: rest) a w :=
  wpList_store_row hgd 35 x y ho g _ hx hy _ _ hb (by rw [flow_size]; simp [fwC_length hs hd]) (by simp [fwC_length hs hd, fwC_length hos hod])
    (by rw [Array.all_eq_true_iff_forall_mem]; intro v hv; exact fwC_one f v (by simpa using hv)) (hk _ (BlkV.setRow hb _) (low_setRow _ _ _ (Nat.le_refl _)) (by simp) (fun k hk => by simp [World.setRow, Array.getElem?_modify, Ne.symm hk]))
end
theorem exec_load_fw {f : Operand → Value} {dd : Option Tmp} {x : Operand} {ty : TypeId} {pos : String} {gd : Option (Nat × Bool)} {w : World} {g : Nat} {h : Fw} (hx : f x = .pointer (some ⟨g, 0, none⟩)) (hb : BlkF w g h) (hs : h.s.length = 16) (hd : h.d.length = 16) :
    (execOp f ⟨dd, .load 35 x, ty, pos, #[], gd⟩).run Try.prog w = .ok (.value (.agg (fwC h).toArray)) w := by
  unfold execOp
  simp only [hx, Instr.loadAt, Instr.sureAddr, Sem.run_bind, Sem.run_pure, Result.andThen_ok, run_loadVar_row w g 35 35 (fwC h).toArray _ _ hb Try.underlying35 rfl (by rw [flow_size]; simp [fwC_length hs hd])]
end Go.Proofs.Ytcfppidobenbfaa

namespace Go.Proofs.Ytcfppidobenbfaa
open Go.RowKit
set_option linter.unusedVariables false

theorem results_cell1F {P : Program} {fn : Func} {p : Tmp} {ty : TypeId} (h : fn.results = #[.cell p ty]) (tmps : Array Value) (w : World) (g : Nat) (t : TypeId) (cs : Array Value) (fr : Nat × Nat) (d : TypeDesc)
    (hp : tmps.getD p undef = .pointer (some ⟨g, 0, none⟩)) (hg : w.heap[g]? = some (.cells cs t fr))
    (hu : P.underlying ty = some d) (hd : (match d with | .struct _ | .array _ _ => true | _ => false) = true) (hi : (P.info? ty).map (·.size) = some cs.size) :
    (results fn tmps).run P w = .ok (.agg cs) w := by
  have hp' : tmps[p]?.getD undef = .pointer (some ⟨g, 0, none⟩) := by simpa using hp
  simp [results, h, hp', asAddr, run_loadVar_row w g t ty cs fr d hg hu hd hi]
theorem ret_fw {fn : Func} {p : Tmp} {R : Ending → World → Prop} {tmps : Array Value} {df : List Deferred} {w : World} {g : Nat} {f : Fw} (hfn : fn.results = #[.cell p 35]) (hp : tmps.getD p undef = .pointer (some ⟨g, 0, none⟩))
    (hb : BlkF w g f) (hs : f.s.length = 16) (hd : f.d.length = 16) (hR : R (.returned (fwV f)) w) (hdf : df = []) : bodyPost Try.prog fn R .ret ⟨tmps, df⟩ w :=
  bodyPost_ret (results_cell1F hfn tmps w g _ _ _ _ hp hb Try.underlying35 rfl (by rw [flow_size]; simp [fwC_length hs hd])) hdf hR
theorem run_build_fwK (p q s0 s1 s2 s3 s4 s5 s6 s7 s8 s9 s10 s11 s12 s13 s14 s15 d0 d1 d2 d3 d4 d5 d6 d7 d8 d9 d10 d11 d12 d13 d14 d15 : Int) (w : World) :
    (Instr.build 35 #[(0, .agg (cellsB [s0, s1, s2, s3, s4, s5, s6, s7, s8, s9, s10, s11, s12, s13, s14, s15]).toArray), (1, .int .i64 p), (2, .agg (cellsB [d0, d1, d2, d3, d4, d5, d6, d7, d8, d9, d10, d11, d12, d13, d14, d15]).toArray), (3, .int .i64 q)]).run Try.prog w = .ok (.agg (fwC ⟨[s0, s1, s2, s3, s4, s5, s6, s7, s8, s9, s10, s11, s12, s13, s14, s15], p, [d0, d1, d2, d3, d4, d5, d6, d7, d8, d9, d10, d11, d12, d13, d14, d15], q⟩).toArray) w := by kernel_rfl
theorem list16F (s : List Int) (h : s.length = 16) : ∃ s0 s1 s2 s3 s4 s5 s6 s7 s8 s9 s10 s11 s12 s13 s14 s15 : Int, s = [s0, s1, s2, s3, s4, s5, s6, s7, s8, s9, s10, s11, s12, s13, s14, s15] := by
  match s, h with
  | [s0, s1, s2, s3, s4, s5, s6, s7, s8, s9, s10, s11, s12, s13, s14, s15], _ => exact ⟨_, _, _, _, _, _, _, _, _, _, _, _, _, _, _, _, rfl⟩
theorem run_build_fw (s d : List Int) (p q : Int) (hs : s.length = 16) (hd : d.length = 16) (w : World) :
    (Instr.build 35 #[(0, .agg (cellsB s).toArray), (1, .int .i64 p), (2, .agg (cellsB d).toArray), (3, .int .i64 q)]).run Try.prog w = .ok (.agg (fwC ⟨s, p, d, q⟩).toArray) w := by
  obtain ⟨s0, s1, s2, s3, s4, s5, s6, s7, s8, s9, s10, s11, s12, s13, s14, s15, rfl⟩ := list16F s hs
  obtain ⟨d0, d1, d2, d3, d4, d5, d6, d7, d8, d9, d10, d11, d12, d13, d14, d15, rfl⟩ := list16F d hd
  exact run_build_fwK _ _ _ _ _ _ _ _ _ _ _ _ _ _ _ _ _ _ _ _ _ _ _ _ _ _ _ _ _ _ _ _ _ _ w
theorem wpList_build_fw {ops : Array Oper} {rest : List Oper} {o : Oper} {a : Act} {w : World} {Q : Exit → Act → World → Prop} (hgd : o.guard = none) (x0 x1 x2 x3 : Operand) (ho : o.op = .build 35 #[(0, x0), (1, x1), (2, x2), (3, x3)])
    (s d : List Int) (p q : Int) (e0 : a.eval x0 = .agg (cellsB s).toArray) (e1 : a.eval x1 = .int .i64 p) (e2 : a.eval x2 = .agg (cellsB d).toArray) (e3 : a.eval x3 = .int .i64 q) (hs : s.length = 16) (hd : d.length = 16)
    (hk : wpList Try.prog ops Q rest (a.put o.dst (.agg (fwC ⟨s, p, d, q⟩).toArray)) w) : wpList Try.prog ops Q (o :: rest) a w :=
  wpList_plain hgd fun K hK => by
    unfold Oper.wp execOp
    simp only [ho, List.map_toArray, List.map_cons, List.map_nil, e0, e1, e2, e3, Sem.run_bind, run_build_fw s d p q hs hd, Result.andThen_ok, Sem.run_pure]
    exact hK _ _ hk
theorem wpList_load_atF {ops : Array Oper} {rest : List Oper} {o : Oper} {a : Act} {w : World} {Q : Exit → Act → World → Prop} (hgd : o.guard = none) (x : Operand) (ho : o.op = .load 33 x) (b p : Nat) (hx : a.eval x = .pointer (some ⟨b, p, none⟩)) (s : List Int) (hs : s.length = 16) (hc : w.rangeAt b p (cellsB s))
    (hk : wpList Try.prog ops Q rest (a.put o.dst (.agg (cellsB s).toArray)) w) : wpList Try.prog ops Q (o :: rest) a w :=
  wpList_load_mid hgd 33 x ho b p hx (cellsB s) _ hc Try.underlying33 rfl (by rw [addr_size]; simp [cellsB_length, hs]) hk

end Go.Proofs.Ytcfppidobenbfaa

namespace Go.Proofs.Ytcfppidobenbfaa
open Go.RowKit
set_option linter.unusedVariables false

/-- bytes of the call's own handed back -/
def GivesFl (w : World) (ys : List Int) (e : Ending) (w' : World) : Prop := ∃ A c, e = .returned (.slice A ys.length c) ∧ OwnB 5 w' w.heap.size A ys.length c ys ∧ Below w.heap.size w w'
theorem take_oneF {l : List Int} {k : Nat} (h : k < l.length) : l.take (k + 1) = l.take k ++ [l.getD k 0] := by
  rw [List.take_succ_eq_append_getElem h]
  simp [List.getD, h]
theorem fwC_at_s {f : Fw} {k : Nat} (hs : f.s.length = 16) (h : k < 16) : (fwC f)[k]? = some (.int .u8 (f.s.getD k 0)) := by
  unfold fwC
  rw [List.getElem?_append_left (by rw [cellsB_length]; omega), cellsB_get (by omega)]
theorem fwC_at_d {f : Fw} {k : Nat} (hs : f.s.length = 16) (hd : f.d.length = 16) (h : k < 16) : (fwC f)[17 + k]? = some (.int .u8 (f.d.getD k 0)) := by
  unfold fwC
  rw [List.getElem?_append_right (by rw [cellsB_length]; omega), cellsB_length, hs, show 17 + k - 16 = k + 1 by omega, List.getElem?_cons_succ, List.getElem?_append_left (by rw [cellsB_length]; omega), cellsB_get (by omega)]

theorem OwnB.lowerF {t : TypeId} {w : World} {base base' n c : Nat} {A : Option Addr} {ys : List Int} (h : OwnB t w base A n c ys) (hb : base' ≤ base) : OwnB t w base' A n c ys :=
  ⟨⟨h.1.1, h.1.2.imp id fun ⟨g, cap, cur, e, hbg, r⟩ => ⟨g, cap, cur, e, Nat.le_trans hb hbg, r⟩⟩, h.2⟩
theorem BlkV.grownF {w w' : World} {t : TypeId} {g : Nat} {vs : List Value} {row : Option Nat} (h : BlkV w t g vs) (hg : w.grownBy w' row) (hr : ∀ j, row = some j → g ≠ j) : BlkV w' t g vs :=
  (hg.block g h.lt (fun e => hr g e.symm rfl)).trans h

set_option maxRecDepth 100000 in
set_option maxHeartbeats 3200000 in
theorem rfbytes_any (f : Fw) (w : World) (hf : f.ok) :
    Calls Try.prog 22 #[fwV f] w (GivesFl w (bytesF f)) := by
  unfold fwV
  obtain ⟨i0, hi, hz0, hz1, hz2⟩ := info_parts info5
  have HI := Lib.hid hi
  have HZ0 := Lib.hid hz0
  have HZ1 := Lib.hid hz1
  have HZ2 := Lib.hid hz2
  have HF := Lib.hid hf
  have HBL := Lib.hid (bytesF_len hf)
  have HBE := Lib.hid (show bytesF f = f.s ++ two f.sp ++ f.d ++ two f.dp from rfl)
  clear hi hz0 hz1 hz2 hf
  go_enter Try.func22, Try.ntmps22
  go_wp2_with ((with_reducible refine wpList_box_fw rfl (.tmp 0) rfl f rfl ?_); intro w1 HB hL hz1; refine Hid.out ?_)
  refine Lib.hid ?_
  replace HB := Lib.hid HB
  go_wp2_with fail
  go_loopw [3, 4] (fun v3 v4 wr => ∃ (k : Nat) (A : Option Addr) (c : Nat), k ≤ 16 ∧ v4 = .int .i64 k ∧ v3 = .slice A k c ∧ Hid (OwnB 5 wr (w.heap.size + 1) A k c (f.s.take k)) ∧ Hid (BlkF wr w.heap.size f) ∧ Hid (w.heap.size + 1 ≤ wr.heap.size) ∧ Below w.heap.size w wr) (fun _ v4 _ => 16 - (intOf v4).toNat)
  case atStart => exact ⟨0, none, 0, by omega, rfl, rfl, Lib.hid (OwnB.none_ _ _ _), HB, Lib.hid (by omega), hL⟩
  case round =>
    clear HB hL hz1
    obtain ⟨k, A, c, hk, rfl, rfl, HO, HB, HSZ, hL⟩ := hrel
    by_cases hlt : k < 16
    · have c1 := (BlkV.cell HB.out k).trans (fwC_at_s HF.out.s hlt)
      have va := HF.out.vs.getD k
      have HT := Lib.hid (take_oneF (l := f.s) (k := k) (by rw [HF.out.s]; exact hlt))
      obtain ⟨x, hx⟩ : ∃ x, x = f.s.getD k 0 := ⟨_, rfl⟩
      rw [← hx] at c1 va HT
      clear hx
      have hlA := Low.alloc wr (.cells #[.int .u8 x] 5)
      have hsA : (wr.alloc (.cells #[.int .u8 x] 5)).heap.size = wr.heap.size + 1 := by simp
      have hkA : Blk (wr.alloc (.cells #[.int .u8 x] 5)) 5 wr.heap.size [x] := Blk.new wr 5 [x]
      have hbA := hkA.bs (n := 1) (.cons va.1 va.2 .nil) hkA.lt rfl
      have hO3 := HO.out.below hlA
      have hB3 := hL.trans (hlA.mono hL.size)
      have HB3 : Hid (BlkF (wr.alloc (.cells #[.int .u8 x] 5)) w.heap.size f) := Lib.hid (HB.out.below hlA HB.out.lt)
      have hz := HSZ.out
      clear hkA hlA
      go_wp2_with (at_builtin; refine wpList_append_bs rfl (.tmp 10) (.tmp 15) _ rfl (w.heap.size + 1) 5 i0 Try.underlying25 HI.out HZ0.out HZ1.out HZ2.out _ k c (f.s.take k) rfl hO3 _ 1 _ _ [x] rfl hbA (by omega) (by omega) ?_; intro A2 c2 w2 hown hgr hob)
      have hL2 : Below w.heap.size w w2 := hB3.grown hgr (by omega) (fun j hj => by have := (hO3.lt j hj).1; omega)
      have HB2 : Hid (BlkF w2 w.heap.size f) := Lib.hid (BlkV.grownF HB3.out hgr (fun j hj => by have := (hO3.lt j hj).1; omega))
      have HO2 : Hid (OwnB 5 w2 (w.heap.size + 1) A2 (k + 1) c2 (f.s.take (k + 1))) := Lib.hid (by rw [HT.out]; exact hown)
      have HSZ2 : Hid (w.heap.size + 1 ≤ w2.heap.size) := Lib.hid (by have := HB2.out.lt; omega)
      clear hown hgr hob hO3 hB3 HB3 hbA hsA
      go_roundw
      case rel =>
        first
        | exact ⟨k + 1, A2, c2, by omega, by go_num, rfl, HO2, HB2, HSZ2, hL2⟩
        | ((repeat apply Exists.intro); refine ⟨?_, rfl⟩; exact ⟨k + 1, A2, c2, by omega, by go_num, rfl, HO2, HB2, HSZ2, hL2⟩)
      case measure => simp [intOf]; omega
    · obtain rfl : k = 16 := by omega
      have hO := HO.out
      rw [List.take_of_length_le (by rw [HF.out.s]; omega)] at hO
      have c16 := BlkF.sp HB.out HF.out.s
      have hz := HSZ.out
      go_wp2_with fail
      refine (rtwo_any f.sp wr HF.out.sp).mono ?_
      rintro e w2 ⟨v, rfl, g5, rfl, hg5, hk5, hl5, ha5, hl⟩
      have hl2 : Low wr w2 := hl
      have hb5 := hk5.bs (n := 2) ha5 hk5.lt hl5
      have hO2 := hO.below hl2
      have HB2 : Hid (BlkF w2 w.heap.size f) := Lib.hid (HB.out.below hl2 HB.out.lt)
      have hL2 := hL.trans (hl2.mono hL.size)
      have hs2 := hl2.size
      clear c16 hk5 hl hl2 HO hO HB hL
      go_wp2_with (at_builtin; refine wpList_append_bs rfl (.tmp 17) (.tmp 20) _ rfl (w.heap.size + 1) 5 i0 Try.underlying25 HI.out HZ0.out HZ1.out HZ2.out _ 16 c f.s rfl hO2 _ 2 _ _ (two f.sp) rfl hb5 (by omega) (by omega) ?_; intro A3 c3 w3 hown hgr hob; refine Hid.out ?_)
      refine Lib.hid ?_
      have hL3 : Below w.heap.size w w3 := hL2.grown hgr (by omega) (fun j hj => by have := (hO2.lt j hj).1; omega)
      have HB3 : Hid (BlkF w3 w.heap.size f) := Lib.hid (BlkV.grownF HB2.out hgr (fun j hj => by have := (hO2.lt j hj).1; omega))
      have HO3 := Lib.hid hown
      have hz3 : w.heap.size + 1 ≤ w3.heap.size := by have := HB3.out.lt; omega
      obtain ⟨p1, hp1⟩ : ∃ p, p = f.s ++ two f.sp := ⟨_, rfl⟩
      rw [← hp1] at HO3
      have HP1 := Lib.hid hp1
      clear hown hgr hob hO2 HB2 hL2 hb5 hs2 hg5 hl5 ha5 hp1 hz HSZ
      go_wp2_with fail
      go_loopw [3, 5] (fun v3 v5 wr => ∃ (k : Nat) (A : Option Addr) (c : Nat), k ≤ 16 ∧ v5 = .int .i64 k ∧ v3 = .slice A (18 + k) c ∧ Hid (OwnB 5 wr (w.heap.size + 1) A (18 + k) c (p1 ++ f.d.take k)) ∧ Hid (BlkF wr w.heap.size f) ∧ Hid (w.heap.size + 1 ≤ wr.heap.size) ∧ Below w.heap.size w wr) (fun _ v5 _ => 16 - (intOf v5).toNat)
      case atStart => exact ⟨0, A3, c3, by omega, rfl, rfl, Lib.hid (by rw [List.take_zero, List.append_nil]; exact HO3.out), HB3, Lib.hid hz3, hL3⟩
      case round =>
        clear HB3 hL3 HO3 hz3
        obtain ⟨k, A, c, hk, rfl, rfl, HO, HB, HSZ, hL⟩ := hrel
        by_cases hlt : k < 16
        · have c1 := (BlkV.cell HB.out (17 + k)).trans (fwC_at_d HF.out.s HF.out.d hlt)
          have va := HF.out.vd.getD k
          have HT := Lib.hid (take_oneF (l := f.d) (k := k) (by rw [HF.out.d]; exact hlt))
          obtain ⟨x, hx⟩ : ∃ x, x = f.d.getD k 0 := ⟨_, rfl⟩
          rw [← hx] at c1 va HT
          clear hx
          have hlA := Low.alloc wr (.cells #[.int .u8 x] 5)
          have hsA : (wr.alloc (.cells #[.int .u8 x] 5)).heap.size = wr.heap.size + 1 := by simp
          have hkA : Blk (wr.alloc (.cells #[.int .u8 x] 5)) 5 wr.heap.size [x] := Blk.new wr 5 [x]
          have hbA := hkA.bs (n := 1) (.cons va.1 va.2 .nil) hkA.lt rfl
          have hO3 := HO.out.below hlA
          have hB3 := hL.trans (hlA.mono hL.size)
          have HB3 : Hid (BlkF (wr.alloc (.cells #[.int .u8 x] 5)) w.heap.size f) := Lib.hid (HB.out.below hlA HB.out.lt)
          have hz := HSZ.out
          clear hkA hlA
          go_wp2_with (at_builtin; refine wpList_append_bs rfl (.tmp 26) (.tmp 31) _ rfl (w.heap.size + 1) 5 i0 Try.underlying25 HI.out HZ0.out HZ1.out HZ2.out _ (18 + k) c (p1 ++ f.d.take k) rfl hO3 _ 1 _ _ [x] rfl hbA (by omega) (by omega) ?_; intro A2 c2 w2 hown hgr hob)
          have hL2 : Below w.heap.size w w2 := hB3.grown hgr (by omega) (fun j hj => by have := (hO3.lt j hj).1; omega)
          have HB2 : Hid (BlkF w2 w.heap.size f) := Lib.hid (BlkV.grownF HB3.out hgr (fun j hj => by have := (hO3.lt j hj).1; omega))
          have HO2 : Hid (OwnB 5 w2 (w.heap.size + 1) A2 (18 + (k + 1)) c2 (p1 ++ f.d.take (k + 1))) := Lib.hid (by rw [HT.out, ← List.append_assoc]; exact hown)
          have HSZ2 : Hid (w.heap.size + 1 ≤ w2.heap.size) := Lib.hid (by have := HB2.out.lt; omega)
          clear hown hgr hob hO3 hB3 HB3 hbA hsA
          go_roundw
          case rel =>
            first
            | exact ⟨k + 1, A2, c2, by omega, by go_num, rfl, HO2, HB2, HSZ2, hL2⟩
            | ((repeat apply Exists.intro); refine ⟨?_, rfl⟩; exact ⟨k + 1, A2, c2, by omega, by go_num, rfl, HO2, HB2, HSZ2, hL2⟩)
          case measure => simp [intOf]; omega
        · obtain rfl : k = 16 := by omega
          have hO := HO.out
          rw [List.take_of_length_le (l := f.d) (by rw [HF.out.d]; omega)] at hO
          have c33 := BlkF.dp HB.out HF.out.s HF.out.d
          have hz := HSZ.out
          go_wp2_with fail
          refine (rtwo_any f.dp wr HF.out.dp).mono ?_
          rintro e w4 ⟨v, rfl, g5, rfl, hg5, hk5, hl5, ha5, hl⟩
          have hl2 : Low wr w4 := hl
          have hb5 := hk5.bs (n := 2) ha5 hk5.lt hl5
          have hO2 := hO.below hl2
          have hL2 := hL.trans (hl2.mono hL.size)
          have hs2 := hl2.size
          clear c33 hk5 hl hl2 HO hO HB hL
          go_wp2_with (at_builtin; refine wpList_append_bs rfl (.tmp 33) (.tmp 36) _ rfl (w.heap.size + 1) 5 i0 Try.underlying25 HI.out HZ0.out HZ1.out HZ2.out _ (18 + 16) c (p1 ++ f.d) rfl hO2 _ 2 _ _ (two f.dp) rfl hb5 (by omega) (by omega) ?_; intro A5 c5 w5 hown hgr hob; refine Hid.out ?_)
          refine Lib.hid ?_
          have hL5 : Below w.heap.size w w5 := hL2.grown hgr (by omega) (fun j hj => by have := (hO2.lt j hj).1; omega)
          rw [HP1.out, ← HBE.out] at hown
          have HO5 := Lib.hid hown
          clear hown hgr hob hO2 hL2 hb5
          go_wp2_with fail
          go_ret
          exact ⟨A5, c5, by rw [HBL.out]; rfl, by rw [HBL.out]; exact HO5.out.lowerF (by omega), hL5⟩
end Go.Proofs.Ytcfppidobenbfaa

namespace Go.Proofs.Ytcfppidobenbfaa
open Go.RowKit
set_option linter.unusedVariables false

/-- the world has drawn, and has more blocks; nothing else -/
def Ext (w w' : World) : Prop := ∃ (q : Nat) (os : Array Obj), w' = Go.Sort.grow (w.drewN q) os
theorem Ext.refl (w : World) : Ext w w := ⟨0, #[], by rw [World.drewN_zero, Go.Sort.grow_empty]⟩
theorem Ext.drewN {w w' : World} (h : Ext w w') (n : Nat) : Ext w (w'.drewN n) := by
  obtain ⟨q, os, rfl⟩ := h
  exact ⟨q + n, os, by rw [← World.drewN_drewN]; rfl⟩
theorem Ext.grow {w w' : World} (h : Ext w w') (os : Array Obj) : Ext w (Go.Sort.grow w' os) := by
  obtain ⟨q, os', rfl⟩ := h
  exact ⟨q, os' ++ os, Go.Sort.grow_grow _ _ _⟩
theorem Ext.trans {w w' w'' : World} (h : Ext w w') (k : Ext w' w'') : Ext w w'' := by
  obtain ⟨q, os, rfl⟩ := k
  exact (h.drewN q).grow os
theorem Ext.alloc (w : World) (o : Obj) : Ext w (w.alloc o) := by
  rw [Go.Sort.alloc_eq_grow]
  exact (Ext.refl w).grow _
theorem Ext.low {w w' : World} (h : Ext w w') : Low w w' := by
  obtain ⟨q, os, rfl⟩ := h
  exact ⟨rfl, rfl, rfl, by simp [Go.Sort.grow], fun j hj => by simp [Go.Sort.grow, Array.getElem?_append, hj]⟩
theorem ext2 (w : World) (s d : List Int) (t1 t2 : TypeId) : Ext w ((w.alloc (.cells (cellsB s).toArray t1)).alloc (.cells (cellsB d).toArray t2)) := (Ext.alloc w _).trans (Ext.alloc _ _)
theorem wpList_box_fwX {ops : Array Oper} {rest : List Oper} {o : Oper} {a : Act} {w : World} {Q : Exit → Act → World → Prop} (hgd : o.guard = none) (x : Operand) (ho : o.op = .box 35 x) (f : Fw) (hx : a.eval x = .agg (fwC f).toArray)
    (hk : ∀ w', BlkF w' w.heap.size f → Ext w w' → w'.heap.size = w.heap.size + 1 → wpList Try.prog ops Q rest (a.put o.dst (.pointer (some ⟨w.heap.size, 0, none⟩))) w') : wpList Try.prog ops Q (o :: rest) a w :=
  wpList_plain hgd fun K hK => by
    unfold Oper.wp execOp
    simp only [ho, hx, Instr.box, newVar, newRow, Value.cells, Sem.run_bind, run_newObj, Result.andThen_ok, Sem.run_pure]
    exact hK _ _ (hk _ (BlkV.new w _ (fwC f)) (Ext.alloc w _) (by simp))
end Go.Proofs.Ytcfppidobenbfaa

namespace Go.Proofs.Ytcfppidobenbfaa
open Go.RowKit
set_option linter.unusedVariables false

def portB (n : Int) : Bool := decide (0 ≤ n ∧ n ≤ 65535)
theorem rightF_ports (f : Fw) : rightF f = (portB f.sp && portB f.dp) := by
  unfold rightF portB
  rw [Bool.eq_iff_iff]
  simp only [Bool.and_eq_true, decide_eq_true_eq]
  omega
/-- the two addresses in a flow's block, as bytes -/
theorem BlkF.bsrc {w : World} {g : Nat} {f : Fw} (hb : BlkF w g f) (hk : f.ok) {B : Nat} (hg : g < B) : Bs w B (some ⟨g, 0, none⟩) 16 f.s :=
  ⟨hk.s, hk.vs, fun _ => ⟨g, 0, rfl, hg, fun i hi => by
    rw [BlkV.cell hb, Nat.zero_add]
    exact fwC_at_s hk.s hi⟩⟩
theorem BlkF.bdst {w : World} {g : Nat} {f : Fw} (hb : BlkF w g f) (hk : f.ok) {B : Nat} (hg : g < B) : Bs w B (some ⟨g, 17, none⟩) 16 f.d :=
  ⟨hk.d, hk.vd, fun _ => ⟨g, 17, rfl, hg, fun i hi => by
    rw [BlkV.cell hb]
    exact fwC_at_d hk.s hk.d hi⟩⟩

set_option maxHeartbeats 1600000 in
set_option maxRecDepth 100000 in
theorem fbytes_any (f : Fw) (w : World) (hf : f.ok) :
    Calls Try.prog 21 #[fwV f] w fun e w' => ∃ v, e = .returned v ∧ NewB 5 w 36 (bytesF f) v w' := by
  unfold fwV
  have HO := Lib.hid hf
  have HLn := Lib.hid (bytesF_len hf)
  have HA := Lib.hid (bytesF_all hf)
  have HE := Lib.hid (show [f.s, two f.sp, f.d, two f.dp].flatten = bytesF f by unfold bytesF; simp)
  clear hf
  go_enter Try.func21, Try.ntmps21
  go_wp2_with ((with_reducible refine wpList_box_fw rfl (.tmp 0) rfl f rfl ?_); intro w1 HB hL hz1; refine Hid.out ?_)
  refine Lib.hid ?_
  replace HB := Lib.hid HB
  clear hz1
  go_wp2_with fail
  refine wp_region_plan (.rd 0 (.rd 1 (.rd 2 (.rd 3 (.rd 5 (.rd 6 (.rd 7 (.rd 8 (.act 4 (.act 9 (.act 10 (.act 11 (.rd 12 (.done))))))))))))))
    (by kernel_rfl) (by kernel_rfl) (fun _ _ d _ _ h => by cases d <;> exact h) (by kernel_rfl) ?_
  replace hL : Low w w1.drew := hL.trans (Below.drew (Below.refl _ _))
  replace HB : Hid (BlkF w1.drew w.heap.size f) := HB
  generalize w1.drew = w5 at *
  have c16 := BlkF.sp HB.out HO.out.s
  have c33 := BlkF.dp HB.out HO.out.s HO.out.d
  have hgs := HB.out.lt
  have HS := Lib.hid (BlkF.bsrc HB.out HO.out hgs)
  have HD := Lib.hid (BlkF.bdst HB.out HO.out hgs)
  clear HB
  generalize w.heap.size = gs at c16 c33 HS HD hgs ⊢
  iterate 8 (refine walkP_read (v := _) rfl (by rfl) (by intro y hy; have e3 := (hy.cell (p := ⟨gs, 16, none⟩) hgs).trans c16; have e4 := (hy.cell (p := ⟨gs, 33, none⟩) hgs).trans c33; go_simp; try rfl) ?_; simp only [Act.put, List.setIfInBounds_toArray, List.set_cons_zero, List.set_cons_succ])
  clear c16 c33 hgs
  refine walkP_act rfl (by rfl) (fun K hK => ?_)
  go_simp
  refine (put16_any none 0 0 f.sp [] w5 (by omega) HO.out.sp (Bs.nil _ _ _)).mono ?_
  rintro e w6 ⟨v, rfl, g3, rfl, hg3, hk3, hl3, ha3, hl⟩
  replace hk3 : Blk w6 5 g3 (two f.sp) := hk3
  have hb3 := hk3.bs (n := 2) ha3 hk3.lt hl3
  go_simp
  refine hK _ _ hl ?_
  clear hK K
  replace hL := hL.trans hl
  replace HS := Lib.hid (HS.out.below' hl hl.size)
  replace HD := Lib.hid (HD.out.below' hl hl.size)
  clear hl hk3 ha3 hl3 hg3
  refine walkP_act rfl (by rfl) (fun K hK => ?_)
  go_simp
  refine (put16_any none 0 0 f.dp [] w6 (by omega) HO.out.dp (Bs.nil _ _ _)).mono ?_
  rintro e w7 ⟨v, rfl, g4, rfl, hg4, hk4, hl4, ha4, hl⟩
  replace hk4 : Blk w7 5 g4 (two f.dp) := hk4
  have hb4 := hk4.bs (n := 2) ha4 hk4.lt hl4
  go_simp
  refine hK _ _ hl ?_
  clear hK K
  replace hL := hL.trans hl
  replace HS := Lib.hid (HS.out.below' hl hl.size)
  replace HD := Lib.hid (HD.out.below' hl hl.size)
  replace hb3 := hb3.below' hl hl.size
  clear hl hk4 ha4 hl4 hg4
  refine walkP_act rfl (by rfl) (fun K hK => ?_)
  go_simp
  refine hK _ _ (Low.alloc _ _) ?_
  clear hK K
  have hl := Low.alloc w7 (.cells #[.slice (some ⟨gs, 0, none⟩) 16 16, .slice (some ⟨g3, 0, none⟩) 2 2, .slice (some ⟨gs, 17, none⟩) 16 16, .slice (some ⟨g4, 0, none⟩) 2 2] 25)
  have hrow := heap_alloc_new w7 (.cells #[.slice (some ⟨gs, 0, none⟩) 16 16, .slice (some ⟨g3, 0, none⟩) 2 2, .slice (some ⟨gs, 17, none⟩) 16 16, .slice (some ⟨g4, 0, none⟩) 2 2] 25 (0, 0))
  replace hL := hL.trans hl
  replace hb3 := hb3.below' hl hl.size
  replace hb4 := hb4.below' hl hl.size
  replace HS := Lib.hid (HS.out.below' hl hl.size)
  replace HD := Lib.hid (HD.out.below' hl hl.size)
  clear hl
  generalize w7.alloc (.cells #[.slice (some ⟨gs, 0, none⟩) 16 16, .slice (some ⟨g3, 0, none⟩) 2 2, .slice (some ⟨gs, 17, none⟩) 16 16, .slice (some ⟨g4, 0, none⟩) 2 2] 25) = w8 at *
  generalize w7.heap.size = g7 at *
  have hR := Row.four hrow HS.out hb3 HD.out hb4
  clear hb3 hb4 HS HD hrow
  refine walkP_act rfl (by rfl) (fun K hK => ?_)
  go_simp
  refine (join_any _ 4 4 _ _ 36 w8 rfl (by omega) hR (by rw [HE.out, HLn.out]) (by omega)).mono ?_
  rintro e w9 ⟨rfl, hk8, hl⟩
  rw [HE.out] at hk8
  have hN2 : NewB 5 w 36 (bytesF f) (.slice (some ⟨w8.heap.size, 0, none⟩) 36 36) w9 := ⟨_, rfl, hL.size, hk8, HLn.out, HA.out, hL.trans hl⟩
  go_simp
  refine hK _ _ hl ?_
  clear hK K hR hk8 hl
  iterate 1 (refine walkP_read (v := _) rfl (by rfl) (by intro y hy; go_simp; try rfl) ?_; simp only [Act.put, List.setIfInBounds_toArray, List.set_cons_zero, List.set_cons_succ])
  unfold walkP
  go_wp2
  go_ret
  exact ⟨_, rfl, hN2⟩
end Go.Proofs.Ytcfppidobenbfaa
