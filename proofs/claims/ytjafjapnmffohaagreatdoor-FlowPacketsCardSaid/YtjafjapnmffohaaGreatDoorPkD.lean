/- Packets in memory: made, boxed, loaded, stored, whole and field by field; handed back. No condition. -/
import Derived.Test.YtjafjapnmffohaaGreatDoorPkB
import Derived.Test.YtjafjapnmffohaaGreatDoorJDt
set_option maxRecDepth 100000
namespace Go.Proofs.YtjafjapnmffohaaGreatDoor
open Go.RowKit
set_option linter.unusedVariables false

section
variable {T : TypeId} (hT : PkT T) {ops : Array Oper} {rest : List Oper} {o : Oper} {a : Act} {w : World} {Q : Exit → Act → World → Prop}
include hT
theorem wpList_alloc_pq (hgd : o.guard = none) (ho : o.op = .alloc T)
    (hk : ∀ w', BlkQ T w' w.heap.size zeroQ → Low w w' → w'.heap.size = w.heap.size + 1 → wpList Tryz.prog ops Q rest (a.put o.dst (.pointer (some ⟨w.heap.size, 0, none⟩))) w') : wpList Tryz.prog ops Q (o :: rest) a w :=
  wpList_alloc_v hgd T ho (pqC zeroQ) hT.zero hk
omit hT in
theorem wpList_box_pq (hgd : o.guard = none) (x : Operand) (ho : o.op = .box T x) (p : Pq) (hx : a.eval x = .agg (pqC p).toArray)
    (hk : ∀ w', BlkQ T w' w.heap.size p → Low w w' → w'.heap.size = w.heap.size + 1 → wpList Tryz.prog ops Q rest (a.put o.dst (.pointer (some ⟨w.heap.size, 0, none⟩))) w') : wpList Tryz.prog ops Q (o :: rest) a w :=
  wpList_box_v hgd T x ho (pqC p) hx hk
theorem wpList_load_pq (hgd : o.guard = none) (x : Operand) (ho : o.op = .load T x) (g : Nat) (hx : a.eval x = .pointer (some ⟨g, 0, none⟩)) (p : Pq) (hb : BlkQ T w g p) (hs : p.h.s.length = 16) (hd : p.h.d.length = 16) (hf : p.f.length = 16)
    (hk : wpList Tryz.prog ops Q rest (a.put o.dst (.agg (pqC p).toArray)) w) : wpList Tryz.prog ops Q (o :: rest) a w := by
  obtain ⟨fs, hu⟩ := hT.und
  exact wpList_load_row hgd T x ho g hx _ (pqC p).toArray (0, 0) _ hb hu rfl (by rw [hT.size]; simp [pqC_len hs hd hf]) hk
/-- a packet is stored whole; what lies in other blocks stays -/
theorem wpList_store_pq (hgd : o.guard = none) (x y : Operand) (ho : o.op = .store T x y) (g : Nat) (hx : a.eval x = .pointer (some ⟨g, 0, none⟩)) (p : Pq) (hy : a.eval y = .agg (pqC p).toArray) (old : Pq) (hb : BlkQ T w g old)
    (hos : old.h.s.length = 16) (hod : old.h.d.length = 16) (hof : old.f.length = 16) (hs : p.h.s.length = 16) (hd : p.h.d.length = 16) (hf : p.f.length = 16)
    (hk : ∀ w', BlkQ T w' g p → Below g w w' → w'.heap.size = w.heap.size → (∀ k : Nat, k ≠ g → w'.heap[k]? = w.heap[k]?) → wpList Tryz.prog ops Q rest (a.put o.dst undef) w') : wpList Tryz.prog ops Q (o :: rest) a w :=
  wpList_store_row hgd T x y ho g _ hx hy _ _ hb (by rw [hT.size]; simp [pqC_len hs hd hf]) (by simp [pqC_len hs hd hf, pqC_len hos hod hof]) (pqC_one p)
    (hk _ (BlkV.setRow hb _) (low_setRow _ _ _ (Nat.le_refl _)) (by simp) (fun k hk => by simp [World.setRow, Array.getElem?_modify, Ne.symm hk]))
end

theorem ret_pq {T : TypeId} (hT : PkT T) {fn : Func} {p q : Tmp} {R : Ending → World → Prop} {tmps : Array Value} {df : List Deferred} {w : World} {g : Nat} {s : Pq} {er : Int} (hfn : fn.results = #[.cell p T, .tmp q]) (hp : tmps.getD p undef = .pointer (some ⟨g, 0, none⟩)) (hq : tmps.getD q undef = .int .i64 er)
    (hb : BlkQ T w g s) (hs : s.h.s.length = 16) (hd : s.h.d.length = 16) (hf : s.f.length = 16) (hR : R (.returned (.tuple #[pqV s, .int .i64 er])) w) (hdf : df = []) : bodyPost Tryz.prog fn R .ret ⟨tmps, df⟩ w := by
  obtain ⟨fs, hu⟩ := hT.und
  exact bodyPost_ret (results_cell_tmp hfn tmps w g _ _ _ _ _ hp hq hb hu rfl (by rw [hT.size]; simp [pqC_len hs hd hf])) hdf hR

/-- a packet with another field -/
def setFin (f : List Int) (p : Pq) : Pq := { p with f := f }
def setRt (b : Bool) (p : Pq) : Pq := { p with rt := b }
def setSr (r : Sr) (p : Pq) : Pq := { p with r := r }
def setKd (k : Int) (p : Pq) : Pq := { p with k := k }
def setTc (t : Sg) (p : Pq) : Pq := { p with t := t }
def setMs (m : Mg) (p : Pq) : Pq := { p with m := m }
def setBd (A : Option Addr) (n c : Nat) (xs : List Int) (p : Pq) : Pq := { p with bA := A, bm := n, bc := c, bs := xs }
section
variable {p : Pq} (hs : p.h.s.length = 16) (hd : p.h.d.length = 16) (hf : p.f.length = 16)
include hs hd hf
theorem setCs_fin {f : List Int} (hn : f.length = 16) : setCs (pqC p) 44 (cellsB f) = pqC (setFin f p) := by
  rw [pq_fin p, ← pql_fin p hs hd hf, setCs_app _ _ _ _ (by rw [cellsB_length, cellsB_length, hf, hn])]
  exact (pq_fin (setFin f p)).symm
theorem setCs_rt {b : Bool} : (pqC p).set 37 (.bool b) = pqC (setRt b p) := by
  rw [pq_rt p, ← pql_rt p hs hd hf]
  have := setCs_app [Value.bool b] (headC p.h) [Value.bool p.rt] (pqB p) rfl
  rw [pq_rt (setRt b p)]
  exact this
theorem setCs_sr {r : Sr} : setCs (pqC p) 38 (srC r) = pqC (setSr r p) := by
  rw [pq_sr p, ← pql_sr p hs hd hf, setCs_app (srC r) _ (srC p.r) _ rfl]
  exact (pq_sr (setSr r p)).symm
theorem setCs_kd {k : Int} : (pqC p).set 60 (.int .i64 k) = pqC (setKd k p) := by
  rw [pq_kd p, ← pql_kd p hs hd hf]
  have := setCs_app [Value.int .i64 k] (headC p.h ++ [Value.bool p.rt] ++ srC p.r ++ cellsB p.f) [Value.int .i64 p.k] (pqK p) rfl
  rw [pq_kd (setKd k p)]
  exact this
theorem setCs_tc {t : Sg} : setCs (pqC p) 61 (segC t) = pqC (setTc t p) := by
  rw [pq_tc p, ← pql_tc p hs hd hf, setCs_app (segC t) _ (segC p.t) _ rfl]
  exact (pq_tc (setTc t p)).symm
theorem setCs_ms {m : Mg} : setCs (pqC p) 71 (msgC m) = pqC (setMs m p) := by
  rw [pq_ms p, ← pql_ms p hs hd hf, setCs_app (msgC m) _ (msgC p.m) _ rfl]
  exact (pq_ms (setMs m p)).symm
theorem setCs_bd {A : Option Addr} {n c : Nat} {xs : List Int} : (pqC p).set 75 (.slice A n c) = pqC (setBd A n c xs p) := by
  rw [pq_bd p, ← pql_bd p hs hd hf]
  have := setCs_app [Value.slice A n c] (headC p.h ++ [Value.bool p.rt] ++ srC p.r ++ cellsB p.f ++ [Value.int .i64 p.k] ++ segC p.t ++ msgC p.m) [Value.slice p.bA p.bm p.bc] [] rfl
  rw [pq_bd (setBd A n c xs p)]
  exact this
end
section
variable {T : TypeId} {w : World} {g : Nat} {p : Pq} (hb : BlkQ T w g p) (hs : p.h.s.length = 16) (hd : p.h.d.length = 16) (hf : p.f.length = 16)
include hb hs hd hf
theorem BlkQ.setFin {f : List Int} (hn : f.length = 16) : BlkQ T (w.setCells g 44 (cellsB f)) g (setFin f p) := by
  have h2 := BlkV.setMid (cellsB f) 44 w _ hb
  rw [setCs_fin hs hd hf hn] at h2
  exact h2
theorem BlkQ.setRt (b : Bool) : BlkQ T (w.setCell ⟨g, 37, none⟩ (.bool b)) g (setRt b p) := by
  have h2 := BlkV.set_ hb 37 (.bool b)
  rw [setCs_rt hs hd hf] at h2
  exact h2
theorem BlkQ.setSr (r : Sr) : BlkQ T (w.setCells g 38 (srC r)) g (setSr r p) := by
  have h2 := BlkV.setMid (srC r) 38 w _ hb
  rw [setCs_sr hs hd hf] at h2
  exact h2
theorem BlkQ.setKd (k : Int) : BlkQ T (w.setCell ⟨g, 60, none⟩ (.int .i64 k)) g (setKd k p) := by
  have h2 := BlkV.set_ hb 60 (.int .i64 k)
  rw [setCs_kd hs hd hf] at h2
  exact h2
theorem BlkQ.setTc (t : Sg) : BlkQ T (w.setCells g 61 (segC t)) g (setTc t p) := by
  have h2 := BlkV.setMid (segC t) 61 w _ hb
  rw [setCs_tc hs hd hf] at h2
  exact h2
theorem BlkQ.setMs (m : Mg) : BlkQ T (w.setCells g 71 (msgC m)) g (setMs m p) := by
  have h2 := BlkV.setMid (msgC m) 71 w _ hb
  rw [setCs_ms hs hd hf] at h2
  exact h2
theorem BlkQ.setBd (A : Option Addr) (n c : Nat) (xs : List Int) : BlkQ T (w.setCell ⟨g, 75, none⟩ (.slice A n c)) g (setBd A n c xs p) := by
  have h2 := BlkV.set_ hb 75 (.slice A n c)
  rw [setCs_bd (xs := xs) hs hd hf] at h2
  exact h2
theorem BlkQ.there (o n : Nat) (hn : o + n ≤ 76) : w.there g o n := BlkV.there hb o n (by rw [pqC_len hs hd hf]; exact hn)
end
theorem BlkQ.room {T : TypeId} {w : World} {g : Nat} {p : Pq} (hb : BlkQ T w g p) (o : Nat) : w.frozen? ⟨g, o, none⟩ = false := BlkV.frozen hb o

theorem setCells_size {g : Nat} : ∀ (us : List Value) (o : Nat) (w : World), (w.setCells g o us).heap.size = w.heap.size
  | [], _, _ => rfl
  | u :: r, o, w => (setCells_size r (o + 1) _).trans (by simp)
theorem wp_store_fin {o : Oper} {a : Act} {w : World} {K : Act → World → Prop} {Q : Exit → Act → World → Prop} {T : TypeId} (x y : Operand) (ho : o.op = .store 24 x y) (g : Nat) (hx : a.eval x = .pointer (some ⟨g, 44, none⟩)) (f : List Int) (hy : a.eval y = .agg (cellsB f).toArray)
    (p : Pq) (hb : BlkQ T w g p) (hs : p.h.s.length = 16) (hd : p.h.d.length = 16) (hf : p.f.length = 16) (hn : f.length = 16)
    (hk : ∀ w', BlkQ T w' g (setFin f p) → Below g w w' → w'.heap.size = w.heap.size → (∀ k : Nat, k ≠ g → w'.heap[k]? = w.heap[k]?) → K (a.put o.dst undef) w') : o.wp Tryz.prog a w K Q :=
  wp_store_mid 24 x y ho g 44 (cellsB f).toArray hx hy (by rw [List.size_toArray]; exact hb.there hs hd hf 44 _ (by rw [cellsB_length, hn]; omega)) (by rw [addr_size]; simp [cellsB_length, hn]) (all_oneCell_toArray (cellsB_one f))
    (hk _ (hb.setFin hs hd hf hn) (low_setMid (Nat.le_refl _) _ _ _ _ (Below.refl _ _)) (setCells_size _ _ _) (fun k hk => setCells_others _ _ _ _ hk))
theorem wpList_store_fin {ops : Array Oper} {rest : List Oper} {o : Oper} {a : Act} {w : World} {Q : Exit → Act → World → Prop} {T : TypeId} (hgd : o.guard = none) (x y : Operand) (ho : o.op = .store 24 x y) (g : Nat) (hx : a.eval x = .pointer (some ⟨g, 44, none⟩)) (f : List Int) (hy : a.eval y = .agg (cellsB f).toArray)
    (p : Pq) (hb : BlkQ T w g p) (hs : p.h.s.length = 16) (hd : p.h.d.length = 16) (hf : p.f.length = 16) (hn : f.length = 16)
    (hk : ∀ w', BlkQ T w' g (setFin f p) → Below g w w' → w'.heap.size = w.heap.size → (∀ k : Nat, k ≠ g → w'.heap[k]? = w.heap[k]?) → wpList Tryz.prog ops Q rest (a.put o.dst undef) w') : wpList Tryz.prog ops Q (o :: rest) a w :=
  wpList_plain hgd fun K hK => wp_store_fin x y ho g hx f hy p hb hs hd hf hn fun w' a1 a2 a3 a4 => hK _ _ (hk w' a1 a2 a3 a4)
theorem wp_store_srq {o : Oper} {a : Act} {w : World} {K : Act → World → Prop} {Q : Exit → Act → World → Prop} {T : TypeId} (x y : Operand) (ho : o.op = .store 30 x y) (g : Nat) (hx : a.eval x = .pointer (some ⟨g, 38, none⟩)) (r : Sr) (hy : a.eval y = .agg (srC r).toArray)
    (p : Pq) (hb : BlkQ T w g p) (hs : p.h.s.length = 16) (hd : p.h.d.length = 16) (hf : p.f.length = 16)
    (hk : ∀ w', BlkQ T w' g (setSr r p) → Below g w w' → w'.heap.size = w.heap.size → (∀ k : Nat, k ≠ g → w'.heap[k]? = w.heap[k]?) → K (a.put o.dst undef) w') : o.wp Tryz.prog a w K Q :=
  wp_store_mid 30 x y ho g 38 (srC r).toArray hx hy (by rw [List.size_toArray]; exact hb.there hs hd hf 38 _ (by show 38 + 6 ≤ 76; omega)) (by rw [sr_size]; simp [srC]) (srC_one r)
    (hk _ (hb.setSr hs hd hf _) (low_setMid (Nat.le_refl _) _ _ _ _ (Below.refl _ _)) (setCells_size _ _ _) (fun k hk => setCells_others _ _ _ _ hk))
theorem wpList_store_srq {ops : Array Oper} {rest : List Oper} {o : Oper} {a : Act} {w : World} {Q : Exit → Act → World → Prop} {T : TypeId} (hgd : o.guard = none) (x y : Operand) (ho : o.op = .store 30 x y) (g : Nat) (hx : a.eval x = .pointer (some ⟨g, 38, none⟩)) (r : Sr) (hy : a.eval y = .agg (srC r).toArray)
    (p : Pq) (hb : BlkQ T w g p) (hs : p.h.s.length = 16) (hd : p.h.d.length = 16) (hf : p.f.length = 16)
    (hk : ∀ w', BlkQ T w' g (setSr r p) → Below g w w' → w'.heap.size = w.heap.size → (∀ k : Nat, k ≠ g → w'.heap[k]? = w.heap[k]?) → wpList Tryz.prog ops Q rest (a.put o.dst undef) w') : wpList Tryz.prog ops Q (o :: rest) a w :=
  wpList_plain hgd fun K hK => wp_store_srq x y ho g hx r hy p hb hs hd hf fun w' a1 a2 a3 a4 => hK _ _ (hk w' a1 a2 a3 a4)
theorem wp_store_tc {o : Oper} {a : Act} {w : World} {K : Act → World → Prop} {Q : Exit → Act → World → Prop} {T : TypeId} (x y : Operand) (ho : o.op = .store 34 x y) (g : Nat) (hx : a.eval x = .pointer (some ⟨g, 61, none⟩)) (t : Sg) (hy : a.eval y = .agg (segC t).toArray)
    (p : Pq) (hb : BlkQ T w g p) (hs : p.h.s.length = 16) (hd : p.h.d.length = 16) (hf : p.f.length = 16)
    (hk : ∀ w', BlkQ T w' g (setTc t p) → Below g w w' → w'.heap.size = w.heap.size → (∀ k : Nat, k ≠ g → w'.heap[k]? = w.heap[k]?) → K (a.put o.dst undef) w') : o.wp Tryz.prog a w K Q :=
  wp_store_mid 34 x y ho g 61 (segC t).toArray hx hy (by rw [List.size_toArray]; exact hb.there hs hd hf 61 _ (by show 61 + 10 ≤ 76; omega)) (by rw [seg_size]; simp [segC_length]) (segC_one t)
    (hk _ (hb.setTc hs hd hf _) (low_setMid (Nat.le_refl _) _ _ _ _ (Below.refl _ _)) (setCells_size _ _ _) (fun k hk => setCells_others _ _ _ _ hk))
theorem wpList_store_tc {ops : Array Oper} {rest : List Oper} {o : Oper} {a : Act} {w : World} {Q : Exit → Act → World → Prop} {T : TypeId} (hgd : o.guard = none) (x y : Operand) (ho : o.op = .store 34 x y) (g : Nat) (hx : a.eval x = .pointer (some ⟨g, 61, none⟩)) (t : Sg) (hy : a.eval y = .agg (segC t).toArray)
    (p : Pq) (hb : BlkQ T w g p) (hs : p.h.s.length = 16) (hd : p.h.d.length = 16) (hf : p.f.length = 16)
    (hk : ∀ w', BlkQ T w' g (setTc t p) → Below g w w' → w'.heap.size = w.heap.size → (∀ k : Nat, k ≠ g → w'.heap[k]? = w.heap[k]?) → wpList Tryz.prog ops Q rest (a.put o.dst undef) w') : wpList Tryz.prog ops Q (o :: rest) a w :=
  wpList_plain hgd fun K hK => wp_store_tc x y ho g hx t hy p hb hs hd hf fun w' a1 a2 a3 a4 => hK _ _ (hk w' a1 a2 a3 a4)
theorem wp_store_ms {o : Oper} {a : Act} {w : World} {K : Act → World → Prop} {Q : Exit → Act → World → Prop} {T : TypeId} (x y : Operand) (ho : o.op = .store 36 x y) (g : Nat) (hx : a.eval x = .pointer (some ⟨g, 71, none⟩)) (m : Mg) (hy : a.eval y = .agg (msgC m).toArray)
    (p : Pq) (hb : BlkQ T w g p) (hs : p.h.s.length = 16) (hd : p.h.d.length = 16) (hf : p.f.length = 16)
    (hk : ∀ w', BlkQ T w' g (setMs m p) → Below g w w' → w'.heap.size = w.heap.size → (∀ k : Nat, k ≠ g → w'.heap[k]? = w.heap[k]?) → K (a.put o.dst undef) w') : o.wp Tryz.prog a w K Q :=
  wp_store_mid 36 x y ho g 71 (msgC m).toArray hx hy (by rw [List.size_toArray]; exact hb.there hs hd hf 71 _ (by show 71 + 4 ≤ 76; omega)) (by rw [msg_size]; simp [msgC_length]) (msgC_one m)
    (hk _ (hb.setMs hs hd hf _) (low_setMid (Nat.le_refl _) _ _ _ _ (Below.refl _ _)) (setCells_size _ _ _) (fun k hk => setCells_others _ _ _ _ hk))
theorem wpList_store_ms {ops : Array Oper} {rest : List Oper} {o : Oper} {a : Act} {w : World} {Q : Exit → Act → World → Prop} {T : TypeId} (hgd : o.guard = none) (x y : Operand) (ho : o.op = .store 36 x y) (g : Nat) (hx : a.eval x = .pointer (some ⟨g, 71, none⟩)) (m : Mg) (hy : a.eval y = .agg (msgC m).toArray)
    (p : Pq) (hb : BlkQ T w g p) (hs : p.h.s.length = 16) (hd : p.h.d.length = 16) (hf : p.f.length = 16)
    (hk : ∀ w', BlkQ T w' g (setMs m p) → Below g w w' → w'.heap.size = w.heap.size → (∀ k : Nat, k ≠ g → w'.heap[k]? = w.heap[k]?) → wpList Tryz.prog ops Q rest (a.put o.dst undef) w') : wpList Tryz.prog ops Q (o :: rest) a w :=
  wpList_plain hgd fun K hK => wp_store_ms x y ho g hx m hy p hb hs hd hf fun w' a1 a2 a3 a4 => hK _ _ (hk w' a1 a2 a3 a4)
theorem cell_stay {w w' : World} {b o : Nat} {v : Value} (h : w.cell? ⟨b, o, none⟩ = some v) (hk : w'.heap[b]? = w.heap[b]?) : w'.cell? ⟨b, o, none⟩ = some v := (World.cell?_of_block hk).trans h
theorem rangeAt_stay {w w' : World} {b o : Nat} {cs : List Value} (h : w.rangeAt b o cs) (hk : w'.heap[b]? = w.heap[b]?) : w'.rangeAt b o cs := fun j v hv => (World.cell?_of_block hk).trans (h j v hv)
theorem wpList_load_at_g {ops : Array Oper} {rest : List Oper} {o : Oper} {a : Act} {w : World} {Q : Exit → Act → World → Prop} (hw : Region.wanted o (yielded ops a.tmps) = true) (x : Operand) (ho : o.op = .load 24 x) (b p : Nat) (hx : a.eval x = .pointer (some ⟨b, p, none⟩)) (s : List Int) (hs : s.length = 16) (hc : w.rangeAt b p (cellsB s))
    (hk : wpList Tryz.prog ops Q rest (a.put o.dst (.agg (cellsB s).toArray)) w) : wpList Tryz.prog ops Q (o :: rest) a w :=
  wpList_step fun K hK => by
    simp only [hw, if_true]
    exact wp_load_mid 24 x ho b p hx (cellsB s) _ hc Tryz.underlying24 rfl (by rw [addr_size]; simp [cellsB_length, hs]) (hK _ _ hk)
theorem BlkV.atSrcK {w : World} {g : Nat} {h : Hd} (hb : BlkH w g h) : w.rangeAt g 5 (cellsB h.s) :=
  BlkV.rangeAtK (a := [.int .i64 h.cl, .int .i64 h.lb, .int .i64 h.ln, .int .i64 h.nx, .int .i64 h.hp]) (b := cellsB h.s) (c := cellsB h.d) hb rfl
/-- a segment stays where only blocks below its own change -/
theorem Sg.ok.upperK {w w' : World} {lo B : Nat} {t : Sg} (h : t.ok w B) (hf : SFrom lo t) (hk : ∀ p : Addr, lo ≤ p.block → p.block < B → w'.cell? p = w.cell? p) : t.ok w' B :=
  ⟨h.sp, h.dp, h.sq, h.ak, h.fl, h.wi, h.su, h.ur, h.om, h.os.upper hf.1 hk, h.pm, h.ps.len, h.ps.all, fun hn => by
    obtain ⟨b, p, e, hb, hc⟩ := h.ps.mem hn
    obtain ⟨b', p', e', hl⟩ := hf.2 hn
    rw [e] at e'
    injection e' with e'
    injection e' with e1 e2 _
    subst e1 e2
    exact ⟨b, p, e, hb, fun i hi => (hk _ hl hb).trans (hc i hi)⟩⟩
theorem Mg.ok.upperK {w w' : World} {lo B : Nat} {m : Mg} (h : m.ok w B) (hf : MFrom lo m) (hk : ∀ p : Addr, lo ≤ p.block → p.block < B → w'.cell? p = w.cell? p) : m.ok w' B :=
  ⟨h.kd, h.cd, h.wd, h.bm, h.bs.len, h.bs.all, fun hn => by
    obtain ⟨b, p, e, hb, hc⟩ := h.bs.mem hn
    obtain ⟨b', p', e', hl⟩ := hf hn
    rw [e] at e'
    injection e' with e'
    injection e' with e1 e2 _
    subst e1 e2
    exact ⟨b, p, e, hb, fun i hi => (hk _ hl hb).trans (hc i hi)⟩⟩
end Go.Proofs.YtjafjapnmffohaaGreatDoor
