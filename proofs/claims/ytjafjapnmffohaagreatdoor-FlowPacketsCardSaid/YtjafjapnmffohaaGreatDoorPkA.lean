/- Packets as they lie in memory, their fields loaded and stored; the page's words for reading one. No condition. -/
import Derived.Test.YtjafjapnmffohaaGreatDoorJTc
import Derived.Test.YtjafjapnmffohaaGreatDoorJIc
import Derived.Test.YtjafjapnmffohaaGreatDoorJSrB
import Derived.Test.YtjafjapnmffohaaGreatDoorJWk
import Derived.Test.YtjafjapnmffohaaGreatDoorJSx
import Derived.Test.YtjafjapnmffohaaGreatDoorJSy
import Derived.Deep.MidRow
set_option maxRecDepth 100000
namespace Go.Proofs.YtjafjapnmffohaaGreatDoor
open Go.RowKit
set_option linter.unusedVariables false

/-- a packet that was read, as it lies -/
structure Pq where
  h : Hd
  rt : Bool
  r : Sr
  f : List Int
  k : Int
  t : Sg
  m : Mg
  bA : Option Addr
  bm : Nat
  bc : Nat
  bs : List Int
/-- what it says -/
structure Pb where
  h : Hd
  rt : Bool
  r : Rb
  f : List Int
  k : Int
  t : Sb
  m : Mb
  bs : List Int
def Pq.v (p : Pq) : Pb := ⟨p.h, p.rt, p.r.v, p.f, p.k, p.t.v, p.m.v, p.bs⟩
/-- its numbers are as their types ask, what it holds lies below block B -/
structure Pq.ok (w : World) (B : Nat) (p : Pq) : Prop where
  h : p.h.ok
  r : p.r.ok w B
  fl : p.f.length = 16
  fa : AllB p.f
  k : i64ok p.k
  t : p.t.ok w B
  m : p.m.ok w B
  bm : p.bm ≤ 140737488351232
  bs : Bs w B p.bA p.bm p.bs
section
variable {w w' : World} {B B' : Nat} {p : Pq}
theorem Pq.ok.below' (h : p.ok w B) (hb : Below B w w') (hB : B ≤ B') : p.ok w' B' := ⟨h.h, h.r.below' hb hB, h.fl, h.fa, h.k, h.t.below' hb hB, h.m.below' hb hB, h.bm, h.bs.below' hb hB⟩
theorem Pq.ok.low (h : p.ok w w.heap.size) (hb : Low w w') : p.ok w' w'.heap.size := h.below' hb hb.size
theorem Pq.ok.more (h : p.ok w B) (hB : B ≤ B') : p.ok w B' := ⟨h.h, h.r.more hB, h.fl, h.fa, h.k, h.t.more hB, h.m.more hB, h.bm, h.bs.more hB⟩
end
/-- the part behind the fixed header, and so on: the cells -/
def pqM (p : Pq) : List Value := [.slice p.bA p.bm p.bc]
def pqT (p : Pq) : List Value := msgC p.m ++ pqM p
def pqK (p : Pq) : List Value := segC p.t ++ pqT p
def pqF (p : Pq) : List Value := (.int .i64 p.k) :: pqK p
def pqR (p : Pq) : List Value := cellsB p.f ++ pqF p
def pqB (p : Pq) : List Value := srC p.r ++ pqR p
def pqC (p : Pq) : List Value := headC p.h ++ ((.bool p.rt) :: pqB p)
def pqV (p : Pq) : Value := .agg (pqC p).toArray
def zeroQ : Pq := ⟨zeroH, false, zeroSr, zero16, 0, zeroS, zeroM, none, 0, 0, []⟩
def zeroPb : Pb := ⟨zeroH, false, zeroRb, zero16, 0, zeroSb, zeroMb, []⟩
theorem zeroQ_v : zeroQ.v = zeroPb := rfl
theorem zeroQ_ok (w : World) (B : Nat) : zeroQ.ok w B := ⟨zeroH_ok, zeroSr_ok w B, rfl, zero_all, by show i64ok 0; unfold i64ok; omega, zeroS_ok w B, zeroM_ok w B, by simp [zeroQ], Bs.nil _ _ _⟩
theorem pqC_len {p : Pq} (hs : p.h.s.length = 16) (hd : p.h.d.length = 16) (hf : p.f.length = 16) : (pqC p).length = 76 := by
  simp only [pqC, pqB, pqR, pqF, pqK, pqT, pqM, List.length_append, List.length_cons, List.length_nil, headC_length hs hd, cellsB_length, hf]
  rfl
theorem pqC_one (p : Pq) : (pqC p).toArray.all (·.oneCell') = true := by
  refine all_oneCell_toArray fun v hv => ?_
  simp only [pqC, pqB, pqR, pqF, pqK, pqT, pqM, List.mem_append, List.mem_cons, List.not_mem_nil, or_false] at hv
  rcases hv with hv | rfl | hv | hv | rfl | hv | hv | rfl
  · exact headC_one _ v hv
  · rfl
  · exact (Array.all_eq_true_iff_forall_mem.1 (srC_one p.r)) v (by simpa using hv)
  · exact cellsB_one _ v hv
  · rfl
  · exact (Array.all_eq_true_iff_forall_mem.1 (segC_one p.t)) v (by simpa using hv)
  · exact (Array.all_eq_true_iff_forall_mem.1 (msgC_one p.m)) v (by simpa using hv)
  · rfl
/-- a type of packets -/
structure PkT (T : TypeId) : Prop where
  size : (Tryz.prog.info? T).map (·.size) = some 76
  zero : (Tryz.prog.info? T).map (·.zero) = some (some (.agg (pqC zeroQ).toArray))
  und : ∃ fs, Tryz.prog.underlying T = some (.struct fs)
theorem pkt_ref : PkT 42 := ⟨by kernel_rfl, by kernel_rfl, _, Tryz.underlying42⟩
theorem pkt_own : PkT 38 := ⟨by kernel_rfl, by kernel_rfl, _, Tryz.underlying38⟩

/-- what stands between others is replaced -/
theorem setCs_app : ∀ (us a b c : List Value), b.length = us.length → setCs (a ++ (b ++ c)) a.length us = a ++ (us ++ c)
  | [], a, b, c, h => by
    obtain rfl : b = [] := List.eq_nil_of_length_eq_zero h
    rfl
  | u :: us, a, x :: b, c, h => by
    have ih := setCs_app us (a ++ [u]) b c (by simpa using h)
    have e : (a ++ (x :: b ++ c)).set a.length u = (a ++ [u]) ++ (b ++ c) := by
      rw [List.set_append_right _ _ (Nat.le_refl _)]
      simp
    show setCs ((a ++ (x :: b ++ c)).set a.length u) (a.length + 1) us = _
    rw [e, show a.length + 1 = (a ++ [u]).length by simp, ih]
    simp
  | u :: us, a, [], c, h => by simp at h
theorem BlkV.rangeAtK {w : World} {T : TypeId} {g : Nat} {a b c : List Value} (h : BlkV w T g (a ++ (b ++ c))) {o : Nat} (ho : a.length = o) : w.rangeAt g o b := fun j v hv => by
  have hj : j < b.length := (List.getElem?_eq_some_iff.1 hv).1
  rw [h.cell (o + j), List.getElem?_append_right (by omega), show o + j - a.length = j by omega, List.getElem?_append_left hj, hv]

section
variable {T : TypeId} {w w' : World} {g : Nat} {p : Pq}
def BlkQ (T : TypeId) (w : World) (g : Nat) (p : Pq) : Prop := BlkV w T g (pqC p)
theorem BlkQ.lt (h : BlkQ T w g p) : g < w.heap.size := BlkV.lt h
theorem BlkQ.below {B : Nat} (h : BlkQ T w g p) (hb : Below B w w') (hg : g < B) : BlkQ T w' g p := BlkV.below h hb hg
theorem BlkQ.stay (h : BlkQ T w g p) (hk : w'.heap[g]? = w.heap[g]?) : BlkQ T w' g p := hk.trans h
variable (hb : BlkQ T w g p) (hs : p.h.s.length = 16) (hd : p.h.d.length = 16) (hf : p.f.length = 16)
include hb
theorem BlkQ.head : w.rangeAt g 0 (headC p.h) := BlkV.rangeAtK (a := []) (b := headC p.h) hb rfl
theorem BlkQ.src (hs : p.h.s.length = 16) : w.rangeAt g 5 (cellsB p.h.s) := by
  have h : BlkV w T g ([.int .i64 p.h.cl, .int .i64 p.h.lb, .int .i64 p.h.ln, .int .i64 p.h.nx, .int .i64 p.h.hp] ++ (cellsB p.h.s ++ (cellsB p.h.d ++ ((.bool p.rt) :: pqB p)))) := by
    have e : pqC p = [.int .i64 p.h.cl, .int .i64 p.h.lb, .int .i64 p.h.ln, .int .i64 p.h.nx, .int .i64 p.h.hp] ++ (cellsB p.h.s ++ (cellsB p.h.d ++ ((.bool p.rt) :: pqB p))) := by simp [pqC, headC]
    rw [← e]
    exact hb
  exact h.rangeAtK rfl
theorem BlkQ.dst (hs : p.h.s.length = 16) : w.rangeAt g 21 (cellsB p.h.d) := by
  have h : BlkV w T g (([.int .i64 p.h.cl, .int .i64 p.h.lb, .int .i64 p.h.ln, .int .i64 p.h.nx, .int .i64 p.h.hp] ++ cellsB p.h.s) ++ (cellsB p.h.d ++ ((.bool p.rt) :: pqB p))) := by
    have e : pqC p = ([.int .i64 p.h.cl, .int .i64 p.h.lb, .int .i64 p.h.ln, .int .i64 p.h.nx, .int .i64 p.h.hp] ++ cellsB p.h.s) ++ (cellsB p.h.d ++ ((.bool p.rt) :: pqB p)) := by simp [pqC, headC]
    rw [← e]
    exact hb
  exact h.rangeAtK (by simp [cellsB_length, hs])
omit hb
theorem pq_rt (p : Pq) : pqC p = (headC p.h) ++ ([Value.bool p.rt] ++ (pqB p)) := by simp [pqC, pqB, pqR, pqF, pqK, pqT, pqM]
theorem pql_rt (p : Pq) (hs : p.h.s.length = 16) (hd : p.h.d.length = 16) (hf : p.f.length = 16) : (headC p.h).length = 37 := headC_length hs hd
theorem pq_sr (p : Pq) : pqC p = (headC p.h ++ [Value.bool p.rt]) ++ (srC p.r ++ (pqR p)) := by simp [pqC, pqB, pqR, pqF, pqK, pqT, pqM]
theorem pql_sr (p : Pq) (hs : p.h.s.length = 16) (hd : p.h.d.length = 16) (hf : p.f.length = 16) : (headC p.h ++ [Value.bool p.rt]).length = 38 := by rw [List.length_append, headC_length hs hd]; rfl
theorem pq_fin (p : Pq) : pqC p = (headC p.h ++ [Value.bool p.rt] ++ srC p.r) ++ (cellsB p.f ++ (pqF p)) := by simp [pqC, pqB, pqR, pqF, pqK, pqT, pqM]
theorem pql_fin (p : Pq) (hs : p.h.s.length = 16) (hd : p.h.d.length = 16) (hf : p.f.length = 16) : (headC p.h ++ [Value.bool p.rt] ++ srC p.r).length = 44 := by rw [List.length_append, pql_sr p hs hd hf]; rfl
theorem pq_kd (p : Pq) : pqC p = (headC p.h ++ [Value.bool p.rt] ++ srC p.r ++ cellsB p.f) ++ ([Value.int .i64 p.k] ++ (pqK p)) := by simp [pqC, pqB, pqR, pqF, pqK, pqT, pqM]
theorem pql_kd (p : Pq) (hs : p.h.s.length = 16) (hd : p.h.d.length = 16) (hf : p.f.length = 16) : (headC p.h ++ [Value.bool p.rt] ++ srC p.r ++ cellsB p.f).length = 60 := by rw [List.length_append, pql_fin p hs hd hf, cellsB_length, hf]
theorem pq_tc (p : Pq) : pqC p = (headC p.h ++ [Value.bool p.rt] ++ srC p.r ++ cellsB p.f ++ [Value.int .i64 p.k]) ++ (segC p.t ++ (pqT p)) := by simp [pqC, pqB, pqR, pqF, pqK, pqT, pqM]
theorem pql_tc (p : Pq) (hs : p.h.s.length = 16) (hd : p.h.d.length = 16) (hf : p.f.length = 16) : (headC p.h ++ [Value.bool p.rt] ++ srC p.r ++ cellsB p.f ++ [Value.int .i64 p.k]).length = 61 := by rw [List.length_append, pql_kd p hs hd hf]; rfl
theorem pq_ms (p : Pq) : pqC p = (headC p.h ++ [Value.bool p.rt] ++ srC p.r ++ cellsB p.f ++ [Value.int .i64 p.k] ++ segC p.t) ++ (msgC p.m ++ (pqM p)) := by simp [pqC, pqB, pqR, pqF, pqK, pqT, pqM]
theorem pql_ms (p : Pq) (hs : p.h.s.length = 16) (hd : p.h.d.length = 16) (hf : p.f.length = 16) : (headC p.h ++ [Value.bool p.rt] ++ srC p.r ++ cellsB p.f ++ [Value.int .i64 p.k] ++ segC p.t).length = 71 := by rw [List.length_append, pql_tc p hs hd hf]; rfl
theorem pq_bd (p : Pq) : pqC p = (headC p.h ++ [Value.bool p.rt] ++ srC p.r ++ cellsB p.f ++ [Value.int .i64 p.k] ++ segC p.t ++ msgC p.m) ++ ([Value.slice p.bA p.bm p.bc] ++ ([])) := by simp [pqC, pqB, pqR, pqF, pqK, pqT, pqM]
theorem pql_bd (p : Pq) (hs : p.h.s.length = 16) (hd : p.h.d.length = 16) (hf : p.f.length = 16) : (headC p.h ++ [Value.bool p.rt] ++ srC p.r ++ cellsB p.f ++ [Value.int .i64 p.k] ++ segC p.t ++ msgC p.m).length = 75 := by rw [List.length_append, pql_ms p hs hd hf]; rfl
include hb
theorem BlkQ.rt (hs : p.h.s.length = 16) (hd : p.h.d.length = 16) (hf : p.f.length = 16) : w.rangeAt g 37 ([Value.bool p.rt]) := by
  have h : BlkV w T g ((headC p.h) ++ ([Value.bool p.rt] ++ (pqB p))) := by rw [← pq_rt p]; exact hb
  exact h.rangeAtK (pql_rt p hs hd hf)
theorem BlkQ.sr (hs : p.h.s.length = 16) (hd : p.h.d.length = 16) (hf : p.f.length = 16) : w.rangeAt g 38 (srC p.r) := by
  have h : BlkV w T g ((headC p.h ++ [Value.bool p.rt]) ++ (srC p.r ++ (pqR p))) := by rw [← pq_sr p]; exact hb
  exact h.rangeAtK (pql_sr p hs hd hf)
theorem BlkQ.fin (hs : p.h.s.length = 16) (hd : p.h.d.length = 16) (hf : p.f.length = 16) : w.rangeAt g 44 (cellsB p.f) := by
  have h : BlkV w T g ((headC p.h ++ [Value.bool p.rt] ++ srC p.r) ++ (cellsB p.f ++ (pqF p))) := by rw [← pq_fin p]; exact hb
  exact h.rangeAtK (pql_fin p hs hd hf)
theorem BlkQ.kd (hs : p.h.s.length = 16) (hd : p.h.d.length = 16) (hf : p.f.length = 16) : w.rangeAt g 60 ([Value.int .i64 p.k]) := by
  have h : BlkV w T g ((headC p.h ++ [Value.bool p.rt] ++ srC p.r ++ cellsB p.f) ++ ([Value.int .i64 p.k] ++ (pqK p))) := by rw [← pq_kd p]; exact hb
  exact h.rangeAtK (pql_kd p hs hd hf)
theorem BlkQ.tc (hs : p.h.s.length = 16) (hd : p.h.d.length = 16) (hf : p.f.length = 16) : w.rangeAt g 61 (segC p.t) := by
  have h : BlkV w T g ((headC p.h ++ [Value.bool p.rt] ++ srC p.r ++ cellsB p.f ++ [Value.int .i64 p.k]) ++ (segC p.t ++ (pqT p))) := by rw [← pq_tc p]; exact hb
  exact h.rangeAtK (pql_tc p hs hd hf)
theorem BlkQ.ms (hs : p.h.s.length = 16) (hd : p.h.d.length = 16) (hf : p.f.length = 16) : w.rangeAt g 71 (msgC p.m) := by
  have h : BlkV w T g ((headC p.h ++ [Value.bool p.rt] ++ srC p.r ++ cellsB p.f ++ [Value.int .i64 p.k] ++ segC p.t) ++ (msgC p.m ++ (pqM p))) := by rw [← pq_ms p]; exact hb
  exact h.rangeAtK (pql_ms p hs hd hf)
theorem BlkQ.bd (hs : p.h.s.length = 16) (hd : p.h.d.length = 16) (hf : p.f.length = 16) : w.rangeAt g 75 ([Value.slice p.bA p.bm p.bc]) := by
  have h : BlkV w T g ((headC p.h ++ [Value.bool p.rt] ++ srC p.r ++ cellsB p.f ++ [Value.int .i64 p.k] ++ segC p.t ++ msgC p.m) ++ ([Value.slice p.bA p.bm p.bc] ++ ([]))) := by rw [← pq_bd p]; exact hb
  exact h.rangeAtK (pql_bd p hs hd hf)
end
theorem rangeAt_one {w : World} {g o : Nat} {v : Value} (h : w.rangeAt g o [v]) : w.cell? ⟨g, o, none⟩ = some v := h 0 v rfl
end Go.Proofs.YtjafjapnmffohaaGreatDoor
