/- harrierlaw13.ref: the same packet, in the document's type. No condition. -/
import Derived.Test.YtjafjapnmffohaaGreatDoorPkI
set_option maxRecDepth 100000
namespace Go.Proofs.YtjafjapnmffohaaGreatDoor
open Go.RowKit
set_option linter.unusedVariables false

section
variable {ops : Array Oper} {rest : List Oper} {o : Oper} {a : Act} {w : World} {Q : Exit → Act → World → Prop}
theorem wpList_load_srq (hgd : o.guard = none) (x : Operand) (ho : o.op = .load 30 x) (b p : Nat) (hx : a.eval x = .pointer (some ⟨b, p, none⟩)) (s : Sr) (hc : w.rangeAt b p (srC s))
    (hk : wpList Tryz.prog ops Q rest (a.put o.dst (.agg (srC s).toArray)) w) : wpList Tryz.prog ops Q (o :: rest) a w :=
  wpList_load_mid hgd 30 x ho b p hx (srC s) _ hc Tryz.underlying30 rfl (by rw [sr_size]; rfl) hk
theorem wpList_load_segq (hgd : o.guard = none) (x : Operand) (ho : o.op = .load 34 x) (b p : Nat) (hx : a.eval x = .pointer (some ⟨b, p, none⟩)) (s : Sg) (hc : w.rangeAt b p (segC s))
    (hk : wpList Tryz.prog ops Q rest (a.put o.dst (.agg (segC s).toArray)) w) : wpList Tryz.prog ops Q (o :: rest) a w :=
  wpList_load_mid hgd 34 x ho b p hx (segC s) _ hc Tryz.underlying34 rfl (by rw [seg_size]; simp [segC_length]) hk
theorem wpList_load_msgq (hgd : o.guard = none) (x : Operand) (ho : o.op = .load 36 x) (b p : Nat) (hx : a.eval x = .pointer (some ⟨b, p, none⟩)) (s : Mg) (hc : w.rangeAt b p (msgC s))
    (hk : wpList Tryz.prog ops Q rest (a.put o.dst (.agg (msgC s).toArray)) w) : wpList Tryz.prog ops Q (o :: rest) a w :=
  wpList_load_mid hgd 36 x ho b p hx (msgC s) _ hc Tryz.underlying36 rfl (by rw [msg_size]; simp [msgC_length]) hk
end
/-- a packet of its eight fields -/
def pqOps (p : Pq) (x0 x1 x2 x3 x4 x5 x6 x7 : Operand) : Array (Nat × Operand) := #[(0, x0), (1, x1), (2, x2), (3, x3), (4, x4), (5, x5), (6, x6), (7, x7)]
theorem run_build_pqK (rt : Bool) (r : Sr) (k : Int) (t : Sg) (m : Mg) (bA : Option Addr) (bm bc : Nat) (bs : List Int) (a b c e g s0 s1 s2 s3 s4 s5 s6 s7 s8 s9 s10 s11 s12 s13 s14 s15 d0 d1 d2 d3 d4 d5 d6 d7 d8 d9 d10 d11 d12 d13 d14 d15 f0 f1 f2 f3 f4 f5 f6 f7 f8 f9 f10 f11 f12 f13 f14 f15 : Int) (w : World) :
    (Instr.build 42 #[(0, .agg (headC ⟨a, b, c, e, g, [s0, s1, s2, s3, s4, s5, s6, s7, s8, s9, s10, s11, s12, s13, s14, s15], [d0, d1, d2, d3, d4, d5, d6, d7, d8, d9, d10, d11, d12, d13, d14, d15]⟩).toArray), (1, .bool rt), (2, .agg (srC r).toArray), (3, .agg (cellsB [f0, f1, f2, f3, f4, f5, f6, f7, f8, f9, f10, f11, f12, f13, f14, f15]).toArray), (4, .int .i64 k), (5, .agg (segC t).toArray), (6, .agg (msgC m).toArray), (7, .slice bA bm bc)]).run Tryz.prog w = .ok (.agg (pqC ⟨⟨a, b, c, e, g, [s0, s1, s2, s3, s4, s5, s6, s7, s8, s9, s10, s11, s12, s13, s14, s15], [d0, d1, d2, d3, d4, d5, d6, d7, d8, d9, d10, d11, d12, d13, d14, d15]⟩, rt, r, [f0, f1, f2, f3, f4, f5, f6, f7, f8, f9, f10, f11, f12, f13, f14, f15], k, t, m, bA, bm, bc, bs⟩).toArray) w := by kernel_rfl
theorem run_build_pq (p : Pq) (hs : p.h.s.length = 16) (hd : p.h.d.length = 16) (hf : p.f.length = 16) (w : World) :
    (Instr.build 42 #[(0, .agg (headC p.h).toArray), (1, .bool p.rt), (2, .agg (srC p.r).toArray), (3, .agg (cellsB p.f).toArray), (4, .int .i64 p.k), (5, .agg (segC p.t).toArray), (6, .agg (msgC p.m).toArray), (7, .slice p.bA p.bm p.bc)]).run Tryz.prog w = .ok (.agg (pqC p).toArray) w := by
  obtain ⟨⟨a, b, c, e, g, s, d⟩, rt, r, f, k, t, m, bA, bm, bc, bs⟩ := p
  obtain ⟨s0, s1, s2, s3, s4, s5, s6, s7, s8, s9, s10, s11, s12, s13, s14, s15, rfl⟩ := list16 s hs
  obtain ⟨d0, d1, d2, d3, d4, d5, d6, d7, d8, d9, d10, d11, d12, d13, d14, d15, rfl⟩ := list16 d hd
  obtain ⟨f0, f1, f2, f3, f4, f5, f6, f7, f8, f9, f10, f11, f12, f13, f14, f15, rfl⟩ := list16 f hf
  exact run_build_pqK rt r k t m bA bm bc bs a b c e g s0 s1 s2 s3 s4 s5 s6 s7 s8 s9 s10 s11 s12 s13 s14 s15 d0 d1 d2 d3 d4 d5 d6 d7 d8 d9 d10 d11 d12 d13 d14 d15 f0 f1 f2 f3 f4 f5 f6 f7 f8 f9 f10 f11 f12 f13 f14 f15 w
theorem wpList_build_pq {ops : Array Oper} {rest : List Oper} {o : Oper} {a : Act} {w : World} {Q : Exit → Act → World → Prop} (hgd : o.guard = none) (x0 x1 x2 x3 x4 x5 x6 x7 : Operand) (ho : o.op = .build 42 #[(0, x0), (1, x1), (2, x2), (3, x3), (4, x4), (5, x5), (6, x6), (7, x7)])
    (p : Pq) (e0 : a.eval x0 = .agg (headC p.h).toArray) (e1 : a.eval x1 = .bool p.rt) (e2 : a.eval x2 = .agg (srC p.r).toArray) (e3 : a.eval x3 = .agg (cellsB p.f).toArray) (e4 : a.eval x4 = .int .i64 p.k) (e5 : a.eval x5 = .agg (segC p.t).toArray) (e6 : a.eval x6 = .agg (msgC p.m).toArray) (e7 : a.eval x7 = .slice p.bA p.bm p.bc)
    (hs : p.h.s.length = 16) (hd : p.h.d.length = 16) (hf : p.f.length = 16)
    (hk : wpList Tryz.prog ops Q rest (a.put o.dst (.agg (pqC p).toArray)) w) : wpList Tryz.prog ops Q (o :: rest) a w :=
  wpList_plain hgd fun K hK => by
    unfold Oper.wp execOp
    simp only [ho, List.map_toArray, List.map_cons, List.map_nil, e0, e1, e2, e3, e4, e5, e6, e7, Sem.run_bind, run_build_pq p hs hd hf, Result.andThen_ok, Sem.run_pure]
    exact hK _ _ hk

theorem ret_pq1 {T : TypeId} (hT : PkT T) {fn : Func} {p : Tmp} {R : Ending → World → Prop} {tmps : Array Value} {df : List Deferred} {w : World} {g : Nat} {s : Pq} (hfn : fn.results = #[.cell p T]) (hp : tmps.getD p undef = .pointer (some ⟨g, 0, none⟩))
    (hb : BlkQ T w g s) (hs : s.h.s.length = 16) (hd : s.h.d.length = 16) (hf : s.f.length = 16) (hR : R (.returned (pqV s)) w) (hdf : df = []) : bodyPost Tryz.prog fn R .ret ⟨tmps, df⟩ w := by
  obtain ⟨fs, hu⟩ := hT.und
  subst hdf
  exact bodyPost_ret (v := .agg (pqC s).toArray) (results_cell1 hfn _ _ g _ _ _ _ hp hb hu rfl (by rw [hT.size]; simp [pqC_len hs hd hf])) rfl hR

end Go.Proofs.YtjafjapnmffohaaGreatDoor
