/- harrierlaw13.ref: the same packet, in the document's type. No condition. -/
import Derived.Test.YtdpbhhoabnmbpaaGreatPkI
set_option maxRecDepth 100000
namespace Go.Proofs.YtdpbhhoabnmbpaaGreat
open Go.RowKit
set_option linter.unusedVariables false

section
variable {ops : Array Oper} {rest : List Oper} {o : Oper} {a : Act} {w : World} {Q : Exit → Act → World → Prop}
theorem wpList_load_srq (hgd : o.guard = none) (x : Operand) (ho : o.op = .load 30 x) (b p : Nat) (hx : a.eval x = .pointer (some ⟨b, p, none⟩)) (s : Sr) (hc : w.rangeAt b p (srC s))
    (hk : wpList Tryz.prog ops Q rest (a.put o.dst (.agg (srC s).toArray)) w) : wpList Tryz.prog ops Q (o :: rest) a w :=
  wpList_load_mid hgd 30 x ho b p hx (srC s) _ hc Tryz.underlying30 rfl (by rw [sr_size]; rfl) hk
theorem wpList_load_segq (hgd : o.guard = none) (x : Operand) (ho : o.op = .load 34 x) (b p : Nat) (hx : a.eval x = .pointer (some ⟨b, p, none⟩)) (s : Sg) (hc : w.rangeAt b p (segC s))
    (hk : wpList Tryz.prog ops Q rest (a.put o.dst (.agg (segC s).toArray)) w) : wpList Tryz.prog ops Q (o :: rest) a w :=
  wpList_load_mid hgd 34 x ho b p hx (segC s) _ hc Tryz.underlying34 rfl (by rw [seg_size]; simp [segC_length]) hk
theorem wpList_load_msgq (hgd : o.guard = none) (x : Operand) (ho : o.op = .load 36 x) (b p : Nat) (hx : a.eval x = .pointer (some ⟨b, p, none⟩)) (s : Mg) (hc : w.rangeAt b p (msgC s))
    (hk : wpList Tryz.prog ops Q rest (a.put o.dst (.agg (msgC s).toArray)) w) : wpList Tryz.prog ops Q (o :: rest) a w :=
  wpList_load_mid hgd 36 x ho b p hx (msgC s) _ hc Tryz.underlying36 rfl (by rw [msg_size]; simp [msgC_length]) hk
end
/-- a packet of its eight fields -/
def pqOps (p : Pq) (x0 x1 x2 x3 x4 x5 x6 x7 : Operand) : Array (Nat × Operand) := #[(0, x0), (1, x1), (2, x2), (3, x3), (4, x4), (5, x5), (6, x6), (7, x7)]
theorem run_build_pqK (rt : Bool) (r : Sr) (k : Int) (t : Sg) (m : Mg) (bA : Option Addr) (bm bc : Nat) (bs : List Int) (a b c e g s0 s1 s2 s3 s4 s5 s6 s7 s8 s9 s10 s11 s12 s13 s14 s15 d0 d1 d2 d3 d4 d5 d6 d7 d8 d9 d10 d11 d12 d13 d14 d15 f0 f1 f2 f3 f4 f5 f6 f7 f8 f9 f10 f11 f12 f13 f14 f15 : Int) (w : World) :
    (Instr.build 42 #[(0, .agg (headC ⟨a, b, c, e, g, [s0, s1, s2, s3, s4, s5, s6, s7, s8, s9, s10, s11, s12, s13, s14, s15], [d0, d1, d2, d3, d4, d5, d6, d7, d8, d9, d10, d11, d12, d13, d14, d15]⟩).toArray), (1, .bool rt), (2, .agg (srC r).toArray), (3, .agg (cellsB [f0, f1, f2, f3, f4, f5, f6, f7, f8, f9, f10, f11, f12, f13, f14, f15]).toArray), (4, .int .i64 k), (5, .agg (segC t).toArray), (6, .agg (msgC m).toArray), (7, .slice bA bm bc)]).run Tryz.prog w = .ok (.agg (pqC ⟨⟨a, b, c, e, g, [s0, s1, s2, s3, s4, s5, s6, s7, s8, s9, s10, s11, s12, s13, s14, s15], [d0, d1, d2, d3, d4, d5, d6, d7, d8, d9, d10, d11, d12, d13, d14, d15]⟩, rt, r, [f0, f1, f2, f3, f4, f5, f6, f7, f8, f9, f10, f11, f12, f13, f14, f15], k, t, m, bA, bm, bc, bs⟩).toArray) w := by kernel_rfl
theorem run_build_pq (p : Pq) (hs : p.h.s.length = 16) (hd : p.h.d.length = 16) (hf : p.f.length = 16) (w : World) :
    (Instr.build 42 #[(0, .agg (headC p.h).toArray), (1, .bool p.rt), (2, .agg (srC p.r).toArray), (3, .agg (cellsB p.f).toArray), (4, .int .i64 p.k), (5, .agg (segC p.t).toArray), (6, .agg (msgC p.m).toArray), (7, .slice p.bA p.bm p.bc)]).run Tryz.prog w = .ok (.agg (pqC p).toArray) w := by
  obtain ⟨⟨a, b, c, e, g, s, d⟩, rt, r, f, k, t, m, bA, bm, bc, bs⟩ := p
  obtain ⟨s0, s1, s2, s3, s4, s5, s6, s7, s8, s9, s10, s11, s12, s13, s14, s15, rfl⟩ := list16 s hs
  obtain ⟨d0, d1, d2, d3, d4, d5, d6, d7, d8, d9, d10, d11, d12, d13, d14, d15, rfl⟩ := list16 d hd
  obtain ⟨f0, f1, f2, f3, f4, f5, f6, f7, f8, f9, f10, f11, f12, f13, f14, f15, rfl⟩ := list16 f hf
  exact run_build_pqK rt r k t m bA bm bc bs a b c e g s0 s1 s2 s3 s4 s5 s6 s7 s8 s9 s10 s11 s12 s13 s14 s15 d0 d1 d2 d3 d4 d5 d6 d7 d8 d9 d10 d11 d12 d13 d14 d15 f0 f1 f2 f3 f4 f5 f6 f7 f8 f9 f10 f11 f12 f13 f14 f15 w
theorem wpList_build_pq {ops : Array Oper} {rest : List Oper} {o : Oper} {a : Act} {w : World} {Q : Exit → Act → World → Prop} (hgd : o.guard = none) (x0 x1 x2 x3 x4 x5 x6 x7 : Operand) (ho : o.op = .build 42 #[(0, x0), (1, x1), (2, x2), (3, x3), (4, x4), (5, x5), (6, x6), (7, x7)])
    (p : Pq) (e0 : a.eval x0 = .agg (headC p.h).toArray) (e1 : a.eval x1 = .bool p.rt) (e2 : a.eval x2 = .agg (srC p.r).toArray) (e3 : a.eval x3 = .agg (cellsB p.f).toArray) (e4 : a.eval x4 = .int .i64 p.k) (e5 : a.eval x5 = .agg (segC p.t).toArray) (e6 : a.eval x6 = .agg (msgC p.m).toArray) (e7 : a.eval x7 = .slice p.bA p.bm p.bc)
    (hs : p.h.s.length = 16) (hd : p.h.d.length = 16) (hf : p.f.length = 16)
    (hk : wpList Tryz.prog ops Q rest (a.put o.dst (.agg (pqC p).toArray)) w) : wpList Tryz.prog ops Q (o :: rest) a w :=
  wpList_plain hgd fun K hK => by
    unfold Oper.wp execOp
    simp only [ho, List.map_toArray, List.map_cons, List.map_nil, e0, e1, e2, e3, e4, e5, e6, e7, Sem.run_bind, run_build_pq p hs hd hf, Result.andThen_ok, Sem.run_pure]
    exact hK _ _ hk

theorem ret_pq1 {T : TypeId} (hT : PkT T) {fn : Func} {p : Tmp} {R : Ending → World → Prop} {tmps : Array Value} {df : List Deferred} {w : World} {g : Nat} {s : Pq} (hfn : fn.results = #[.cell p T]) (hp : tmps.getD p undef = .pointer (some ⟨g, 0, none⟩))
    (hb : BlkQ T w g s) (hs : s.h.s.length = 16) (hd : s.h.d.length = 16) (hf : s.f.length = 16) (hR : R (.returned (pqV s)) w) (hdf : df = []) : bodyPost Tryz.prog fn R .ret ⟨tmps, df⟩ w := by
  obtain ⟨fs, hu⟩ := hT.und
  subst hdf
  exact bodyPost_ret (v := .agg (pqC s).toArray) (results_cell1 hfn _ _ g _ _ _ _ hp hb hu rfl (by rw [hT.size]; simp [pqC_len hs hd hf])) rfl hR

set_option maxRecDepth 100000 in
set_option maxHeartbeats 1600000 in
theorem ref13_any (p : Pq) (w : World) (hs : p.h.s.length = 16) (hd : p.h.d.length = 16) (hf : p.f.length = 16) :
    Calls Tryz.prog 9 #[pqV p] w fun e w' => e = .returned (pqV p) ∧ Below w.heap.size w w' := by
  unfold pqV
  have HS := Lib.hid hs
  have HD := Lib.hid hd
  have HF := Lib.hid hf
  clear hs hd hf
  go_enter Tryz.func9, Tryz.ntmps9
  go_wp2_with (first
    | ((with_reducible refine wpList_box_pq rfl (.tmp 0) rfl p rfl ?_); intro w1 HK1 hl1 hz1)
    | ((with_reducible refine wpList_alloc_pq pkt_ref rfl rfl ?_); intro w2 HK2 hl2 hz2; refine Hid.out ?_))
  refine Lib.hid ?_
  rw [hz1] at HK2
  replace HK1 := Lib.hid (HK1.below hl2 HK1.lt)
  replace HK2 := Lib.hid HK2
  have hL : Low w w2 := hl1.trans hl2
  clear hl1 hl2 hz1 hz2
  have a37 := rangeAt_one (HK1.out.rt HS.out HD.out HF.out)
  have a60 := rangeAt_one (HK1.out.kd HS.out HD.out HF.out)
  have a75 := rangeAt_one (HK1.out.bd HS.out HD.out HF.out)
  go_wp2_with (first
    | (with_reducible refine wpList_load_hd rfl (.tmp 3) rfl w.heap.size 0 rfl p.h HS.out HD.out HK1.out.head ?_)
    | (with_reducible refine wpList_load_srq rfl (.tmp 7) rfl w.heap.size 38 rfl p.r (HK1.out.sr HS.out HD.out HF.out) ?_)
    | (with_reducible refine wpList_load_at rfl (.tmp 9) rfl w.heap.size 44 rfl p.f HF.out (HK1.out.fin HS.out HD.out HF.out) ?_)
    | (with_reducible refine wpList_load_segq rfl (.tmp 13) rfl w.heap.size 61 rfl p.t (HK1.out.tc HS.out HD.out HF.out) ?_)
    | (with_reducible refine wpList_load_msgq rfl (.tmp 15) rfl w.heap.size 71 rfl p.m (HK1.out.ms HS.out HD.out HF.out) ?_)
    | ((with_reducible refine wpList_build_pq rfl (.tmp 4) (.tmp 6) (.tmp 8) (.tmp 10) (.tmp 12) (.tmp 14) (.tmp 16) (.tmp 18) rfl p rfl rfl rfl rfl rfl rfl rfl rfl HS.out HD.out HF.out ?_); refine Hid.out ?_))
  refine Lib.hid ?_
  clear a37 a60 a75
  go_wp2_with ((refine wpList_store_pq pkt_ref rfl (.tmp 2) (.tmp 19) rfl (w.heap.size + 1) rfl p rfl zeroQ HK2.out rfl rfl rfl HS.out HD.out HF.out ?_); intro w3 HG hb3 hz3 ho3; refine Hid.out ?_)
  refine Lib.hid ?_
  replace HG := Lib.hid HG
  go_wp2_with fail
  exact ret_pq1 pkt_ref Tryz.results9 rfl HG.out HS.out HD.out HF.out ⟨rfl, Below.trans hL (hb3.mono (by omega))⟩ rfl
end Go.Proofs.YtdpbhhoabnmbpaaGreat
