/- harrierlaw13.ref: the same packet, in the document's type. No condition. -/
import Derived.Test.YtdpbhhoabnmbpaaPkI
set_option maxRecDepth 100000
namespace Go.Proofs.Ytdpbhhoabnmbpaa
open Go.RowKit
set_option linter.unusedVariables false

section
variable {ops : Array Oper} {rest : List Oper} {o : Oper} {a : Act} {w : World} {Q : Exit → Act → World → Prop}
theorem wpList_load_srq (hgd : o.guard = none) (x : Operand) (ho : o.op = .load 42 x) (b p : Nat) (hx : a.eval x = .pointer (some ⟨b, p, none⟩)) (s : Sr) (hc : w.rangeAt b p (srC s))
    (hk : wpList Try.prog ops Q rest (a.put o.dst (.agg (srC s).toArray)) w) : wpList Try.prog ops Q (o :: rest) a w :=
  wpList_load_mid hgd 42 x ho b p hx (srC s) _ hc Try.underlying42 rfl (by rw [sr_size]; rfl) hk
theorem wpList_load_segq (hgd : o.guard = none) (x : Operand) (ho : o.op = .load 30 x) (b p : Nat) (hx : a.eval x = .pointer (some ⟨b, p, none⟩)) (s : Sg) (hc : w.rangeAt b p (segC s))
    (hk : wpList Try.prog ops Q rest (a.put o.dst (.agg (segC s).toArray)) w) : wpList Try.prog ops Q (o :: rest) a w :=
  wpList_load_mid hgd 30 x ho b p hx (segC s) _ hc Try.underlying30 rfl (by rw [seg_size]; simp [segC_length]) hk
theorem wpList_load_msgq (hgd : o.guard = none) (x : Operand) (ho : o.op = .load 32 x) (b p : Nat) (hx : a.eval x = .pointer (some ⟨b, p, none⟩)) (s : Mg) (hc : w.rangeAt b p (msgC s))
    (hk : wpList Try.prog ops Q rest (a.put o.dst (.agg (msgC s).toArray)) w) : wpList Try.prog ops Q (o :: rest) a w :=
  wpList_load_mid hgd 32 x ho b p hx (msgC s) _ hc Try.underlying32 rfl (by rw [msg_size]; simp [msgC_length]) hk
end
/-- a packet of its eight fields -/
def pqOps (p : Pq) (x0 x1 x2 x3 x4 x5 x6 x7 : Operand) : Array (Nat × Operand) := #[(0, x0), (1, x1), (2, x2), (3, x3), (4, x4), (5, x5), (6, x6), (7, x7)]
theorem ret_pq1 {T : TypeId} (hT : PkT T) {fn : Func} {p : Tmp} {R : Ending → World → Prop} {tmps : Array Value} {df : List Deferred} {w : World} {g : Nat} {s : Pq} (hfn : fn.results = #[.cell p T]) (hp : tmps.getD p undef = .pointer (some ⟨g, 0, none⟩))
    (hb : BlkQ T w g s) (hs : s.h.s.length = 16) (hd : s.h.d.length = 16) (hf : s.f.length = 16) (hR : R (.returned (pqV s)) w) (hdf : df = []) : bodyPost Try.prog fn R .ret ⟨tmps, df⟩ w := by
  obtain ⟨fs, hu⟩ := hT.und
  subst hdf
  exact bodyPost_ret (v := .agg (pqC s).toArray) (results_cell1 hfn _ _ g _ _ _ _ hp hb hu rfl (by rw [hT.size]; simp [pqC_len hs hd hf])) rfl hR

end Go.Proofs.Ytdpbhhoabnmbpaa
