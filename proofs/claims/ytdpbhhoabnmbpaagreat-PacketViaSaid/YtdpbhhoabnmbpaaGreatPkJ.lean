/- harrierlaw13.ref: the same packet, in the document's type. No condition. -/
import Derived.Test.YtdpbhhoabnmbpaaGreatPkI
set_option maxRecDepth 100000
namespace Go.Proofs.YtdpbhhoabnmbpaaGreat
open Go.RowKit
set_option linter.unusedVariables false

section
variable {ops : Array Oper} {rest : List Oper} {o : Oper} {a : Act} {w : World} {Q : Exit → Act → World → Prop}
end
theorem ret_pq1 {T : TypeId} (hT : PkT T) {fn : Func} {p : Tmp} {R : Ending → World → Prop} {tmps : Array Value} {df : List Deferred} {w : World} {g : Nat} {s : Pq} (hfn : fn.results = #[.cell p T]) (hp : tmps.getD p undef = .pointer (some ⟨g, 0, none⟩))
    (hb : BlkQ T w g s) (hs : s.h.s.length = 16) (hd : s.h.d.length = 16) (hf : s.f.length = 16) (hR : R (.returned (pqV s)) w) (hdf : df = []) : bodyPost Tryz.prog fn R .ret ⟨tmps, df⟩ w := by
  obtain ⟨fs, hu⟩ := hT.und
  subst hdf
  exact bodyPost_ret (v := .agg (pqC s).toArray) (results_cell1 hfn _ _ g _ _ _ _ hp hb hu rfl (by rw [hT.size]; simp [pqC_len hs hd hf])) rfl hR

end Go.Proofs.YtdpbhhoabnmbpaaGreat
