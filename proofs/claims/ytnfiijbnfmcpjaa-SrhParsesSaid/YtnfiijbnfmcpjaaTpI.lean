/- What topt.take and topt.Parse answer: the options of bytes. Condition: at most 2^47 bytes. -/
import Derived.Test.YtnfiijbnfmcpjaaTpC
import Derived.Test.YtnfiijbnfmcpjaaVals
import Derived.WalkMore
namespace Go.Proofs.Ytnfiijbnfmcpjaa
open Go.RowKit
set_option linter.unusedVariables false

theorem results_cell_tmp2 {P : Program} {fn : Func} {p q r : Tmp} {ty : TypeId} (h : fn.results = #[.cell p ty, .tmp q, .tmp r]) (tmps : Array Value) (w : World) (g : Nat) (t : TypeId) (cs : Array Value) (fr : Nat × Nat) (d : TypeDesc) (u v : Value)
    (hp : tmps.getD p undef = .pointer (some ⟨g, 0, none⟩)) (hq : tmps.getD q undef = u) (hr : tmps.getD r undef = v) (hg : w.heap[g]? = some (.cells cs t fr))
    (hu : P.underlying ty = some d) (hd : (match d with | .struct _ | .array _ _ => true | _ => false) = true) (hi : (P.info? ty).map (·.size) = some cs.size) :
    (results fn tmps).run P w = .ok (.tuple #[.agg cs, u, v]) w := by
  have hp' : tmps[p]?.getD undef = .pointer (some ⟨g, 0, none⟩) := by simpa using hp
  have hq' : tmps[q]?.getD undef = u := by simpa using hq
  have hr' : tmps[r]?.getD undef = v := by simpa using hr
  simp [results, h, hp', hq', hr', asAddr, run_loadVar_row w g t ty cs fr d hg hu hd hi]

/-- an option, two numbers -/
def GivesT (w : World) (r : Ob × Nat × Int) (e : Ending) (w' : World) : Prop :=
  ∃ o : Od, e = .returned (.tuple #[.agg #[.int .i64 o.k, .slice o.A o.n o.c], .int .i64 (r.2.1 : Nat), .int .i64 r.2.2]) ∧ o.v = r.1 ∧ (∀ X : Option Nat, (∀ x, X = some x → x < w.heap.size) → o.off w' X) ∧ Below w.heap.size w w'
end Go.Proofs.Ytnfiijbnfmcpjaa
