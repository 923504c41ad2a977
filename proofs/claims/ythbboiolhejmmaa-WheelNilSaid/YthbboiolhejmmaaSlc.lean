/- Slices cut at any places: where what is left lies, and what it holds. No condition. -/
import Derived.Test.YthbboiolhejmmaaJOct
set_option maxRecDepth 100000
namespace Go.Proofs.Ythbboiolhejmmaa
open Go.RowKit
set_option linter.unusedVariables false

section
variable (b o n c s m : Nat) (q r : Int) (hc : n ≤ c)
include hc
end
theorem slc_exec {f : Operand → Value} {dd : Option Tmp} {t : TypeId} {x : Operand} {lo hi mx : Option Operand} {ty : TypeId} {pos : String} {gd : Option (Nat × Bool)} {w : World} {v : Value}
    (h : (Instr.sliceAt t (f x) (lo.map f) (hi.map f) (mx.map f)).run Try.prog w = .ok v w) : (execOp f ⟨dd, .slice t x lo hi mx, ty, pos, #[], gd⟩).run Try.prog w = .ok (.value v) w := by
  unfold execOp
  simp only [Sem.run_bind, h, Result.andThen_ok, Sem.run_pure]
theorem slc_wp {ops : Array Oper} {rest : List Oper} {o : Oper} {a : Act} {w : World} {Q : Exit → Act → World → Prop} (hgd : o.guard = none) (t : TypeId) (x : Operand) (lo hi mx : Option Operand) (ho : o.op = .slice t x lo hi mx) (v : Value)
    (h : (Instr.sliceAt t (a.eval x) (lo.map a.eval) (hi.map a.eval) (mx.map a.eval)).run Try.prog w = .ok v w) (hk : wpList Try.prog ops Q rest (a.put o.dst v) w) : wpList Try.prog ops Q (o :: rest) a w :=
  wpList_plain hgd fun K hK => by
    unfold Oper.wp execOp
    simp only [ho, Sem.run_bind, h, Result.andThen_ok, Sem.run_pure]
    exact hK _ _ hk
theorem Bs.cut {w : World} {B n m : Nat} {A' : Option Addr} {b o s : Nat} {xs : List Int} (h : Bs w B (some ⟨b, o, none⟩) n xs) (hs : s ≤ m) (hm : m ≤ n) (hA : 0 < m - s → A' = some ⟨b, o + s, none⟩) : Bs w B A' (m - s) ((xs.take m).drop s) :=
  ⟨by rw [List.length_drop, List.length_take, h.len]; omega, (h.all.take m).drop s, fun hn => by
    obtain ⟨b', o', e, hb, hc⟩ := h.mem (by omega)
    injection e with e
    injection e with e1 e2 _
    subst e1 e2
    refine ⟨_, _, hA hn, hb, fun i hi => ?_⟩
    have := hc (s + i) (by omega)
    rw [← Nat.add_assoc] at this
    rw [this]
    have hlt : s + i < m := by omega
    simp [List.getD, List.getElem?_drop, hlt]⟩
theorem Bs.cutFrom {w : World} {B n : Nat} {A' : Option Addr} {b o s : Nat} {xs : List Int} (h : Bs w B (some ⟨b, o, none⟩) n xs) (hs : s ≤ n) (hA : 0 < n - s → A' = some ⟨b, o + s, none⟩) : Bs w B A' (n - s) (xs.drop s) := by
  have h1 := h.cut (m := n) hs (Nat.le_refl _) hA
  rw [List.take_of_length_le (by rw [h.len]; omega)] at h1
  exact h1
theorem Bs.cutUpto {w : World} {B n m : Nat} {b o : Nat} {xs : List Int} (h : Bs w B (some ⟨b, o, none⟩) n xs) (hm : m ≤ n) : Bs w B (some ⟨b, o, none⟩) m (xs.take m) := by
  have h1 := h.cut (s := 0) (A' := some ⟨b, o, none⟩) (Nat.zero_le m) hm (fun _ => by rw [Nat.add_zero])
  simpa using h1
end Go.Proofs.Ythbboiolhejmmaa
