/- topt.laid: the function that it hands back goes over the bytes of options, part by part. Condition: at most 2^47 options. -/
import Derived.Test.YtnfiijbnfmcpjaaTpC
import Derived.Test.YtnfiijbnfmcpjaaRf
import Derived.Test.YtnfiijbnfmcpjaaVals
namespace Go.Proofs.Ytnfiijbnfmcpjaa
open Go.RowKit
set_option linter.unusedVariables false
attribute [local go_sem] Oper.semAt_some

/-- append of bytes onto a row of the call's own, inside a fence -/
theorem wpListIn_append_bs {F : Fence} {k : Nat} {P : Program} {w : World} {ops : Array Oper} {rest : List Oper} {o : Oper} {a : Act} {Q : Exit → Act → World → Prop} (hgd : o.guard = none) (s x : Operand) (t : TypeId)
    (ho : o.op = .call { callee := .builtin .append, args := #[s, x], argTypes := #[t, t] })
    (base : Nat) (e : TypeId) (i : TypeInfo) (ht : P.underlying t = some (.slice e)) (hi : P.info? e = some i) (hz : i.zero = some (.int .u8 0)) (hsize : i.size = 1) (hby : i.bytes = 1)
    (A0 : Option Addr) (n c0 : Nat) (xs : List Int) (hs : a.eval s = .slice A0 n c0) (hown : OwnB e w base A0 n c0 xs)
    (A : Option Addr) (m c B : Nat) (ys : List Int) (hx : a.eval x = .slice A m c) (hb : Bs w B A m ys) (hn : n + m ≤ 140737488355328) (hbase : base ≤ w.heap.size)
    (h : ∀ A' c' w', OwnB e w' base A' (n + m) c' (xs ++ ys) → w.grownBy w' (Value.slice A0 n c0).ownBlock → ((Value.slice A' (n + m) c').ownBlock = (Value.slice A0 n c0).ownBlock ∨ (Value.slice A' (n + m) c').ownBlock = some w.heap.size) →
      wpListIn F k P ops Q rest (a.put o.dst (.slice A' (n + m) c')) w') : wpListIn F k P ops Q (o :: rest) a w := by
  refine wpListIn_plain hgd fun K hK => ?_
  obtain ⟨A', c', w', hrun, h2, h3, h4⟩ := run_append_bs (P := P) w base t o.type e i ht hi hz hsize hby A0 n c0 xs hown A m c B ys hb hn hbase
  unfold Oper.wpIn
  refine ⟨?_, ?_⟩
  · simp [Oper.about, ho, resolve, Target.leads, Sem.run_pure]
  · rw [Oper.semAt_plain F _ _ (by rw [ho]; intro c hc; cases hc)]
    simp only [execOp, ho, resolve, invoke, builtin, Sem.run_bind, Sem.run_pure, Result.andThen_ok, List.map_toArray, List.map_cons, List.map_nil, hs, hx, hrun]
    exact hK _ _ (h A' c' w' h2 h3 h4)

/-- the parts: what stands ahead of an option's data, then its data -/
def partsO (l : List Ob) : List (List Int) := l.flatMap fun o => [headO o, o.2]
theorem partsO_length : ∀ l : List Ob, (partsO l).length = l.length * 2
  | [] => rfl
  | o :: l => by
    have := partsO_length l
    unfold partsO at this ⊢
    simp only [List.flatMap_cons, List.cons_append, List.nil_append, List.length_cons]
    omega
theorem partsO_get : ∀ (l : List Ob) (i : Nat), i < l.length → (partsO l).getD (i * 2) [] = headO (l.getD i zeroB) ∧ (partsO l).getD (i * 2 + 1) [] = (l.getD i zeroB).2
  | [], i, h => by simp at h
  | o :: l, 0, _ => ⟨rfl, rfl⟩
  | o :: l, i + 1, h => by
    have ih := partsO_get l i (by simpa using h)
    have e : partsO (o :: l) = headO o :: o.2 :: partsO l := rfl
    rw [e, show (i + 1) * 2 = i * 2 + 1 + 1 by omega]
    simp only [List.getD_cons_succ]
    exact ih
theorem partsO_flat (l : List Ob) : (partsO l).flatten = flatO l := by
  induction l with
  | nil => rfl
  | cons o l ih =>
    have e : partsO (o :: l) = headO o :: o.2 :: partsO l := rfl
    rw [e, List.flatten_cons, List.flatten_cons, ih]
    simp [flatO]
theorem getD_v (os : List Od) (i : Nat) : (os.map Od.v).getD i zeroB = (os.getD i zeroO).v := by
  simp only [List.getD, List.getElem?_map]
  cases os[i]? <;> rfl

end Go.Proofs.Ytnfiijbnfmcpjaa
