/- Texts joined.
  From a law's walk to its statement, where the row lists variables of the library: the wrap that hands on the listed data and the world's shape. No condition.
  Arguments opened: a flow; what the listed variables give a walk of layer 14. No condition.
-/
import Derived.Test.YtjafjapnmffohaaDoorJKit
import Derived.HandedShaped
import Derived.LaidMore
import Derived.Lay
import Derived.Stop.Joined
import Derived.Test.YtjafjapnmffohaaDoorJFl
import Derived.Test.YtjafjapnmffohaaDoorJAf
import Derived.Test.YtjafjapnmffohaaDoorJSd
import Derived.Test.YtjafjapnmffohaaDoorRows
import Derived.Stop.LaidErr
set_option maxRecDepth 100000
namespace Go.Proofs.YtjafjapnmffohaaDoor
open Go.ChangeShapes Go.WideShapes Go.ChangeAt Go.RowKit

section
variable {H : Type} {enc : TypeId × Value → H}
/-- a change under a further condition on the world, with the world's shape -/
theorem returns_and_shaped {a : Assume} {C : Checked} {os : Os} {f : FuncId} {fn : Func} {s : ChangeSpec} {conds : List PathCond} {apart fresh handsOn again : Bool} {X : World → Array Value → Prop}
    (hX : ∀ (w w' : World) (args : Array Value), w.heap = w'.heap → X w args → X w' args)
    (own : ownKnob C.prog.godebug = none) (started : os.Started) (noInit : C.prog.inits.idxOf? f = none) (hfn : C.prog.funcs[f]? = some fn)
    (witness : ∃ (w : World) (tape : Tape) (i : Input), w.os = os ∧ (w.forCall tape i).Shaped C.prog ∧ i.vars = [] ∧ Input.okWide C.prog (w.forCall tape i) .any w.heap.size f i ∧
      ((s.pre enc C.prog fn conds apart (w.forCall tape i).memory i.args ∧ X (w.forCall tape i).memory i.args) ∧ sizedMet enc C.prog fn (OpenSpec.ofChange s) apart (w.forCall tape i).memory i.args) ∧ a.holds C.prog (lone (Frame.enter C.prog f i.args .normal) [] (w.forCall tape i)))
    (contract : ∀ (W : World) (base : Nat) (args : Array Value) (ds gs : List (DataW H)) (before : List MemPlace),
      (∀ (j : Nat) t v, fn.params[j]? = some t → args[j]? = some v → Value.okWide C.prog W .any base t v) →
      DataW.Whole enc C.prog fn.params.toList s.vars apart W args.toList ds gs before →
      (DataW.weightsEach C.prog (fn.params.toList ++ s.plain.varTypes C.prog) (ds ++ gs)).all (· ≤ reachBytes) = true → X W args → W.ShapedOpen C.prog →
      Calls C.prog f args W fun e W' => ∃ v, e = .returned v ∧ s.post enc C.prog fn apart fresh handsOn again W args v W') :
    ReturnsInHanded a C os f .any (fun w args => (s.pre enc C.prog fn conds apart w args ∧ X w args) ∧ sizedMet enc C.prog fn (OpenSpec.ofChange s) apart w args) (s.post enc C.prog fn apart fresh handsOn again) := by
  refine returnsInHanded_of_calls own started noInit witness ?_
  intro w tape i _ hsh _ hok hpre hholds
  obtain ⟨_, _, _, fn', hfn', _, _, _, _, hval⟩ := hok
  have e : fn' = fn := Option.some.inj (hfn'.symm.trans hfn)
  subst e
  obtain ⟨⟨⟨ds, gs, before, hw, hc⟩, hx⟩, hz⟩ := hpre
  have hw' := DataW.Whole.of_heap (w' := w.forCall tape i) (by rfl) hw
  refine (contract (w.forCall tape i) w.heap.size i.args ds gs before hval hw' (hz.weights hw) (hX _ _ _ (by rfl) hx) hsh).mono fun e W' ⟨v, he, hp⟩ => ?_
  subst he
  exact ChangeSpec.post_blind hp
end

end Go.Proofs.YtjafjapnmffohaaDoor

namespace Go.Proofs.YtjafjapnmffohaaDoor
open Go.ChangeShapes Go.WideShapes Go.ChangeAt Go.RowKit

section
variable {H : Type} {enc : TypeId × Value → H}
theorem cells_flow {cs : List Value} {a b : Int} {s t : List Int} (hl : cs.length = 34) (e0 : (cs.drop 0).take 16 = cellsB s) (e1 : (cs.drop 16).take 1 = [.int .i64 a]) (e2 : (cs.drop 17).take 16 = cellsB t) (e3 : (cs.drop 33).take 1 = [.int .i64 b]) : cs = fwC ⟨s, a, t, b⟩ := by
  have h1 : cs = cs.take 16 ++ cs.drop 16 := (List.take_append_drop 16 cs).symm
  have h2 : cs.drop 16 = (cs.drop 16).take 1 ++ cs.drop 17 := by
    have := (List.take_append_drop 1 (cs.drop 16)).symm
    rwa [List.drop_drop] at this
  have h3 : cs.drop 17 = (cs.drop 17).take 16 ++ cs.drop 33 := by
    have := (List.take_append_drop 16 (cs.drop 17)).symm
    rwa [List.drop_drop] at this
  have h4 : cs.drop 33 = (cs.drop 33).take 1 := (List.take_of_length_le (by simp; omega)).symm
  rw [List.drop_zero] at e0
  rw [h1, h2, h3, h4, e0, e1, e2, e3]
  rfl
theorem trod_flow {W : World} {n : Nat} {cs : List Value} {d : DataW H × List MemPlace} (hs : cs.length = 34) (hf : DataW.trod enc Tryd.prog W 0 (fun _ => true) true n 25 cs = some d) :
    ∃ f : Fw, cs = fwC f ∧ f.ok := by
  have hc1 : Tryd.prog.cellsOf 23 = 16 := by kernel_rfl
  have hci : Tryd.prog.cellsOf 3 = 1 := by kernel_rfl
  obtain ⟨xs, n, _, _, hl, hlen, hq⟩ := DataW.trod_struct Tryd.underlying25 hf
  have hx : xs.length = 4 := hlen
  have q0 := hq 0 _ rfl
  have q1 := hq 1 _ rfl
  have q2 := hq 2 _ rfl
  have q3 := hq 3 _ rfl
  rw [List.getElem?_eq_getElem (by omega)] at q0 q1 q2 q3
  obtain ⟨a1, e1, -, k1⟩ := DataW.trod_int Tryd.underlying3 q1
  obtain ⟨a3, e3, -, k3⟩ := DataW.trod_int Tryd.underlying3 q3
  replace e1 : List.take (Tryd.prog.cellsOf 3) (List.drop 16 cs) = [.int .i64 a1] := e1
  replace e3 : List.take (Tryd.prog.cellsOf 3) (List.drop 33 cs) = [.int .i64 a3] := e3
  rw [hci] at e1 e3
  replace q0 : DataW.trod enc Tryd.prog W 0 (fun _ => true) true n 23 (List.take (Tryd.prog.cellsOf 23) (List.drop 0 cs)) = some xs[0] := q0
  replace q2 : DataW.trod enc Tryd.prog W 0 (fun _ => true) true n 23 (List.take (Tryd.prog.cellsOf 23) (List.drop 17 cs)) = some xs[2] := q2
  rw [hc1] at q0 q2
  obtain ⟨s, ls, es, vs⟩ := trod_addr (by simp; omega) q0
  obtain ⟨t, lt, et, vt⟩ := trod_addr (by simp; omega) q2
  exact ⟨⟨s, a1, t, a3⟩, cells_flow hs es e1 et e3, ⟨ls, lt, vs, vt, i64ok_wf k1, i64ok_wf k3⟩⟩
theorem open_flow {W : World} {v : Value} {base : Nat} {d : DataW H} {p : List MemPlace} (hval : Value.okWide Tryd.prog W .any base 25 v) (h0 : DataW.Trod enc Tryd.prog W 0 (fun _ => true) true 25 v d p) :
    ∃ f : Fw, v = fwV f ∧ f.ok := by
  have hc2 : Tryd.prog.cellsOf 25 = 34 := by kernel_rfl
  unfold Value.okWide at hval
  rw [Tryd.underlying25] at hval
  obtain ⟨⟨cs⟩, rfl, hs, _⟩ := hval
  rw [hc2] at hs
  obtain ⟨fuel, hf⟩ := h0
  obtain ⟨f, e, hk⟩ := trod_flow (cs := cs) hs hf
  exact ⟨f, by rw [e]; rfl, hk⟩
end
theorem cells_u8F : Tryd.prog.cellsOf 5 = 1 := by kernel_rfl
end Go.Proofs.YtjafjapnmffohaaDoor
