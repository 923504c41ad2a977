/- A region whose order is open, walked by a plan, where what it reads is held by a condition that its own writes keep. No condition. -/
import Derived.Test.YtnfiijbnfmcpjaaReg2
namespace Go.Proofs.Ytnfiijbnfmcpjaa
open Go.RowKit

section
variable {P : Program} {ops : Array Oper} {Q : Exit → Act → World → Prop} {S : World → Prop}

def walkS (P : Program) (ops : Array Oper) (Q : Exit → Act → World → Prop) (S : World → Prop) : Plan → Act → World → Prop
  | .done, a, w => Q .normal a w
  | .rd i r, a, w => ∃ o v, ops[i]? = some o ∧ YieldsIf P ops S o v a ∧ walkS P ops Q S r (a.put o.dst v) w
  | .act i r, a, w => wpOp P ops Q i (fun a' w' => S w' ∧ walkS P ops Q S r a' w') a w
  | .fork i p j q, a, w => wpOp P ops Q i (fun a' w' => S w' ∧ walkS P ops Q S p a' w') a w ∧ wpOp P ops Q j (fun a' w' => S w' ∧ walkS P ops Q S q a' w') a w

theorem held_of_planS (hs : Region.noSelect ops = true) (hQ : ∀ c a d v w, Q (.panic c) (Act.put a d v) w → Q (.panic c) a w) :
    ∀ (r : Plan) (n : Nat) (listed : Array Bool) (a : Act) (w : World), S w → planB ops r n listed = true → walkS P ops Q S r a w → wpAnyH P .any ops Q S n listed a w
  | .done, n, listed, a, w, _, ho, h => wpAnyH_done (by simpa [planB] using ho) h n
  | .rd i r, n + 1, listed, a, w, hS, ho, h => by
    simp only [planB, Bool.and_eq_true] at ho
    obtain ⟨o, v, hi, hy, hw⟩ := h
    exact wpAnyH_take hi hs ho.1.2 ho.1.1 (fun c a w => hQ c a _ _ w) hy hS (held_of_planS hs hQ r n _ _ w hS ho.2 hw)
  | .act i r, n + 1, listed, a, w, hS, ho, h => by
    simp only [planB, Bool.and_eq_true, beq_iff_eq] at ho
    refine wpAnyH_all ho.1 (by simp) fun j hj => ?_
    obtain rfl : j = i := by simpa using hj
    exact wpOp_mono (fun a' w' h' => ⟨h'.1, held_of_planS hs hQ r n _ a' w' h'.1 ho.2 h'.2⟩) h
  | .fork i p j q, n + 1, listed, a, w, hS, ho, h => by
    simp only [planB, Bool.and_eq_true, beq_iff_eq] at ho
    refine wpAnyH_all ho.1.1 (by simp) fun k hk => ?_
    rcases List.mem_cons.1 hk with rfl | hk
    · exact wpOp_mono (fun a' w' h' => ⟨h'.1, held_of_planS hs hQ p n _ a' w' h'.1 ho.1.2 h'.2⟩) h.1
    · obtain rfl : k = j := by simpa using hk
      exact wpOp_mono (fun a' w' h' => ⟨h'.1, held_of_planS hs hQ q n _ a' w' h'.1 ho.2 h'.2⟩) h.2
  | .rd _ _, 0, _, _, _, _, ho, _ => by simp [planB] at ho
  | .act _ _, 0, _, _, _, _, ho, _ => by simp [planB] at ho
  | .fork _ _ _ _, 0, _, _, _, _, ho, _ => by simp [planB] at ho

theorem wp_region_planS {id : Nat} {a : Act} {w : World} (S : World → Prop) (r : Plan) (hm : P.follows .mixedOrders = true) (hs : Region.noSelect ops = true)
    (hQ : ∀ c a d v w, Q (.panic c) (Act.put a d v) w → Q (.panic c) a w) (ho : planB ops r ops.size (Array.replicate ops.size false) = true) (hS : S w.drew)
    (h : walkS P ops Q S r a w.drew) : (Code.region id ops true).wp P Q a w :=
  wp_region_held hm (held_of_planS hs hQ r ops.size _ a _ hS ho h)

theorem walkS_read {i : Nat} {r : Plan} {d : Option Tmp} {op : Op} {t : TypeId} {pos : String} {aft : Array Edge} {g : Option (Nat × Bool)} {v : Value} {a : Act} {w : World} (hi : ops[i]? = some ⟨d, op, t, pos, aft, g⟩)
    (hw : Region.wanted ⟨d, op, t, pos, #[], g⟩ (yielded ops a.tmps) = true)
    (hv : ∀ x, S x → (execOp a.eval ⟨d, op, t, pos, #[], g⟩).run P x = .ok (.value v) x) (h : walkS P ops Q S r (a.put d v) w) : walkS P ops Q S (.rd i r) a w :=
  ⟨_, v, hi, .inl ⟨hw, hv⟩, h⟩
theorem walkS_act {i : Nat} {r : Plan} {d : Option Tmp} {op : Op} {t : TypeId} {pos : String} {aft : Array Edge} {g : Option (Nat × Bool)} {a : Act} {w : World} (hi : ops[i]? = some ⟨d, op, t, pos, aft, g⟩)
    (hw : Region.wanted ⟨d, op, t, pos, #[], g⟩ (yielded ops a.tmps) = true)
    (h : ∀ K : Act → World → Prop, (∀ a' w', S w' → walkS P ops Q S r a' w' → K a' w') → Oper.wp P ⟨d, op, t, pos, #[], g⟩ a w K Q) : walkS P ops Q S (.act i r) a w :=
  wpOp_wanted hi hw (h _ fun _ _ h1 h2 => ⟨h1, h2⟩)
end
end Go.Proofs.Ytnfiijbnfmcpjaa
