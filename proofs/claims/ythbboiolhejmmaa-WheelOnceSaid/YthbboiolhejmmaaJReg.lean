/- Texts joined.
  A region whose order is open, walked in one order: what only reads old memory may be taken as soon as it may come up; what makes memory comes up alone. No condition.
  A region whose order is open, walked by a plan that may fork: where two that make memory may come up, either may be the first. No condition.
  A region whose order is open, walked by a plan, where what it reads is held by a condition that its own writes keep. No condition.
  Regions that draw in a call whose ways out read its results' slots: no way gives up, or what holds then is told apart. No program; no condition.
-/
import Derived.Test.YthbboiolhejmmaaBytes
import Derived.OrdersHeld
set_option maxRecDepth 100000
namespace Go.Proofs.Ythbboiolhejmmaa
open Go.RowKit

/-- of what there was nothing has turned -/
def Low (w w' : World) : Prop := Below w.heap.size w w'
theorem Low.refl (w : World) : Low w w := Below.refl _ _
theorem Low.trans {a b c : World} (h : Low a b) (k : Low b c) : Low a c := Below.trans h (Below.mono k h.size)
theorem Low.alloc (w : World) (o : Obj) : Low w (w.alloc o) := Below.alloc (Below.refl _ _) (Nat.le_refl _) o

section
variable {P : Program} {ops : Array Oper} {Q : Exit → Act → World → Prop} {md : Region.Mode}

/-- a stronger condition on the worlds serves a weaker one -/
theorem held_weaker {S S' : World → Prop} (k : ∀ x, S' x → S x) : ∀ (fuel : Nat) (listed : Array Bool) (a : Act) (w : World), wpAnyH P md ops Q S' fuel listed a w → wpAnyH P md ops Q S fuel listed a w
  | 0, _, _, _, h => h
  | fuel + 1, _, _, _, h => ⟨h.1, fun i hi => wpOp_mono (fun a' w' h' => ⟨k w' h'.1, held_weaker k fuel _ a' w' h'.2⟩) (h.2 i hi)⟩

/-- is the order good: each may come up at its turn; one that reads is apart from those before which it could come; one that makes memory is the only one that may come up? -/
def orderB (ops : Array Oper) : List (Nat × Bool) → Array Bool → Bool
  | [], listed => (Region.ready .any ops listed).isEmpty
  | (i, true) :: r, listed => Region.ready .any ops listed == [i] && orderB ops r (listed.setIfInBounds i true)
  | (i, false) :: r, listed => (Region.ready .any ops listed).contains i && Region.free .any ops listed i && orderB ops r (listed.setIfInBounds i true)

/-- the walk in that order -/
def walkM (P : Program) (ops : Array Oper) (Q : Exit → Act → World → Prop) : List (Nat × Bool) → Act → World → Prop
  | [], a, w => Q .normal a w
  | (i, true) :: r, a, w => wpOp P ops Q i (fun a' w' => Low w w' ∧ walkM P ops Q r a' w') a w
  | (i, false) :: r, a, w => ∃ o v, ops[i]? = some o ∧ YieldsIf P ops (Low w) o v a ∧ walkM P ops Q r (a.put o.dst v) w

theorem held_of_walk (hs : Region.noSelect ops = true) (hQ : ∀ c a d v w, Q (.panic c) (Act.put a d v) w → Q (.panic c) a w) :
    ∀ (r : List (Nat × Bool)) (listed : Array Bool) (a : Act) (w : World), orderB ops r listed = true → walkM P ops Q r a w → wpAnyH P .any ops Q (Low w) r.length listed a w
  | [], listed, a, w, ho, h => ⟨by simpa [orderB] using ho, h⟩
  | (i, true) :: r, listed, a, w, ho, h => by
    simp only [orderB, Bool.and_eq_true, beq_iff_eq] at ho
    refine wpAnyH_all ho.1 (by simp) fun j hj => ?_
    obtain rfl : j = i := by simpa using hj
    exact wpOp_mono (fun a' w' h' => ⟨h'.1, held_weaker (fun x hx => h'.1.trans hx) _ _ _ _ (held_of_walk hs hQ r _ a' w' ho.2 h'.2)⟩) h
  | (i, false) :: r, listed, a, w, ho, h => by
    simp only [orderB, Bool.and_eq_true] at ho
    obtain ⟨o, v, hi, hy, hw⟩ := h
    exact wpAnyH_take hi hs ho.1.2 ho.1.1 (fun c a w => hQ c a _ _ w) hy (Low.refl w) (held_of_walk hs hQ r _ _ w ho.2 hw)

/-- THE LAW: one order serves every order -/
theorem wp_region_order {id : Nat} {a : Act} {w : World} (r : List (Nat × Bool)) (hm : P.follows .mixedOrders = true) (hs : Region.noSelect ops = true)
    (hQ : ∀ c a d v w, Q (.panic c) (Act.put a d v) w → Q (.panic c) a w) (hl : r.length = ops.size) (ho : orderB ops r (Array.replicate ops.size false) = true)
    (h : walkM P ops Q r a w.drew) : (Code.region id ops true).wp P Q a w := by
  have k := held_of_walk hs hQ r _ a _ ho h
  rw [hl] at k
  exact wp_region_held hm k

/-- one that is wanted and reads -/
theorem walkM_read {i : Nat} {r : List (Nat × Bool)} {d : Option Tmp} {op : Op} {t : TypeId} {pos : String} {aft : Array Edge} {g : Option (Nat × Bool)} {v : Value} {a : Act} {w : World} (hi : ops[i]? = some ⟨d, op, t, pos, aft, g⟩)
    (hw : Region.wanted ⟨d, op, t, pos, #[], g⟩ (yielded ops a.tmps) = true)
    (hv : ∀ x, Low w x → (execOp a.eval ⟨d, op, t, pos, #[], g⟩).run P x = .ok (.value v) x) (h : walkM P ops Q r (a.put d v) w) : walkM P ops Q ((i, false) :: r) a w :=
  ⟨_, v, hi, .inl ⟨hw, hv⟩, h⟩
/-- one that is wanted and acts -/
theorem walkM_act {i : Nat} {r : List (Nat × Bool)} {d : Option Tmp} {op : Op} {t : TypeId} {pos : String} {aft : Array Edge} {g : Option (Nat × Bool)} {a : Act} {w : World} (hi : ops[i]? = some ⟨d, op, t, pos, aft, g⟩)
    (hw : Region.wanted ⟨d, op, t, pos, #[], g⟩ (yielded ops a.tmps) = true)
    (h : ∀ K : Act → World → Prop, (∀ a' w', Low w w' → walkM P ops Q r a' w' → K a' w') → Oper.wp P ⟨d, op, t, pos, #[], g⟩ a w K Q) : walkM P ops Q ((i, true) :: r) a w := by
  unfold walkM wpOp
  have hw' : Region.wanted ⟨d, op, t, pos, aft, g⟩ (yielded ops a.tmps) = true := hw
  simp only [hi, hw', if_true]
  exact .inl (h (fun a' w' => Low w w' ∧ walkM P ops Q r a' w') fun v w' h1 h2 => ⟨h1, h2⟩)
/-- one whose guard says no -/
theorem walkM_skip {i : Nat} {b : Bool} {r : List (Nat × Bool)} {d : Option Tmp} {op : Op} {t : TypeId} {pos : String} {aft : Array Edge} {g : Option (Nat × Bool)} {a : Act} {w : World} (hi : ops[i]? = some ⟨d, op, t, pos, aft, g⟩)
    (hw : Region.wanted ⟨d, op, t, pos, #[], g⟩ (yielded ops a.tmps) = false)
    (h : walkM P ops Q r (a.put d undef) w) : walkM P ops Q ((i, b) :: r) a w := by
  have hw' : Region.wanted ⟨d, op, t, pos, aft, g⟩ (yielded ops a.tmps) = false := hw
  cases b with
  | false => exact ⟨_, undef, hi, .inr ⟨hw', rfl⟩, h⟩
  | true =>
    unfold walkM wpOp
    simp only [hi, hw']
    exact ⟨Low.refl w, h⟩
end
end Go.Proofs.Ythbboiolhejmmaa

namespace Go.Proofs.Ythbboiolhejmmaa
open Go.RowKit

/-- in which order: one that reads, one that acts and comes up alone, two that act of which either may be the first -/
inductive Plan where
  | done : Plan
  | rd : Nat → Plan → Plan
  | act : Nat → Plan → Plan
  | fork : Nat → Plan → Nat → Plan → Plan

section
variable {P : Program} {ops : Array Oper} {Q : Exit → Act → World → Prop}

def planB (ops : Array Oper) : Plan → Nat → Array Bool → Bool
  | .done, _, listed => (Region.ready .any ops listed).isEmpty
  | .rd i r, n + 1, listed => (Region.ready .any ops listed).contains i && Region.free .any ops listed i && planB ops r n (listed.setIfInBounds i true)
  | .act i r, n + 1, listed => Region.ready .any ops listed == [i] && planB ops r n (listed.setIfInBounds i true)
  | .fork i p j q, n + 1, listed => Region.ready .any ops listed == [i, j] && planB ops p n (listed.setIfInBounds i true) && planB ops q n (listed.setIfInBounds j true)
  | _, 0, _ => false

def walkP (P : Program) (ops : Array Oper) (Q : Exit → Act → World → Prop) : Plan → Act → World → Prop
  | .done, a, w => Q .normal a w
  | .rd i r, a, w => ∃ o v, ops[i]? = some o ∧ YieldsIf P ops (Low w) o v a ∧ walkP P ops Q r (a.put o.dst v) w
  | .act i r, a, w => wpOp P ops Q i (fun a' w' => Low w w' ∧ walkP P ops Q r a' w') a w
  | .fork i p j q, a, w => wpOp P ops Q i (fun a' w' => Low w w' ∧ walkP P ops Q p a' w') a w ∧ wpOp P ops Q j (fun a' w' => Low w w' ∧ walkP P ops Q q a' w') a w

theorem held_of_plan (hs : Region.noSelect ops = true) (hQ : ∀ c a d v w, Q (.panic c) (Act.put a d v) w → Q (.panic c) a w) :
    ∀ (r : Plan) (n : Nat) (listed : Array Bool) (a : Act) (w : World), planB ops r n listed = true → walkP P ops Q r a w → wpAnyH P .any ops Q (Low w) n listed a w
  | .done, n, listed, a, w, ho, h => wpAnyH_done (by simpa [planB] using ho) h n
  | .rd i r, n + 1, listed, a, w, ho, h => by
    simp only [planB, Bool.and_eq_true] at ho
    obtain ⟨o, v, hi, hy, hw⟩ := h
    exact wpAnyH_take hi hs ho.1.2 ho.1.1 (fun c a w => hQ c a _ _ w) hy (Low.refl w) (held_of_plan hs hQ r n _ _ w ho.2 hw)
  | .act i r, n + 1, listed, a, w, ho, h => by
    simp only [planB, Bool.and_eq_true, beq_iff_eq] at ho
    refine wpAnyH_all ho.1 (by simp) fun j hj => ?_
    obtain rfl : j = i := by simpa using hj
    exact wpOp_mono (fun a' w' h' => ⟨h'.1, held_weaker (fun x hx => h'.1.trans hx) _ _ _ _ (held_of_plan hs hQ r n _ a' w' ho.2 h'.2)⟩) h
  | .fork i p j q, n + 1, listed, a, w, ho, h => by
    simp only [planB, Bool.and_eq_true, beq_iff_eq] at ho
    refine wpAnyH_all ho.1.1 (by simp) fun k hk => ?_
    rcases List.mem_cons.1 hk with rfl | hk
    · exact wpOp_mono (fun a' w' h' => ⟨h'.1, held_weaker (fun x hx => h'.1.trans hx) _ _ _ _ (held_of_plan hs hQ p n _ a' w' ho.1.2 h'.2)⟩) h.1
    · obtain rfl : k = j := by simpa using hk
      exact wpOp_mono (fun a' w' h' => ⟨h'.1, held_weaker (fun x hx => h'.1.trans hx) _ _ _ _ (held_of_plan hs hQ q n _ a' w' ho.2 h'.2)⟩) h.2
  | .rd _ _, 0, _, _, _, ho, _ => by simp [planB] at ho
  | .act _ _, 0, _, _, _, ho, _ => by simp [planB] at ho
  | .fork _ _ _ _, 0, _, _, _, ho, _ => by simp [planB] at ho

/-- THE LAW: the plan serves every order -/
theorem wp_region_plan {id : Nat} {a : Act} {w : World} (r : Plan) (hm : P.follows .mixedOrders = true) (hs : Region.noSelect ops = true)
    (hQ : ∀ c a d v w, Q (.panic c) (Act.put a d v) w → Q (.panic c) a w) (ho : planB ops r ops.size (Array.replicate ops.size false) = true)
    (h : walkP P ops Q r a w.drew) : (Code.region id ops true).wp P Q a w :=
  wp_region_held hm (held_of_plan hs hQ r ops.size _ a _ ho h)

theorem walkP_read {i : Nat} {r : Plan} {d : Option Tmp} {op : Op} {t : TypeId} {pos : String} {aft : Array Edge} {g : Option (Nat × Bool)} {v : Value} {a : Act} {w : World} (hi : ops[i]? = some ⟨d, op, t, pos, aft, g⟩)
    (hw : Region.wanted ⟨d, op, t, pos, #[], g⟩ (yielded ops a.tmps) = true)
    (hv : ∀ x, Low w x → (execOp a.eval ⟨d, op, t, pos, #[], g⟩).run P x = .ok (.value v) x) (h : walkP P ops Q r (a.put d v) w) : walkP P ops Q (.rd i r) a w :=
  ⟨_, v, hi, .inl ⟨hw, hv⟩, h⟩
theorem walkP_skip {i : Nat} {r : Plan} {d : Option Tmp} {op : Op} {t : TypeId} {pos : String} {aft : Array Edge} {g : Option (Nat × Bool)} {a : Act} {w : World} (hi : ops[i]? = some ⟨d, op, t, pos, aft, g⟩)
    (hw : Region.wanted ⟨d, op, t, pos, #[], g⟩ (yielded ops a.tmps) = false) (h : walkP P ops Q r (a.put d undef) w) : walkP P ops Q (.rd i r) a w := by
  have hw' : Region.wanted ⟨d, op, t, pos, aft, g⟩ (yielded ops a.tmps) = false := hw
  exact ⟨_, undef, hi, .inr ⟨hw', rfl⟩, h⟩
theorem wpOp_wanted {i : Nat} {d : Option Tmp} {op : Op} {t : TypeId} {pos : String} {aft : Array Edge} {g : Option (Nat × Bool)} {a : Act} {w : World} {K : Act → World → Prop} (hi : ops[i]? = some ⟨d, op, t, pos, aft, g⟩)
    (hw : Region.wanted ⟨d, op, t, pos, #[], g⟩ (yielded ops a.tmps) = true) (h : Oper.wp P ⟨d, op, t, pos, #[], g⟩ a w K Q) : wpOp P ops Q i K a w := by
  unfold wpOp
  have hw' : Region.wanted ⟨d, op, t, pos, aft, g⟩ (yielded ops a.tmps) = true := hw
  simp only [hi, hw', if_true]
  exact .inl h
theorem walkP_act {i : Nat} {r : Plan} {d : Option Tmp} {op : Op} {t : TypeId} {pos : String} {aft : Array Edge} {g : Option (Nat × Bool)} {a : Act} {w : World} (hi : ops[i]? = some ⟨d, op, t, pos, aft, g⟩)
    (hw : Region.wanted ⟨d, op, t, pos, #[], g⟩ (yielded ops a.tmps) = true)
    (h : ∀ K : Act → World → Prop, (∀ a' w', Low w w' → walkP P ops Q r a' w' → K a' w') → Oper.wp P ⟨d, op, t, pos, #[], g⟩ a w K Q) : walkP P ops Q (.act i r) a w :=
  wpOp_wanted hi hw (h _ fun _ _ h1 h2 => ⟨h1, h2⟩)
theorem walkP_fork {i j : Nat} {p q : Plan} {a : Act} {w : World} (h1 : walkP P ops Q (.act i p) a w) (h2 : walkP P ops Q (.act j q) a w) : walkP P ops Q (.fork i p j q) a w := ⟨h1, h2⟩
end
end Go.Proofs.Ythbboiolhejmmaa

namespace Go.Proofs.Ythbboiolhejmmaa
open Go.RowKit

section
variable {P : Program} {ops : Array Oper} {Q : Exit → Act → World → Prop} {S : World → Prop}

def walkS (P : Program) (ops : Array Oper) (Q : Exit → Act → World → Prop) (S : World → Prop) : Plan → Act → World → Prop
  | .done, a, w => Q .normal a w
  | .rd i r, a, w => ∃ o v, ops[i]? = some o ∧ YieldsIf P ops S o v a ∧ walkS P ops Q S r (a.put o.dst v) w
  | .act i r, a, w => wpOp P ops Q i (fun a' w' => S w' ∧ walkS P ops Q S r a' w') a w
  | .fork i p j q, a, w => wpOp P ops Q i (fun a' w' => S w' ∧ walkS P ops Q S p a' w') a w ∧ wpOp P ops Q j (fun a' w' => S w' ∧ walkS P ops Q S q a' w') a w

theorem held_of_planS (hs : Region.noSelect ops = true) (hQ : ∀ c a d v w, Q (.panic c) (Act.put a d v) w → Q (.panic c) a w) :
    ∀ (r : Plan) (n : Nat) (listed : Array Bool) (a : Act) (w : World), S w → planB ops r n listed = true → walkS P ops Q S r a w → wpAnyH P .any ops Q S n listed a w
  | .done, n, listed, a, w, _, ho, h => wpAnyH_done (by simpa [planB] using ho) h n
  | .rd i r, n + 1, listed, a, w, hS, ho, h => by
    simp only [planB, Bool.and_eq_true] at ho
    obtain ⟨o, v, hi, hy, hw⟩ := h
    exact wpAnyH_take hi hs ho.1.2 ho.1.1 (fun c a w => hQ c a _ _ w) hy hS (held_of_planS hs hQ r n _ _ w hS ho.2 hw)
  | .act i r, n + 1, listed, a, w, hS, ho, h => by
    simp only [planB, Bool.and_eq_true, beq_iff_eq] at ho
    refine wpAnyH_all ho.1 (by simp) fun j hj => ?_
    obtain rfl : j = i := by simpa using hj
    exact wpOp_mono (fun a' w' h' => ⟨h'.1, held_of_planS hs hQ r n _ a' w' h'.1 ho.2 h'.2⟩) h
  | .fork i p j q, n + 1, listed, a, w, hS, ho, h => by
    simp only [planB, Bool.and_eq_true, beq_iff_eq] at ho
    refine wpAnyH_all ho.1.1 (by simp) fun k hk => ?_
    rcases List.mem_cons.1 hk with rfl | hk
    · exact wpOp_mono (fun a' w' h' => ⟨h'.1, held_of_planS hs hQ p n _ a' w' h'.1 ho.1.2 h'.2⟩) h.1
    · obtain rfl : k = j := by simpa using hk
      exact wpOp_mono (fun a' w' h' => ⟨h'.1, held_of_planS hs hQ q n _ a' w' h'.1 ho.2 h'.2⟩) h.2
  | .rd _ _, 0, _, _, _, _, ho, _ => by simp [planB] at ho
  | .act _ _, 0, _, _, _, _, ho, _ => by simp [planB] at ho
  | .fork _ _ _ _, 0, _, _, _, _, ho, _ => by simp [planB] at ho

theorem wp_region_planS {id : Nat} {a : Act} {w : World} (S : World → Prop) (r : Plan) (hm : P.follows .mixedOrders = true) (hs : Region.noSelect ops = true)
    (hQ : ∀ c a d v w, Q (.panic c) (Act.put a d v) w → Q (.panic c) a w) (ho : planB ops r ops.size (Array.replicate ops.size false) = true) (hS : S w.drew)
    (h : walkS P ops Q S r a w.drew) : (Code.region id ops true).wp P Q a w :=
  wp_region_held hm (held_of_planS hs hQ r ops.size _ a _ hS ho h)

theorem walkS_read {i : Nat} {r : Plan} {d : Option Tmp} {op : Op} {t : TypeId} {pos : String} {aft : Array Edge} {g : Option (Nat × Bool)} {v : Value} {a : Act} {w : World} (hi : ops[i]? = some ⟨d, op, t, pos, aft, g⟩)
    (hw : Region.wanted ⟨d, op, t, pos, #[], g⟩ (yielded ops a.tmps) = true)
    (hv : ∀ x, S x → (execOp a.eval ⟨d, op, t, pos, #[], g⟩).run P x = .ok (.value v) x) (h : walkS P ops Q S r (a.put d v) w) : walkS P ops Q S (.rd i r) a w :=
  ⟨_, v, hi, .inl ⟨hw, hv⟩, h⟩
theorem walkS_act {i : Nat} {r : Plan} {d : Option Tmp} {op : Op} {t : TypeId} {pos : String} {aft : Array Edge} {g : Option (Nat × Bool)} {a : Act} {w : World} (hi : ops[i]? = some ⟨d, op, t, pos, aft, g⟩)
    (hw : Region.wanted ⟨d, op, t, pos, #[], g⟩ (yielded ops a.tmps) = true)
    (h : ∀ K : Act → World → Prop, (∀ a' w', S w' → walkS P ops Q S r a' w' → K a' w') → Oper.wp P ⟨d, op, t, pos, #[], g⟩ a w K Q) : walkS P ops Q S (.act i r) a w :=
  wpOp_wanted hi hw (h _ fun _ _ h1 h2 => ⟨h1, h2⟩)
end
theorem walkS_forkD {P : Program} {ops : Array Oper} {Q : Exit → Act → World → Prop} {S : World → Prop} {i j : Nat} {p q : Plan} {a : Act} {w : World} (h1 : walkS P ops Q S (.act i p) a w) (h2 : walkS P ops Q S (.act j q) a w) : walkS P ops Q S (.fork i p j q) a w := ⟨h1, h2⟩
end Go.Proofs.Ythbboiolhejmmaa

namespace Go.Proofs.Ythbboiolhejmmaa
open Go.RowKit
set_option linter.unusedVariables false

section
variable {P : Program} {ops : Array Oper} {Q : Exit → Act → World → Prop} {S : World → Prop}
theorem held_of_planD (D : Option Tmp → Bool) (hs : Region.noSelect ops = true) (hD : ops.all (fun o => D o.dst) = true) (hQ : ∀ c a d v w, D d = true → Q (.panic c) (Act.put a d v) w → Q (.panic c) a w) :
    ∀ (r : Plan) (n : Nat) (listed : Array Bool) (a : Act) (w : World), S w → planB ops r n listed = true → walkS P ops Q S r a w → wpAnyH P .any ops Q S n listed a w
  | .done, n, listed, a, w, _, ho, h => wpAnyH_done (by simpa [planB] using ho) h n
  | .rd i r, n + 1, listed, a, w, hS, ho, h => by
    simp only [planB, Bool.and_eq_true] at ho
    obtain ⟨o, v, hi, hy, hw⟩ := h
    have hd : D o.dst = true := by
      have := Array.all_eq_true_iff_forall_mem.1 hD o (Array.mem_of_getElem? hi)
      simpa using this
    exact wpAnyH_take hi hs ho.1.2 ho.1.1 (fun c a w => hQ c a _ _ w hd) hy hS (held_of_planD D hs hD hQ r n _ _ w hS ho.2 hw)
  | .act i r, n + 1, listed, a, w, hS, ho, h => by
    simp only [planB, Bool.and_eq_true, beq_iff_eq] at ho
    refine wpAnyH_all ho.1 (by simp) fun j hj => ?_
    obtain rfl : j = i := by simpa using hj
    exact wpOp_mono (fun a' w' h' => ⟨h'.1, held_of_planD D hs hD hQ r n _ a' w' h'.1 ho.2 h'.2⟩) h
  | .fork i p j q, n + 1, listed, a, w, hS, ho, h => by
    simp only [planB, Bool.and_eq_true, beq_iff_eq] at ho
    refine wpAnyH_all ho.1.1 (by simp) fun k hk => ?_
    rcases List.mem_cons.1 hk with rfl | hk
    · exact wpOp_mono (fun a' w' h' => ⟨h'.1, held_of_planD D hs hD hQ p n _ a' w' h'.1 ho.1.2 h'.2⟩) h.1
    · obtain rfl : k = j := by simpa using hk
      exact wpOp_mono (fun a' w' h' => ⟨h'.1, held_of_planD D hs hD hQ q n _ a' w' h'.1 ho.2 h'.2⟩) h.2
  | .rd _ _, 0, _, _, _, _, ho, _ => by simp [planB] at ho
  | .act _ _, 0, _, _, _, _, ho, _ => by simp [planB] at ho
  | .fork _ _ _ _, 0, _, _, _, _, ho, _ => by simp [planB] at ho

/-- what holds where a region is left, but a way that gives up is told by R alone -/
def orThrow (R : List PanicEntry → Act → World → Prop) (Q : Exit → Act → World → Prop) : Exit → Act → World → Prop
  | .panic c, a, w => R c a w
  | e, a, w => Q e a w
/-- a region that draws, of which a call may give up: R is what holds then, whatever was read -/
theorem wp_region_planD {id : Nat} {a : Act} {w : World} (S : World → Prop) (R : List PanicEntry → Act → World → Prop) (r : Plan) (D : Option Tmp → Bool) (hm : P.follows .mixedOrders = true) (hs : Region.noSelect ops = true) (hD : ops.all (fun o => D o.dst) = true)
    (hR : ∀ c a d v w, D d = true → R c (Act.put a d v) w → R c a w) (hRQ : ∀ c a w, R c a w → Q (.panic c) a w) (ho : planB ops r ops.size (Array.replicate ops.size false) = true) (hS : S w.drew)
    (h : walkS P ops (orThrow R Q) S r a w.drew) : (Code.region id ops true).wp P Q a w :=
  Code.wp_mono (Q := orThrow R Q) (fun e a' w' hq => by cases e with | panic c => exact hRQ c a' w' hq | _ => exact hq) (wp_region_held hm (held_of_planD (Q := orThrow R Q) D hs hD (fun c a d v w hd hq => hR c a d v w hd hq) r ops.size _ a _ hS ho h))
/-- none gives up -/
theorem wp_region_planN {id : Nat} {a : Act} {w : World} (S : World → Prop) (r : Plan) (hm : P.follows .mixedOrders = true) (hs : Region.noSelect ops = true) (ho : planB ops r ops.size (Array.replicate ops.size false) = true) (hS : S w.drew)
    (h : walkS P ops (orThrow (fun _ _ _ => False) Q) S r a w.drew) : (Code.region id ops true).wp P Q a w :=
  wp_region_planD S (fun _ _ _ => False) r (fun _ => true) hm hs (by simp) (fun _ _ _ _ _ _ h => h) (fun _ _ _ h => h.elim) ho hS h
end
theorem walkS_done {P : Program} {ops : Array Oper} {S : World → Prop} {R : List PanicEntry → Act → World → Prop} {Q : Exit → Act → World → Prop} {a : Act} {w : World} (h : Q .normal a w) : walkS P ops (orThrow R Q) S .done a w := h
end Go.Proofs.Ythbboiolhejmmaa
