/- Ranges over closures: a round's code walked in plain words; a loop whose variable lies in a block of its own. No program here; no condition. -/
import Derived.Test.YtedldebomoplmaaSq
import Derived.Test.YtedldebomoplmaaJReg
import Derived.Test.YtedldebomoplmaaRow
import Derived.Test.YtedldebomoplmaaEl
import Derived.OrdersIn
import Derived.RangeFuncNested
set_option maxRecDepth 100000
namespace Go.Proofs.Ytedldebomoplmaa
open Go.RowKit
set_option linter.unusedVariables false

/-- none of these operations is a defer statement -/
def noDefer (ops : Array Oper) : Bool := ops.all fun o => match o.op with | .defer _ => false | _ => true
section
variable {P : Program} {l n : Nat} {ops : Array Oper} {Q : Exit → Act → World → Prop}
theorem rowsIn_inR {row : String} {args : Array Value} {w : World} {R : Value → World → Prop} (h : Rows P row args w R) : RowsIn (Fence.wide.inRound l) n P row args w R := fun c cs _ =>
  let ⟨v, w', r, s⟩ := h c cs
  ⟨v, w', r, stepsIn_wide.2 s⟩
theorem oper_inR {o : Oper} {a : Act} {w : World} {K : Act → World → Prop} (hd : ∀ c, o.op ≠ .defer c) (h : o.wp P a w K Q) : o.wpIn (Fence.wide.inRound l) n P a w K Q := by
  refine ⟨fun _ _ => trivial, ?_⟩
  rw [Oper.semAt_plain (Fence.wide.inRound l) _ _ hd]
  unfold Oper.wp at h
  generalize (execOp a.eval o).run P w = r at *
  cases r with
  | ok x w' =>
    cases x with
    | value v => exact h
    | skip => exact h
    | defer d => exact h
    | enter f args => exact ⟨fun h => (by cases h), CallsIn.inRound l (callsIn_wide.2 h)⟩
    | row s args => exact ⟨fun h => (by cases h), rowsIn_inR h⟩
    | round l' f tmps assign body => exact h.elim
    | _ => exact h.elim
  | halt x w' =>
    cases x <;> exact h
theorem wpListIn_inR (hlo : ¬ LetsOut Q) : ∀ (rest : List Oper) (a : Act) (w : World), (∀ o ∈ rest, ∀ c, o.op ≠ .defer c) → wpList P ops Q rest a w → wpListIn (Fence.wide.inRound l) n P ops Q rest a w
  | [], a, w, _, h => h
  | o :: rest, a, w, hd, h => by
    have ih := fun a w h => wpListIn_inR hlo rest a w (fun o ho => hd o (List.mem_cons_of_mem _ ho)) h
    simp only [wpList, wpListIn] at h ⊢
    split at h
    · rename_i hw
      rw [if_pos hw]
      exact Oper.wpIn_mono ih (oper_inR (hd o List.mem_cons_self) (h.resolve_right fun k => hlo k.2))
    · rename_i hw
      rw [if_neg hw]
      exact ⟨fun _ _ => trivial, ih _ _ h⟩
theorem noDefer_spec {ops : Array Oper} (h : noDefer ops = true) : ∀ o ∈ ops.toList, ∀ c, o.op ≠ .defer c := fun o ho c e => by
  unfold noDefer at h
  rw [Array.all_eq_true_iff_forall_mem] at h
  have := h o (by simpa using ho)
  rw [e] at this
  simp at this
theorem wpAnyIn_inR {md : Region.Mode} (hlo : ¬ LetsOut Q) (hd : noDefer ops = true) : ∀ (fuel : Nat) (listed : Array Bool) (a : Act) (w : World), wpAny P md ops Q fuel listed a w → wpAnyIn (Fence.wide.inRound l) n P md ops Q fuel listed a w
  | 0, _, _, _, h => h
  | fuel + 1, listed, a, w, h => ⟨h.1, fun i hi => by
    have k := h.2 i hi
    have ih := fun a w h => wpAnyIn_inR (md := md) hlo hd fuel (listed.setIfInBounds i true) a w h
    unfold wpOp at k
    unfold wpOpIn
    cases ho : ops[i]? with
    | none =>
      simp only [ho] at k ⊢
      exact ih _ _ k
    | some o =>
      simp only [ho] at k ⊢
      split at k
      · rename_i hw
        rw [if_pos hw]
        exact Oper.wpIn_mono ih (oper_inR (noDefer_spec hd o (by obtain ⟨h1, h2⟩ := Array.getElem?_eq_some_iff.1 ho; rw [← h2]; simp)) (k.resolve_right fun k => hlo k.2))
      · rename_i hw
        rw [if_neg hw]
        exact ⟨fun _ _ => trivial, ih _ _ k⟩⟩
/-- a region of a round, in plain words -/
theorem inR_lit {id : Nat} {L : List Oper} {a : Act} {w : World} (hlo : ¬ LetsOut Q) (hd : noDefer L.toArray = true) (h : wpList P L.toArray Q L a w) : (Code.region id L.toArray false).wpIn (Fence.wide.inRound l) n P Q a w :=
  wpIn_region_lit (wpListIn_inR hlo L a w (by simpa using noDefer_spec hd) h)
/-- .. that draws its order: by a plan -/
theorem inR_planS {id : Nat} {a : Act} {w : World} (S : World → Prop) (r : Plan) (hlo : ¬ LetsOut Q) (hm : P.follows .mixedOrders = true) (hd : noDefer ops = true) (hs : Region.noSelect ops = true)
    (hQ : ∀ c a d v w, Q (.panic c) (Act.put a d v) w → Q (.panic c) a w) (ho : planB ops r ops.size (Array.replicate ops.size false) = true) (hS : S w.drew)
    (h : walkS P ops Q S r a w.drew) : (Code.region id ops true).wpIn (Fence.wide.inRound l) n P Q a w :=
  wpIn_region_any hm (wpAnyIn_inR hlo hd _ _ _ _ (wpAny_of_held _ _ _ _ (held_of_planS hs hQ r ops.size _ a _ hS ho h)))
theorem inR_plan {id : Nat} {a : Act} {w : World} (r : Plan) (hlo : ¬ LetsOut Q) (hm : P.follows .mixedOrders = true) (hd : noDefer ops = true) (hs : Region.noSelect ops = true)
    (hQ : ∀ c a d v w, Q (.panic c) (Act.put a d v) w → Q (.panic c) a w) (ho : planB ops r ops.size (Array.replicate ops.size false) = true)
    (h : walkP P ops Q r a w.drew) : (Code.region id ops true).wpIn (Fence.wide.inRound l) n P Q a w :=
  wpIn_region_any hm (wpAnyIn_inR hlo hd _ _ _ _ (wpAny_of_held _ _ _ _ (held_of_plan hs hQ r ops.size _ a _ ho h)))
end

/-- blocks of another type are other blocks -/
theorem BlkV.neT {w : World} {t t2 : TypeId} {g k : Nat} {vs : List Value} {cs : Array Value} {z : Nat × Nat} (h : BlkV w t2 g vs) (hk : w.heap[k]? = some (.cells cs t z)) (ht : t ≠ t2) : k ≠ g := by
  rintro rfl
  have h' : w.heap[k]? = some (.cells vs.toArray t2 (0, 0)) := h
  rw [hk] at h'
  injection h' with h'
  injection h' with _ h' _
  exact ht h'
/-- rows of a type stay where no block of that type turns -/
theorem OwnN.byT {t : TypeId} {w w' : World} {base n c : Nat} {A : Option Addr} {ys : List Int} (h : OwnN t w base A n c ys) (hk : ∀ (k : Nat) (cs : Array Value) (z : Nat × Nat), w.heap[k]? = some (.cells cs t z) → w'.heap[k]? = w.heap[k]?) : OwnN t w' base A n c ys := by
  refine ⟨⟨h.1.1, ?_⟩, h.2⟩
  rcases h.1.2 with e | ⟨g, cap, cur, e, hbg, hg, r⟩
  · exact .inl e
  · exact .inr ⟨g, cap, cur, e, hbg, (hk g _ _ hg).trans hg, r⟩
theorem OwnE.byT {α : Type} {E : Elt α} {t : TypeId} {w w' : World} {base n c : Nat} {A : Option Addr} {l : List α} (h : OwnE E t w base A n c l) (hk : ∀ (k : Nat) (cs : Array Value) (z : Nat × Nat), w.heap[k]? = some (.cells cs t z) → w'.heap[k]? = w.heap[k]?) : OwnE E t w' base A n c l := by
  refine ⟨⟨h.1.1, ?_⟩, h.2⟩
  rcases h.1.2 with e | ⟨g, cap, cur, e, hbg, hg, r⟩
  · exact .inl e
  · exact .inr ⟨g, cap, cur, e, hbg, (hk g _ _ hg).trans hg, r⟩
theorem OwnE.keptC {α : Type} {E : Elt α} {t : TypeId} {w w' : World} {row : Option Nat} {base n c : Nat} {A : Option Addr} {l : List α} (h : OwnE E t w base A n c l) (hg : w.grownBy w' row) (hr : ∀ r, row = some r → ∃ o : Obj, w.heap[r]? = some o ∧ o.isCells = false) : OwnE E t w' base A n c l := by
  refine ⟨⟨h.1.1, ?_⟩, h.2⟩
  rcases h.1.2 with e | ⟨g, cap, cur, e, hbg, hgg, r⟩
  · exact .inl e
  · exact .inr ⟨g, cap, cur, e, hbg, (grownBy_keeps_cells hg hr hgg rfl).trans hgg, r⟩
theorem OwnE.isCells {α : Type} {E : Elt α} {t : TypeId} {w : World} {base n c k : Nat} {A : Option Addr} {l : List α} (h : OwnE E t w base A n c l) (hk : (Value.slice A n c).ownBlock = some k) : ∃ (cs : Array Value), w.heap[k]? = some (.cells cs t (0, 0)) := by
  rcases h.1.2 with ⟨e, _⟩ | ⟨g, cap, cur, e, _, hgg, _⟩
  · rw [e] at hk
    cases hk
  · rw [e] at hk
    have : g = k := by simpa [Value.ownBlock] using hk
    subst this
    exact ⟨cur, hgg⟩
theorem OwnN.isCells {t : TypeId} {w : World} {base n c k : Nat} {A : Option Addr} {ys : List Int} (h : OwnN t w base A n c ys) (hk : (Value.slice A n c).ownBlock = some k) : ∃ (cs : Array Value), w.heap[k]? = some (.cells cs t (0, 0)) := by
  rcases h.1.2 with ⟨e, _⟩ | ⟨g, cap, cur, e, _, hgg, _⟩
  · rw [e] at hk
    cases hk
  · rw [e] at hk
    have : g = k := by simpa [Value.ownBlock] using hk
    subst this
    exact ⟨cur, hgg⟩
theorem OwnN.free_ {t : TypeId} {w : World} {base n c : Nat} {A : Option Addr} {ys : List Int} (h : OwnN t w base A n c ys) (b o j : Nat) (e : A = some ⟨b, o, none⟩) : w.frozen? ⟨b, o + j, none⟩ = false := by
  rcases h.1.2 with ⟨e2, _⟩ | ⟨g, cap, cur, e2, _, hgg, _⟩
  · injection e2 with e2
    rw [e] at e2
    cases e2
  · injection e2 with e2
    rw [e] at e2
    injection e2 with e2
    injection e2 with e2 _ _
    subst e2
    simp [World.frozen?, hgg]
theorem OwnN.lower {t : TypeId} {w : World} {b b' n c : Nat} {A : Option Addr} {ys : List Int} (h : OwnN t w b A n c ys) (hb : b' ≤ b) : OwnN t w b' A n c ys :=
  ⟨⟨h.1.1, h.1.2.imp id fun ⟨g, cap, cur, e, hg, r⟩ => ⟨g, cap, cur, e, Nat.le_trans hb hg, r⟩⟩, h.2⟩
theorem OwnE.lower {α : Type} {E : Elt α} {t : TypeId} {w : World} {b b' n c : Nat} {A : Option Addr} {l : List α} (h : OwnE E t w b A n c l) (hb : b' ≤ b) : OwnE E t w b' A n c l :=
  ⟨⟨h.1.1, h.1.2.imp id fun ⟨g, cap, cur, e, hg, r⟩ => ⟨g, cap, cur, e, Nat.le_trans hb hg, r⟩⟩, h.2⟩

theorem grown_of_lowR {A B : World} (h : Low A B) : A.grownBy B none := ⟨Below.os h, Below.tape h, Below.output h, Below.size h, fun k hk _ => Below.block h k hk⟩
/-- the loop's variable is laid in a block of its own, and the value stored there -/
theorem assign_b {P : Program} {T : Array Value} {p q : Tmp} {t y1 y2 : TypeId} {id l m : Nat} {pos1 pos2 : String} {aft1 aft2 : Array Edge} {W : World} {zs vs : List Value} {K : Act → World → Prop} (hp : p < T.size) (hq : q < T.size) (hpq : p ≠ q)
    (hz : (P.info? t).map (·.zero) = some (some (.agg zs.toArray))) (hl : zs.length = vs.length) (hsz : (P.info? t).map (·.size) = some vs.length) (hone : vs.toArray.all (·.oneCell') = true)
    (hK : ∀ g W', Low W W' → W.heap.size ≤ g → BlkV W' t g vs → K ⟨(T.setIfInBounds p (.agg vs.toArray)).setIfInBounds q (.pointer (some ⟨g, 0, none⟩)), []⟩ W') :
    (Code.region id #[⟨some q, .alloc t, y1, pos1, aft1, none⟩, ⟨none, .store t (.tmp q) (.tmp p), y2, pos2, aft2, none⟩] false).wpIn (Fence.wide.inRound l) m P (Exit.then K (fun _ _ _ => False)) ⟨T.setIfInBounds p (.agg vs.toArray), []⟩ W := by
  refine inR_lit (by rintro ⟨_, _, h⟩; exact h) (by simp [noDefer]) ?_
  refine wpList_alloc_v rfl t rfl zs hz fun w1 h1 hl1 hz1 => ?_
  refine wpList_store_vq rfl t (.tmp q) (.tmp p) rfl W.heap.size (by simp [Act.eval, Act.put, hq]) vs (by simp [Act.eval, Act.put, hp, Ne.symm hpq]) t zs h1 hl hsz hone fun w2 h2 hb2 hz2 _ => ?_
  exact hK _ w2 (Below.trans hl1 hb2) (Nat.le_refl _) h2
/-- a range over a function whose values come one by one, each laid in a block of its own; no round leaves -/
theorem wpIn_seq_b {α : Type} {P : Program} {n : Nat} {g : Operand} {ps : Array Tmp} {assign body : Code} {Q : Exit → Act → World → Prop} {T : Array Value} {ds : List Deferred} {w : World} {gf : Nat} {lb : Array Value}
    (hg : Act.eval ⟨T, ds⟩ g = .func (.func gf) #[] lb) (eg : ∀ args w, (callFunc gf args).run P w = .ok (.enter gf args) w) (h1 : 1 ≤ n)
    {cells : α → List Value} {n0 : Nat} {S Sp : List α → Prop} {N : Nat} {w0 : World} (hseq : SeqStopsK Fence.wide (n - 1) P gf lb (fun x => #[.agg (cells x).toArray]) (Below n0) S Sp N w0)
    (hn0 : n0 ≤ w.heap.size) (hb0 : Below w0.heap.size w0 w) (t : TypeId) (p q : Tmp) (hps : ps = #[p]) (I : List α → World → Prop) (hI : OwnFrom w.heap.size I) (h0 : I [] w)
    (Fx : Nat → World → Prop) (hFx : ∀ g, OwnFrom w.heap.size (fun (_ : Unit) W => Fx g W)) (hFa : ∀ pre W g W', I pre W → Low W W' → W.heap.size ≤ g → Fx g W')
    (hassign : ∀ (l : Nat) (x : α) (W : World) (K : Act → World → Prop), (∀ g W', Low W W' → W.heap.size ≤ g → BlkV W' t g (cells x) → K ⟨(T.setIfInBounds p (.agg (cells x).toArray)).setIfInBounds q (.pointer (some ⟨g, 0, none⟩)), []⟩ W') →
      assign.wpIn (Fence.wide.inRound l) (n - 1 - 1) P (Exit.then K (fun _ _ _ => False)) ⟨T.setIfInBounds p (.agg (cells x).toArray), []⟩ W)
    (hbody : ∀ (l : Nat) (pre : List α) (x : α) (g : Nat) (W : World), I pre W → w.heap.size ≤ g → BlkV W t g (cells x) → Fx g W → w.heap.size ≤ W.heap.size → pre.length < N →
      body.wpIn (Fence.wide.inRound l) (n - 1 - 1) P (ownPostG w.heap.size (Below n0) I (fun _ _ _ => False) (pre ++ [x]) W) ⟨(T.setIfInBounds p (.agg (cells x).toArray)).setIfInBounds q (.pointer (some ⟨g, 0, none⟩)), []⟩ W)
    (hdone : ∀ (D : Nat) (xs : List α) (W : World), w.heap.size ≤ D → S xs → I xs W → W.heap[D]? = some (.deferred (some [])) → Q .normal ⟨T, { target := .collected D, args := #[] } :: ds⟩ W) :
    (Code.rangeFunc g ps assign body).wpIn Fence.wide n P Q ⟨T, ds⟩ w := by
  subst hps
  refine wpIn_rangeFunc_ownH rfl h1 hg trivial eg hseq (fun h k => h.trans k) (fun W l o o' hl h hc hw => belowK_b hn0 W l o o' hl h hc hw) hb0 (fun _ => rfl) (fun pre W => I pre W ∧ w.heap.size ≤ W.heap.size) (fun _ _ _ => False)
    (fun s A B row hs hg' hr => ⟨hI s A B row hs.1 hg' hr, Nat.le_trans hs.2 hg'.size⟩) (fun _ _ _ _ _ h _ _ => h) ⟨h0, Nat.le_refl _⟩
    (fun x a' W => ∃ g, a' = ⟨(T.setIfInBounds p (.agg (cells x).toArray)).setIfInBounds q (.pointer (some ⟨g, 0, none⟩)), []⟩ ∧ w.heap.size ≤ g ∧ BlkV W t g (cells x) ∧ Fx g W)
    (fun x a' => fun _ A C row hs hg hr => by
      obtain ⟨g, e, h1, h2, h3⟩ := hs
      exact ⟨g, e, h1, h2.keptC hg (fun r e => (hr r e).2), hFx g () A C row h3 hg hr⟩)
    (fun l pre x W K hi hK => ?_) (fun l pre x a' W _ _ hi ha hlt => ?_) (fun D xs W hD hS hi hd => hdone D xs W hD hS hi.1 hd) (fun _ _ _ _ _ _ h _ => h.elim)
  · have h := hassign l x W K fun g W' hl hg hb => hK _ W' (KeepsFrom.of_grownBy (grown_of_lowR hl) (fun j e => by cases e)) (Below.mono hl (Nat.le_trans hn0 hi.2)) ⟨hI _ _ _ none hi.1 (grown_of_lowR hl) (fun r e => by cases e), Nat.le_trans hi.2 hl.size⟩ ⟨g, rfl, Nat.le_trans hi.2 hg, hb, hFa pre W g W' hi.1 hl hg⟩
    simpa using h
  · obtain ⟨g, rfl, h1, h2, h3⟩ := ha
    refine wpIn_mono (hbody l pre x g W hi.1 h1 h2 h3 hi.2 hlt) ?_
    rintro e a3 W3 hp
    cases e with
    | normal => exact ⟨hp.1, hp.2.1, hp.2.2, Nat.le_trans hi.2 hp.1.size⟩
    | ret => exact hp
    | exit id => exact hp
    | goto t => exact hp
    | panic ch => exact hp
    | outgrown => exact hp
end Go.Proofs.Ytedldebomoplmaa
