/- Slices of elements of any make in memory: what such a slice reads as, how that is kept while memory grows; append onto a row of the call's own; one element read. No program here; no condition. -/
import Derived.Test.YthbboiolhejmmaaVals
import Derived.Test.YthbboiolhejmmaaApp
import Derived.Deep.MidRow
import Derived.Maps.AppendAt
set_option maxRecDepth 100000
namespace Go.Proofs.Ythbboiolhejmmaa
open Go.RowKit
set_option linter.unusedVariables false

/-- how elements of a make lie: k cells each -/
structure Elt (α : Type) where
  cells : α → List Value
  ok : α → Prop
  k : Nat
  pos : 0 < k
  len : ∀ a, ok a → (cells a).length = k
  one : ∀ a, ∀ u ∈ cells a, u.oneCell' = true
  zero : α
  zok : ok zero
section
variable {α : Type} (E : Elt α)
def Elt.all (l : List α) : Prop := ∀ a ∈ l, E.ok a
def Elt.flat (l : List α) : List Value := l.flatMap E.cells
variable {E}
theorem Elt.all_nil : E.all [] := fun _ h => by cases h
theorem Elt.all_cons {a : α} {l : List α} (h : E.ok a) (hl : E.all l) : E.all (a :: l) := fun x hx => by
  rcases List.mem_cons.1 hx with rfl | hx
  · exact h
  · exact hl x hx
theorem Elt.all_one {a : α} (h : E.ok a) : E.all [a] := Elt.all_cons h Elt.all_nil
theorem Elt.all_app {xs ys : List α} (h : E.all xs) (k : E.all ys) : E.all (xs ++ ys) := fun x hx => by
  rcases List.mem_append.1 hx with hx | hx
  · exact h x hx
  · exact k x hx
theorem Elt.all_drop {l : List α} (h : E.all l) (n : Nat) : E.all (l.drop n) := fun x hx => h x (List.mem_of_mem_drop hx)
theorem Elt.all_take {l : List α} (h : E.all l) (n : Nat) : E.all (l.take n) := fun x hx => h x (List.mem_of_mem_take hx)
theorem Elt.all_getD {l : List α} (h : E.all l) (i : Nat) : E.ok (l.getD i E.zero) := by
  rcases Nat.lt_or_ge i l.length with hi | hi
  · have e : l.getD i E.zero = l[i] := by simp [List.getD, hi]
    rw [e]
    exact h _ (List.getElem_mem hi)
  · have e : l.getD i E.zero = E.zero := by simp [List.getD, List.getElem?_eq_none hi]
    rw [e]
    exact E.zok
theorem Elt.flat_cons (a : α) (l : List α) : E.flat (a :: l) = E.cells a ++ E.flat l := by simp [Elt.flat]
theorem Elt.flat_app (xs ys : List α) : E.flat (xs ++ ys) = E.flat xs ++ E.flat ys := by simp [Elt.flat]
theorem Elt.flat_len : ∀ {l : List α}, E.all l → (E.flat l).length = l.length * E.k
  | [], _ => by simp [Elt.flat]
  | a :: l, h => by
    have ih := Elt.flat_len (l := l) fun x hx => h x (List.mem_cons_of_mem _ hx)
    rw [Elt.flat_cons, List.length_append, ih, E.len a (h a List.mem_cons_self), List.length_cons, Nat.add_mul, Nat.one_mul, Nat.add_comm]
theorem Elt.flat_one (l : List α) : ∀ u ∈ E.flat l, u.oneCell' = true := fun u hu => by
  obtain ⟨a, _, h⟩ := List.mem_flatMap.1 hu
  exact E.one a u h
theorem Elt.flat_get : ∀ {l : List α}, E.all l → ∀ {i j : Nat}, i < l.length → j < E.k → (E.flat l)[i * E.k + j]? = (E.cells (l.getD i E.zero))[j]?
  | [], _, i, j, hi, hj => by simp at hi
  | a :: l, h, 0, j, hi, hj => by
    have ha := E.len a (h a List.mem_cons_self)
    rw [Elt.flat_cons, Nat.zero_mul, Nat.zero_add, List.getElem?_append_left (by omega)]
    rfl
  | a :: l, h, i + 1, j, hi, hj => by
    have ha := E.len a (h a List.mem_cons_self)
    have ih := Elt.flat_get (l := l) (fun x hx => h x (List.mem_cons_of_mem _ hx)) (i := i) (j := j) (by simpa using hi) hj
    rw [Elt.flat_cons, Nat.add_mul, Nat.one_mul, List.getElem?_append_right (by omega), List.getD_cons_succ, ← ih]
    congr 1
    omega

/-- the slice at A, n long, holds the elements l, below block B -/
structure Es (E : Elt α) (w : World) (B : Nat) (A : Option Addr) (n : Nat) (l : List α) : Prop where
  len : l.length = n
  all : E.all l
  mem : 0 < n → ∃ b o, A = some ⟨b, o, none⟩ ∧ b < B ∧ ∀ j v, (E.flat l)[j]? = some v → w.cell? ⟨b, o + j, none⟩ = some v
def EFrom (lo : Nat) (A : Option Addr) (n : Nat) : Prop := 0 < n → ∃ b p, A = some ⟨b, p, none⟩ ∧ lo ≤ b
theorem EFrom.nil (lo : Nat) (A : Option Addr) : EFrom lo A 0 := fun h => absurd h (by omega)
theorem EFrom.less {lo lo' n : Nat} {A : Option Addr} (h : EFrom lo A n) (hl : lo' ≤ lo) : EFrom lo' A n := fun hn => by
  obtain ⟨b, p, e, hb⟩ := h hn
  exact ⟨b, p, e, by omega⟩
variable {w w' : World} {B B' n lo : Nat} {A : Option Addr} {l : List α}
theorem Es.nil (w : World) (B : Nat) (A : Option Addr) : Es E w B A 0 [] := ⟨rfl, Elt.all_nil, fun h => absurd h (by omega)⟩
theorem Es.keep (h : Es E w B A n l) (hk : ∀ p : Addr, p.block < B → w'.cell? p = w.cell? p) : Es E w' B A n l :=
  ⟨h.len, h.all, fun hn => by
    obtain ⟨b, o, e, hb, hc⟩ := h.mem hn
    exact ⟨b, o, e, hb, fun j v hv => (hk ⟨b, o + j, none⟩ hb).trans (hc j v hv)⟩⟩
theorem Es.more (h : Es E w B A n l) (hB : B ≤ B') : Es E w B' A n l :=
  ⟨h.len, h.all, fun hn => by
    obtain ⟨b, o, e, hb, hc⟩ := h.mem hn
    exact ⟨b, o, e, by omega, hc⟩⟩
theorem Es.below (h : Es E w B A n l) (hb : Below B w w') : Es E w' B A n l := h.keep fun _ hp => hb.cell hp
theorem Es.below' (h : Es E w B A n l) (hb : Below B w w') (hB : B ≤ B') : Es E w' B' A n l := (h.below hb).more hB
theorem Es.low (h : Es E w w.heap.size A n l) (hb : Low w w') : Es E w' w'.heap.size A n l := h.below' hb hb.size
theorem Es.upper (h : Es E w B A n l) (hf : EFrom lo A n) (hk : ∀ p : Addr, lo ≤ p.block → p.block < B → w'.cell? p = w.cell? p) : Es E w' B A n l :=
  ⟨h.len, h.all, fun hn => by
    obtain ⟨b, o, e, hb, hc⟩ := h.mem hn
    obtain ⟨b', o', e', hl⟩ := hf hn
    rw [e] at e'
    injection e' with e'
    injection e' with e1 e2 _
    subst e1 e2
    exact ⟨b, o, e, hb, fun j v hv => (hk ⟨b, o + j, none⟩ hl hb).trans (hc j v hv)⟩⟩
/-- one of them -/
theorem Es.at_ {b o : Nat} (h : Es E w B (some ⟨b, o, none⟩) n l) {i : Nat} (hi : i < n) : b < B ∧ w.rangeAt b (o + i * E.k) (E.cells (l.getD i E.zero)) := by
  obtain ⟨b', o', e, hb, hc⟩ := h.mem (by omega)
  injection e with e
  injection e with e1 e2 _
  subst e1 e2
  refine ⟨hb, fun j v hv => ?_⟩
  have hj : j < E.k := by
    have := (List.getElem?_eq_some_iff.1 hv).1
    rw [E.len _ (Elt.all_getD h.all i)] at this
    exact this
  rw [Nat.add_assoc]
  exact hc (i * E.k + j) v (by rw [Elt.flat_get h.all (by rw [h.len]; exact hi) hj]; exact hv)
theorem Es.src (h : Es E w B A n l) (hp : 0 < (E.flat l).length) : ∃ ad, A = some ad ∧ ∀ j v, (E.flat l)[j]? = some v → w.cell? (ad.add j) = some v := by
  have hn : 0 < n := by
    rcases Nat.eq_zero_or_pos n with h0 | h0
    · rw [Elt.flat_len h.all, h.len, h0] at hp
      omega
    · exact h0
  obtain ⟨b, o, rfl, _, hc⟩ := h.mem hn
  refine ⟨_, rfl, fun j v hv => ?_⟩
  rw [Addr.add_lit]
  exact hc j v hv
theorem Es.of_cells (hl : l.length = n) (ha : E.all l) {b o : Nat} (hb : b < B) (hc : ∀ j v, (E.flat l)[j]? = some v → w.cell? ⟨b, o + j, none⟩ = some v) : Es E w B (some ⟨b, o, none⟩) n l := ⟨hl, ha, fun _ => ⟨b, o, rfl, hb, hc⟩⟩
theorem Es.one_ (w : World) (t : TypeId) (a : α) (h : E.ok a) {B : Nat} (hB : w.heap.size < B) : Es E (w.alloc (.cells (E.cells a).toArray t)) B (some ⟨w.heap.size, 0, none⟩) 1 [a] :=
  Es.of_cells rfl (Elt.all_one h) hB fun j v hv => by
    rw [Nat.zero_add, cell_of_row _ w.heap.size j _ t (0, 0) (heap_alloc_new w _)]
    simpa [Elt.flat] using hv
theorem Es.tail {b o : Nat} (h : Es E w B (some ⟨b, o, none⟩) n l) {s : Nat} (hs : s ≤ n) : Es E w B (some ⟨b, o + s * E.k, none⟩) (n - s) (l.drop s) := by
  have hl := h.len
  have hfl : E.flat l = E.flat (l.take s) ++ E.flat (l.drop s) := by rw [← Elt.flat_app, List.take_append_drop]
  have hft : (E.flat (l.take s)).length = s * E.k := by rw [Elt.flat_len (Elt.all_take h.all s), List.length_take, Nat.min_eq_left (by omega)]
  refine ⟨by rw [List.length_drop, hl], Elt.all_drop h.all s, fun hn => ?_⟩
  obtain ⟨b', o', e, hb, hc⟩ := h.mem (by omega)
  injection e with e
  injection e with e1 e2 _
  subst e1 e2
  refine ⟨_, _, rfl, hb, fun j v hv => ?_⟩
  rw [Nat.add_assoc]
  exact hc _ v (by rw [hfl, List.getElem?_append_right (by omega), hft, Nat.add_sub_cancel_left]; exact hv)
end

/-- the slice (A, n, c) is a row of the call's own, from block 'base' on, and holds the elements l -/
def OwnE {α : Type} (E : Elt α) (t : TypeId) (w : World) (base : Nat) (A : Option Addr) (n c : Nat) (l : List α) : Prop := w.ownsRow base t E.k (.slice A n c) n (E.flat l) ∧ E.all l ∧ l.length = n
section
variable {α : Type} {E : Elt α} {t : TypeId} {w w' : World} {base n c : Nat} {A : Option Addr} {l : List α}
theorem OwnE.len (h : OwnE E t w base A n c l) : l.length = n := h.2.2
theorem OwnE.lies (h : OwnE E t w base A n c l) {B : Nat} (hB : w.heap.size ≤ B) : Es E w B A n l := by
  refine ⟨h.2.2, h.2.1, fun hn => ?_⟩
  obtain ⟨g, cap, hv, _, hlt⟩ := World.ownsRow.form h.1 hn
  have hA : A = some ⟨g, 0, none⟩ := by injection hv
  subst hA
  refine ⟨g, 0, rfl, by omega, fun j v hv => ?_⟩
  have := World.ownsRow.cells h.1 (g := g) rfl j v hv
  simpa [Addr.add_lit] using this
theorem OwnE.lt (h : OwnE E t w base A n c l) : ∀ k, (Value.slice A n c).ownBlock = some k → base ≤ k ∧ k < w.heap.size := World.ownsRow.lt h.1
theorem OwnE.cap (h : OwnE E t w base A n c l) : n ≤ c ∧ c ≤ maxLen := by
  rcases h.1.2 with ⟨e, hn⟩ | ⟨g, cap, cur, e, _, _, h1, h2, _⟩
  · injection e with _ _ e3
    subst e3 hn
    exact ⟨Nat.le_refl _, Nat.zero_le _⟩
  · injection e with _ _ e3
    subst e3
    exact ⟨h1, h2⟩
theorem OwnE.from_ (h : OwnE E t w base A n c l) : EFrom base A n := fun hn => by
  obtain ⟨g, cap, hv, hb, _⟩ := World.ownsRow.form h.1 hn
  injection hv with hA
  exact ⟨g, 0, hA, hb⟩
theorem OwnE.below (h : OwnE E t w base A n c l) (hb : Below w.heap.size w w') : OwnE E t w' base A n c l := by
  refine ⟨⟨h.1.1, ?_⟩, h.2⟩
  rcases h.1.2 with e | ⟨g, cap, cur, e, hbg, hg, r⟩
  · exact .inl e
  · exact .inr ⟨g, cap, cur, e, hbg, by rw [hb.block g (Array.getElem?_eq_some_iff.1 hg).1]; exact hg, r⟩
theorem OwnE.others (h : OwnE E t w base A n c l) (hk : ∀ k : Nat, base ≤ k → w'.heap[k]? = w.heap[k]?) : OwnE E t w' base A n c l := by
  refine ⟨⟨h.1.1, ?_⟩, h.2⟩
  rcases h.1.2 with e | ⟨g, cap, cur, e, hbg, hg, r⟩
  · exact .inl e
  · exact .inr ⟨g, cap, cur, e, hbg, by rw [hk g hbg]; exact hg, r⟩
theorem OwnE.none_ (E : Elt α) (t : TypeId) (w : World) (base : Nat) : OwnE E t w base none 0 0 [] := ⟨⟨by simp [Elt.flat], .inl ⟨rfl, rfl⟩⟩, Elt.all_nil, rfl⟩
end

theorem run_append_none_e {P : Program} {w : World} {base : Nat} {t ty e : TypeId} {i : TypeInfo} (ht : P.underlying t = some (.slice e)) (hi : P.info? e = some i)
    {v : Value} {n k : Nat} {xs : List Value} (hown : w.ownsRow base e k v n xs) (c : Nat) : (Builtin.append_ #[t, t] ty #[v, .slice none 0 c]).run P w = .ok v w := by
  rcases hown.2 with ⟨rfl, rfl⟩ | ⟨g, cap, cur, rfl, _, _, hnc, _⟩
  · simp [Builtin.append_, run_underlying ht, sizeOf, typeInfo, hi, Builtin.lenOf, Builtin.firstCells]
  · simp [Builtin.append_, run_underlying ht, sizeOf, typeInfo, hi, Builtin.lenOf, Builtin.firstCells, hnc, storeCells]
theorem run_append_es {α : Type} {E : Elt α} {P : Program} (w : World) (base : Nat) (t ty e : TypeId) (i : TypeInfo) (z : Value) (by_ : Nat) (ht : P.underlying t = some (.slice e)) (hi : P.info? e = some i) (hz : i.zero = some z)
    (hsize : i.size = E.k) (hzs : z.cells.size = E.k) (hby : i.bytes = by_) (A0 : Option Addr) (n c0 : Nat) (xs : List α) (hown : OwnE E e w base A0 n c0 xs)
    (A : Option Addr) (m c : Nat) (B : Nat) (ys : List α) (hs : Es E w B A m ys) (hb : (n + m) * by_ ≤ 140737488355328) (hb2 : n + m ≤ 140737488355328) (hbase : base ≤ w.heap.size) :
    ∃ A' c' w', (Builtin.append_ #[t, t] ty #[.slice A0 n c0, .slice A m c]).run P w = .ok (.slice A' (n + m) c') w' ∧ OwnE E e w' base A' (n + m) c' (xs ++ ys) ∧
      w.grownBy w' (Value.slice A0 n c0).ownBlock ∧ ((Value.slice A' (n + m) c').ownBlock = (Value.slice A0 n c0).ownBlock ∨ (Value.slice A' (n + m) c').ownBlock = some w.heap.size) := by
  have hlen := hs.len
  cases A with
  | none =>
    have hm : m = 0 := by
      rcases Nat.eq_zero_or_pos m with h0 | h0
      · exact h0
      · obtain ⟨b, o, h, _⟩ := hs.mem h0
        cases h
    subst hm
    obtain rfl : ys = [] := List.eq_nil_of_length_eq_zero hlen
    exact ⟨A0, c0, w, run_append_none_e ht hi hown.1 c, by simpa using hown, World.grownBy.refl w _, .inl rfl⟩
  | some ad =>
    have hnews : ∀ j u, (E.flat ys)[j]? = some u → w.cell? (ad.add j) = some u := by
      intro j u hu
      have hpos : 0 < (E.flat ys).length := by have := (List.getElem?_eq_some_iff.1 hu).1; omega
      obtain ⟨ad', e1, h⟩ := hs.src hpos
      injection e1 with e1
      subst e1
      exact h j u hu
    obtain ⟨v', w', hrun, h2, h3, _, h5⟩ := run_append_own_at (P := P) w base t ty e i z E.k by_ ht hi hz hsize hby hzs E.pos (.slice A0 n c0) n (E.flat xs) hown.1 ad m c (E.flat ys) (by rw [Elt.flat_len hs.all, hlen]) hnews (Elt.flat_one ys) (by simp only [maxLen]; omega) hb hbase
    rw [← Elt.flat_app] at h2
    have hform : ∃ A' c', v' = .slice A' (n + m) c' := by
      rcases h2.2 with ⟨e1, e2⟩ | ⟨g, cap, cur, e1, _⟩
      · exact ⟨none, 0, by rw [e1, e2]⟩
      · exact ⟨_, _, e1⟩
    obtain ⟨A', c', rfl⟩ := hform
    exact ⟨A', c', w', hrun, ⟨h2, Elt.all_app hown.2.1 hs.all, by rw [List.length_append, hown.2.2, hlen]⟩, h3, h5⟩
theorem wp_append_es {α : Type} {E : Elt α} {P : Program} {w : World} {o : Oper} {a : Act} {K : Act → World → Prop} {Q : Exit → Act → World → Prop} (s x : Operand) (t : TypeId)
    (ho : o.op = .call { callee := .builtin .append, args := #[s, x], argTypes := #[t, t] })
    (base : Nat) (e : TypeId) (i : TypeInfo) (z : Value) (by_ : Nat) (ht : P.underlying t = some (.slice e)) (hi : P.info? e = some i) (hz : i.zero = some z) (hsize : i.size = E.k) (hzs : z.cells.size = E.k) (hby : i.bytes = by_)
    (A0 : Option Addr) (n c0 : Nat) (xs : List α) (hs : a.eval s = .slice A0 n c0) (hown : OwnE E e w base A0 n c0 xs)
    (A : Option Addr) (m c B : Nat) (ys : List α) (hx : a.eval x = .slice A m c) (hb : Es E w B A m ys) (hn : (n + m) * by_ ≤ 140737488355328) (hn2 : n + m ≤ 140737488355328) (hbase : base ≤ w.heap.size)
    (h : ∀ A' c' w', OwnE E e w' base A' (n + m) c' (xs ++ ys) → w.grownBy w' (Value.slice A0 n c0).ownBlock → ((Value.slice A' (n + m) c').ownBlock = (Value.slice A0 n c0).ownBlock ∨ (Value.slice A' (n + m) c').ownBlock = some w.heap.size) →
      K (a.put o.dst (.slice A' (n + m) c')) w') : o.wp P a w K Q := by
  obtain ⟨A', c', w', hrun, h2, h3, h4⟩ := run_append_es (P := P) w base t o.type e i z by_ ht hi hz hsize hzs hby A0 n c0 xs hown A m c B ys hb hn hn2 hbase
  unfold Oper.wp execOp
  simp only [ho, resolve, invoke, builtin, Sem.run_bind, Sem.run_pure, Result.andThen_ok, List.map_toArray, List.map_cons, List.map_nil, hs, hx, hrun]
  exact h A' c' w' h2 h3 h4
theorem wpList_append_es {α : Type} {E : Elt α} {P : Program} {w : World} {ops : Array Oper} {rest : List Oper} {o : Oper} {a : Act} {Q : Exit → Act → World → Prop} (hgd : o.guard = none) (s x : Operand) (t : TypeId)
    (ho : o.op = .call { callee := .builtin .append, args := #[s, x], argTypes := #[t, t] })
    (base : Nat) (e : TypeId) (i : TypeInfo) (z : Value) (by_ : Nat) (ht : P.underlying t = some (.slice e)) (hi : P.info? e = some i) (hz : i.zero = some z) (hsize : i.size = E.k) (hzs : z.cells.size = E.k) (hby : i.bytes = by_)
    (A0 : Option Addr) (n c0 : Nat) (xs : List α) (hs : a.eval s = .slice A0 n c0) (hown : OwnE E e w base A0 n c0 xs)
    (A : Option Addr) (m c B : Nat) (ys : List α) (hx : a.eval x = .slice A m c) (hb : Es E w B A m ys) (hn : (n + m) * by_ ≤ 140737488355328) (hn2 : n + m ≤ 140737488355328) (hbase : base ≤ w.heap.size)
    (h : ∀ A' c' w', OwnE E e w' base A' (n + m) c' (xs ++ ys) → w.grownBy w' (Value.slice A0 n c0).ownBlock → ((Value.slice A' (n + m) c').ownBlock = (Value.slice A0 n c0).ownBlock ∨ (Value.slice A' (n + m) c').ownBlock = some w.heap.size) →
      wpList P ops Q rest (a.put o.dst (.slice A' (n + m) c')) w') : wpList P ops Q (o :: rest) a w :=
  wpList_plain hgd fun _ hK => wp_append_es s x t ho base e i z by_ ht hi hz hsize hzs hby A0 n c0 xs hs hown A m c B ys hx hb hn hn2 hbase fun A' c' w' h2 h3 h4 => hK _ _ (h A' c' w' h2 h3 h4)
end Go.Proofs.Ythbboiolhejmmaa
