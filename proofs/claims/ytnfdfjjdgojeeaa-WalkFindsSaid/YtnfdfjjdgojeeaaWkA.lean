/- Plain words for slices of structs of three ints in memory: what such a slice reads as, how that is kept while memory grows; append onto a row of the call's own. No condition. -/
import Derived.Test.YtnfdfjjdgojeeaaOctA
import Derived.Test.YtnfdfjjdgojeeaaApp
import Derived.Test.YtnfdfjjdgojeeaaReg
namespace Go.Proofs.Ytnfdfjjdgojeeaa
open Go.RowKit
set_option linter.unusedVariables false

/-- three ints -/
structure Pt where
  k : Int
  a : Int
  l : Int
def zeroP : Pt := ⟨0, 0, 0⟩
def Pt.ok (p : Pt) : Prop := i64ok p.k ∧ i64ok p.a ∧ i64ok p.l
theorem zeroP_ok : zeroP.ok := by simp [Pt.ok, zeroP, i64ok]
def AllP (ps : List Pt) : Prop := ∀ p ∈ ps, p.ok
theorem AllP.nil : AllP [] := fun _ h => by cases h
theorem AllP.one {p : Pt} (h : p.ok) : AllP [p] := fun q hq => by
  obtain rfl : q = p := by simpa using hq
  exact h
theorem AllP.append {xs ys : List Pt} (h : AllP xs) (k : AllP ys) : AllP (xs ++ ys) := fun x hx => by
  rcases List.mem_append.1 hx with hx | hx
  · exact h x hx
  · exact k x hx
theorem AllP.getD {xs : List Pt} (h : AllP xs) (i : Nat) : (xs.getD i zeroP).ok := by
  rcases Nat.lt_or_ge i xs.length with hi | hi
  · have e : xs.getD i zeroP = xs[i] := by simp [List.getD, hi]
    rw [e]; exact h _ (List.getElem_mem hi)
  · have e : xs.getD i zeroP = zeroP := by simp [List.getD, List.getElem?_eq_none hi]
    rw [e]; exact zeroP_ok

/-- the cells of a list of such -/
def ptC (p : Pt) : List Value := [.int .i64 p.k, .int .i64 p.a, .int .i64 p.l]
def cellsP (ps : List Pt) : List Value := ps.flatMap ptC
theorem cellsP_nil : cellsP [] = [] := rfl
theorem cellsP_cons (p : Pt) (ps : List Pt) : cellsP (p :: ps) = .int .i64 p.k :: .int .i64 p.a :: .int .i64 p.l :: cellsP ps := rfl
theorem cellsP_append (xs ys : List Pt) : cellsP (xs ++ ys) = cellsP xs ++ cellsP ys := by simp [cellsP]
theorem cellsP_length : ∀ ps : List Pt, (cellsP ps).length = ps.length * 3
  | [] => rfl
  | p :: ps => by rw [cellsP_cons]; simp only [List.length_cons, cellsP_length ps]; omega
theorem cellsP_one : ∀ (ps : List Pt), ∀ u ∈ cellsP ps, u.oneCell' = true
  | [], u, h => by cases h
  | p :: ps, u, h => by
    rw [cellsP_cons] at h
    simp only [List.mem_cons] at h
    rcases h with rfl | rfl | rfl | h
    · rfl
    · rfl
    · rfl
    · exact cellsP_one ps u h
theorem cellsP_get : ∀ (ps : List Pt) (i : Nat), i < ps.length → (cellsP ps)[i * 3]? = some (.int .i64 (ps.getD i zeroP).k) ∧ (cellsP ps)[i * 3 + 1]? = some (.int .i64 (ps.getD i zeroP).a) ∧ (cellsP ps)[i * 3 + 2]? = some (.int .i64 (ps.getD i zeroP).l)
  | [], i, h => by simp at h
  | p :: ps, 0, _ => ⟨rfl, rfl, rfl⟩
  | p :: ps, i + 1, h => by
    have ih := cellsP_get ps i (by simpa using h)
    rw [cellsP_cons, show (i + 1) * 3 = i * 3 + 1 + 1 + 1 by omega]
    simp only [List.getElem?_cons_succ, List.getD_cons_succ]
    exact ih

/-- the slice at A, n long, holds ps, below block B -/
structure Ps (w : World) (B : Nat) (A : Option Addr) (n : Nat) (ps : List Pt) : Prop where
  len : ps.length = n
  all : AllP ps
  mem : 0 < n → ∃ b o, A = some ⟨b, o, none⟩ ∧ b < B ∧ ∀ i, i < n → w.cell? ⟨b, o + i * 3, none⟩ = some (.int .i64 (ps.getD i zeroP).k) ∧ w.cell? ⟨b, o + i * 3 + 1, none⟩ = some (.int .i64 (ps.getD i zeroP).a) ∧ w.cell? ⟨b, o + i * 3 + 2, none⟩ = some (.int .i64 (ps.getD i zeroP).l)

section
variable {w w' : World} {B B' n : Nat} {A : Option Addr} {ps : List Pt}
theorem Ps.nil (w : World) (B : Nat) (A : Option Addr) : Ps w B A 0 [] := ⟨rfl, AllP.nil, fun h => absurd h (by omega)⟩
theorem Ps.keep (h : Ps w B A n ps) (hk : ∀ p : Addr, p.block < B → w'.cell? p = w.cell? p) : Ps w' B A n ps :=
  ⟨h.len, h.all, fun hn => by
    obtain ⟨b, o, e, hb, hc⟩ := h.mem hn
    exact ⟨b, o, e, hb, fun i hi => ⟨(hk _ hb).trans (hc i hi).1, (hk _ hb).trans (hc i hi).2.1, (hk _ hb).trans (hc i hi).2.2⟩⟩⟩
theorem Ps.more (h : Ps w B A n ps) (hB : B ≤ B') : Ps w B' A n ps :=
  ⟨h.len, h.all, fun hn => by
    obtain ⟨b, o, e, hb, hc⟩ := h.mem hn
    exact ⟨b, o, e, by omega, hc⟩⟩
theorem Ps.below (h : Ps w B A n ps) (hb : Below B w w') : Ps w' B A n ps := h.keep fun _ hp => hb.cell hp
theorem Ps.below' (h : Ps w B A n ps) (hb : Below B w w') (hB : B ≤ B') : Ps w' B' A n ps := (h.below hb).more hB
theorem Ps.src (h : Ps w B A n ps) (hp : 0 < (cellsP ps).length) : ∃ ad, A = some ad ∧ ∀ j v, (cellsP ps)[j]? = some v → w.cell? (ad.add j) = some v := by
  rw [cellsP_length, h.len] at hp
  obtain ⟨b, o, rfl, _, hc⟩ := h.mem (by omega)
  refine ⟨_, rfl, fun j v hv => ?_⟩
  have hl := h.len
  have hj : j < ps.length * 3 := by have := (List.getElem?_eq_some_iff.1 hv).1; rwa [cellsP_length] at this
  have hq : j / 3 < ps.length := by omega
  have hg := cellsP_get ps (j / 3) hq
  have hk := hc (j / 3) (by omega)
  rw [Addr.add_lit]
  have h3 : j = j / 3 * 3 ∨ j = j / 3 * 3 + 1 ∨ j = j / 3 * 3 + 2 := by omega
  rcases h3 with e | e | e
  · rw [← e] at hg hk
    rw [hg.1] at hv
    rw [hk.1]; exact hv
  · have e2 : o + j = o + j / 3 * 3 + 1 := by omega
    rw [e2, hk.2.1]
    rw [e, hg.2.1] at hv
    exact hv
  · have e2 : o + j = o + j / 3 * 3 + 2 := by omega
    rw [e2, hk.2.2]
    rw [e, hg.2.2] at hv
    exact hv
theorem Ps.of_cells (hl : ps.length = n) (ha : AllP ps) {b o : Nat} (hb : b < B) (hc : ∀ j v, (cellsP ps)[j]? = some v → w.cell? ⟨b, o + j, none⟩ = some v) : Ps w B (some ⟨b, o, none⟩) n ps :=
  ⟨hl, ha, fun _ => ⟨b, o, rfl, hb, fun i hi => by
    have hg := cellsP_get ps i (by omega)
    have h1 := hc _ _ hg.1
    have h2 := hc _ _ hg.2.1
    have h3 := hc _ _ hg.2.2
    rw [← Nat.add_assoc] at h2 h3
    exact ⟨h1, h2, h3⟩⟩⟩
theorem Ps.of_own {base e c : Nat} (hB : w.heap.size ≤ B) (ha : AllP ps) (h : w.ownsRow base e 3 (.slice A n c) n (cellsP ps)) : Ps w B A n ps := by
  have hl : ps.length = n := by have := h.1; rw [cellsP_length] at this; omega
  refine ⟨hl, ha, fun hn => ?_⟩
  obtain ⟨g, cap, hv, _, hlt⟩ := h.form hn
  have hA : A = some ⟨g, 0, none⟩ := by injection hv
  subst hA
  have hr : Ps w B (some ⟨g, 0, none⟩) n ps := Ps.of_cells hl ha (by omega) fun j v hv => by
    have := h.cells (g := g) rfl j v hv
    simpa [Addr.add_lit] using this
  exact hr.mem hn
end

/-- the slice (A, n, c) is a row of the call's own, from block 'base' on, and holds ps -/
def OwnP (t : TypeId) (w : World) (base : Nat) (A : Option Addr) (n c : Nat) (ps : List Pt) : Prop :=
  w.ownsRow base t 3 (.slice A n c) n (cellsP ps) ∧ AllP ps

section
variable {t : TypeId} {w w' : World} {base n c : Nat} {A : Option Addr} {ps : List Pt}
theorem OwnP.len (h : OwnP t w base A n c ps) : ps.length = n := by have := h.1.1; rw [cellsP_length] at this; omega
theorem OwnP.lies (h : OwnP t w base A n c ps) {B : Nat} (hB : w.heap.size ≤ B) : Ps w B A n ps := Ps.of_own hB h.2 h.1
theorem OwnP.lt (h : OwnP t w base A n c ps) : ∀ k, (Value.slice A n c).ownBlock = some k → base ≤ k ∧ k < w.heap.size := h.1.lt
theorem OwnP.below (h : OwnP t w base A n c ps) (hb : Below w.heap.size w w') : OwnP t w' base A n c ps := by
  refine ⟨⟨h.1.1, ?_⟩, h.2⟩
  rcases h.1.2 with e | ⟨g, cap, cur, e, hbg, hg, r⟩
  · exact .inl e
  · exact .inr ⟨g, cap, cur, e, hbg, by rw [hb.block g (Array.getElem?_eq_some_iff.1 hg).1]; exact hg, r⟩
theorem OwnP.none_ (t : TypeId) (w : World) (base : Nat) : OwnP t w base none 0 0 [] := ⟨⟨rfl, .inl ⟨rfl, rfl⟩⟩, AllP.nil⟩
theorem OwnP.one (w : World) (t : TypeId) (p : Pt) (hp : p.ok) (hb : base ≤ w.heap.size) : OwnP t (w.alloc (.cells #[.int .i64 p.k, .int .i64 p.a, .int .i64 p.l] t)) base (some ⟨w.heap.size, 0, none⟩) 1 1 [p] :=
  ⟨⟨rfl, .inr ⟨w.heap.size, 1, _, rfl, hb, heap_alloc_new w _, Nat.le_refl _, by simp [maxLen], rfl, rfl⟩⟩, AllP.one hp⟩
theorem Ps.one (w : World) (t : TypeId) (p : Pt) (hp : p.ok) {B : Nat} (hB : w.heap.size < B) : Ps (w.alloc (.cells #[.int .i64 p.k, .int .i64 p.a, .int .i64 p.l] t)) B (some ⟨w.heap.size, 0, none⟩) 1 [p] :=
  Ps.of_cells rfl (AllP.one hp) hB fun j v hv => by
    have hj : j < 3 := by have := (List.getElem?_eq_some_iff.1 hv).1; rwa [cellsP_length] at this
    rw [Nat.zero_add, cell_of_row _ w.heap.size j _ t (0, 0) (heap_alloc_new w _)]
    have e : (#[.int .i64 p.k, .int .i64 p.a, .int .i64 p.l] : Array Value)[j]? = (cellsP [p])[j]? := by
      rw [cellsP_cons, cellsP_nil, ← List.getElem?_toArray]
    rw [e]; exact hv
end

theorem run_append_none_p {P : Program} {w : World} {base : Nat} {t ty e : TypeId} {i : TypeInfo} (ht : P.underlying t = some (.slice e)) (hi : P.info? e = some i)
    {v : Value} {n : Nat} {xs : List Value} (hown : w.ownsRow base e 3 v n xs) (c : Nat) : (Builtin.append_ #[t, t] ty #[v, .slice none 0 c]).run P w = .ok v w := by
  rcases hown.2 with ⟨rfl, rfl⟩ | ⟨g, cap, cur, rfl, _, _, hnc, _⟩
  · simp [Builtin.append_, run_underlying ht, sizeOf, typeInfo, hi, Builtin.lenOf, Builtin.firstCells]
  · simp [Builtin.append_, run_underlying ht, sizeOf, typeInfo, hi, Builtin.lenOf, Builtin.firstCells, hnc, storeCells]

def zeroPV : Value := .agg #[.int .i64 0, .int .i64 0, .int .i64 0]
theorem run_append_ps {P : Program} (w : World) (base : Nat) (t ty e : TypeId) (i : TypeInfo) (ht : P.underlying t = some (.slice e)) (hi : P.info? e = some i) (hz : i.zero = some zeroPV)
    (hsize : i.size = 3) (hby : i.bytes = 24) (A0 : Option Addr) (n c0 : Nat) (xs : List Pt) (hown : OwnP e w base A0 n c0 xs)
    (A : Option Addr) (m c : Nat) (B : Nat) (ys : List Pt) (hs : Ps w B A m ys) (hb : n + m ≤ 4294967296) (hbase : base ≤ w.heap.size) :
    ∃ A' c' w', (Builtin.append_ #[t, t] ty #[.slice A0 n c0, .slice A m c]).run P w = .ok (.slice A' (n + m) c') w' ∧ OwnP e w' base A' (n + m) c' (xs ++ ys) ∧
      w.grownBy w' (Value.slice A0 n c0).ownBlock ∧ ((Value.slice A' (n + m) c').ownBlock = (Value.slice A0 n c0).ownBlock ∨ (Value.slice A' (n + m) c').ownBlock = some w.heap.size) := by
  have hlen := hs.len
  cases A with
  | none =>
    have hm : m = 0 := by
      rcases Nat.eq_zero_or_pos m with h0 | h0
      · exact h0
      · obtain ⟨b, o, h, _⟩ := hs.mem h0
        cases h
    subst hm
    obtain rfl : ys = [] := List.eq_nil_of_length_eq_zero hlen
    exact ⟨A0, c0, w, run_append_none_p ht hi hown.1 c, by simpa using hown, World.grownBy.refl w _, .inl rfl⟩
  | some ad =>
    have hnews : ∀ j u, (cellsP ys)[j]? = some u → w.cell? (ad.add j) = some u := by
      intro j u hu
      have hpos : 0 < (cellsP ys).length := by have := (List.getElem?_eq_some_iff.1 hu).1; omega
      obtain ⟨ad', e1, h⟩ := hs.src hpos
      injection e1 with e1
      subst e1
      exact h j u hu
    obtain ⟨v', w', hrun, h2, h3, _, h5⟩ := run_append_own_at (P := P) w base t ty e i zeroPV 3 24 ht hi hz hsize hby rfl (by omega) (.slice A0 n c0) n (cellsP xs) hown.1 ad m c (cellsP ys) (by rw [cellsP_length]; omega) hnews (cellsP_one ys) (by simp only [maxLen]; omega) (by omega) hbase
    rw [← cellsP_append] at h2
    have hform : ∃ A' c', v' = .slice A' (n + m) c' := by
      rcases h2.2 with ⟨e1, e2⟩ | ⟨g, cap, cur, e1, _⟩
      · exact ⟨none, 0, by rw [e1, e2]⟩
      · exact ⟨_, _, e1⟩
    obtain ⟨A', c', rfl⟩ := hform
    exact ⟨A', c', w', hrun, ⟨h2, hown.2.append hs.all⟩, h3, h5⟩

/-- as an operation that is carried out -/
theorem wp_append_ps {P : Program} {w : World} {o : Oper} {a : Act} {K : Act → World → Prop} {Q : Exit → Act → World → Prop} (s x : Operand) (t : TypeId)
    (ho : o.op = .call { callee := .builtin .append, args := #[s, x], argTypes := #[t, t] })
    (base : Nat) (e : TypeId) (i : TypeInfo) (ht : P.underlying t = some (.slice e)) (hi : P.info? e = some i) (hz : i.zero = some zeroPV) (hsize : i.size = 3) (hby : i.bytes = 24)
    (A0 : Option Addr) (n c0 : Nat) (xs : List Pt) (hs : a.eval s = .slice A0 n c0) (hown : OwnP e w base A0 n c0 xs)
    (A : Option Addr) (m c B : Nat) (ys : List Pt) (hx : a.eval x = .slice A m c) (hb : Ps w B A m ys) (hn : n + m ≤ 4294967296) (hbase : base ≤ w.heap.size)
    (h : ∀ A' c' w', OwnP e w' base A' (n + m) c' (xs ++ ys) → w.grownBy w' (Value.slice A0 n c0).ownBlock → ((Value.slice A' (n + m) c').ownBlock = (Value.slice A0 n c0).ownBlock ∨ (Value.slice A' (n + m) c').ownBlock = some w.heap.size) →
      K (a.put o.dst (.slice A' (n + m) c')) w') : o.wp P a w K Q := by
  obtain ⟨A', c', w', hrun, h2, h3, h4⟩ := run_append_ps (P := P) w base t o.type e i ht hi hz hsize hby A0 n c0 xs hown A m c B ys hb hn hbase
  unfold Oper.wp execOp
  simp only [ho, resolve, invoke, builtin, Sem.run_bind, Sem.run_pure, Result.andThen_ok, List.map_toArray, List.map_cons, List.map_nil, hs, hx, hrun]
  exact h A' c' w' h2 h3 h4
theorem wpList_append_ps {P : Program} {w : World} {ops : Array Oper} {rest : List Oper} {o : Oper} {a : Act} {Q : Exit → Act → World → Prop} (hgd : o.guard = none) (s x : Operand) (t : TypeId)
    (ho : o.op = .call { callee := .builtin .append, args := #[s, x], argTypes := #[t, t] })
    (base : Nat) (e : TypeId) (i : TypeInfo) (ht : P.underlying t = some (.slice e)) (hi : P.info? e = some i) (hz : i.zero = some zeroPV) (hsize : i.size = 3) (hby : i.bytes = 24)
    (A0 : Option Addr) (n c0 : Nat) (xs : List Pt) (hs : a.eval s = .slice A0 n c0) (hown : OwnP e w base A0 n c0 xs)
    (A : Option Addr) (m c B : Nat) (ys : List Pt) (hx : a.eval x = .slice A m c) (hb : Ps w B A m ys) (hn : n + m ≤ 4294967296) (hbase : base ≤ w.heap.size)
    (h : ∀ A' c' w', OwnP e w' base A' (n + m) c' (xs ++ ys) → w.grownBy w' (Value.slice A0 n c0).ownBlock → ((Value.slice A' (n + m) c').ownBlock = (Value.slice A0 n c0).ownBlock ∨ (Value.slice A' (n + m) c').ownBlock = some w.heap.size) →
      wpList P ops Q rest (a.put o.dst (.slice A' (n + m) c')) w') : wpList P ops Q (o :: rest) a w :=
  wpList_plain hgd fun _ hK => wp_append_ps s x t ho base e i ht hi hz hsize hby A0 n c0 xs hs hown A m c B ys hx hb hn hbase fun A' c' w' h2 h3 h4 => hK _ _ (h A' c' w' h2 h3 h4)
end Go.Proofs.Ytnfdfjjdgojeeaa
