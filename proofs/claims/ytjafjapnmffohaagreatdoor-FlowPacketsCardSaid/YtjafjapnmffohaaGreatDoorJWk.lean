/- Texts joined.
  Plain words for slices of structs of three ints in memory: what such a slice reads as, how that is kept while memory grows; append onto a row of the call's own. No condition.
  What the headers of bytes are, and what walk.extent tells. Condition: at most 2^47 bytes.
  What walk.Walk tells of any bytes, from any place and of any kind on. Condition: at most 2^47 bytes.
  What walk.Walk, and the document's own Walk, tell of any bytes, from any place and of any kind on. Condition: at most 2^47 bytes.
  What the document's own Walk tells; what walk.Find and walk.Upper tell of any headers; what the laws' own small test answers: true. Condition: at most 2^47 bytes, 2^47 headers.
  What the laws' own small test of headers answers: true. No condition.
-/
import Derived.Test.YtjafjapnmffohaaGreatDoorJOct
import Derived.Test.YtjafjapnmffohaaGreatDoorApp
import Derived.Test.YtjafjapnmffohaaGreatDoorJReg
import Derived.OwnWalk
import Derived.WalkMore
import Derived.Deep.LoopGhost
import Derived.Test.YtjafjapnmffohaaGreatDoorVals
set_option maxRecDepth 100000
namespace Go.Proofs.YtjafjapnmffohaaGreatDoor
open Go.RowKit
set_option linter.unusedVariables false

/-- three ints -/
structure Pt where
  k : Int
  a : Int
  l : Int
def zeroP : Pt := ⟨0, 0, 0⟩
def Pt.ok (p : Pt) : Prop := i64ok p.k ∧ i64ok p.a ∧ i64ok p.l
theorem zeroP_ok : zeroP.ok := by simp [Pt.ok, zeroP, i64ok]
def AllP (ps : List Pt) : Prop := ∀ p ∈ ps, p.ok
theorem AllP.nil : AllP [] := fun _ h => by cases h
theorem AllP.one {p : Pt} (h : p.ok) : AllP [p] := fun q hq => by
  obtain rfl : q = p := by simpa using hq
  exact h
theorem AllP.append {xs ys : List Pt} (h : AllP xs) (k : AllP ys) : AllP (xs ++ ys) := fun x hx => by
  rcases List.mem_append.1 hx with hx | hx
  · exact h x hx
  · exact k x hx
theorem AllP.getD {xs : List Pt} (h : AllP xs) (i : Nat) : (xs.getD i zeroP).ok := by
  rcases Nat.lt_or_ge i xs.length with hi | hi
  · have e : xs.getD i zeroP = xs[i] := by simp [List.getD, hi]
    rw [e]; exact h _ (List.getElem_mem hi)
  · have e : xs.getD i zeroP = zeroP := by simp [List.getD, List.getElem?_eq_none hi]
    rw [e]; exact zeroP_ok

/-- the cells of a list of such -/
def ptC (p : Pt) : List Value := [.int .i64 p.k, .int .i64 p.a, .int .i64 p.l]
def cellsP (ps : List Pt) : List Value := ps.flatMap ptC
theorem cellsP_nil : cellsP [] = [] := rfl
theorem cellsP_cons (p : Pt) (ps : List Pt) : cellsP (p :: ps) = .int .i64 p.k :: .int .i64 p.a :: .int .i64 p.l :: cellsP ps := rfl
theorem cellsP_append (xs ys : List Pt) : cellsP (xs ++ ys) = cellsP xs ++ cellsP ys := by simp [cellsP]
theorem cellsP_length : ∀ ps : List Pt, (cellsP ps).length = ps.length * 3
  | [] => rfl
  | p :: ps => by rw [cellsP_cons]; simp only [List.length_cons, cellsP_length ps]; omega
theorem cellsP_one : ∀ (ps : List Pt), ∀ u ∈ cellsP ps, u.oneCell' = true
  | [], u, h => by cases h
  | p :: ps, u, h => by
    rw [cellsP_cons] at h
    simp only [List.mem_cons] at h
    rcases h with rfl | rfl | rfl | h
    · rfl
    · rfl
    · rfl
    · exact cellsP_one ps u h
theorem cellsP_get : ∀ (ps : List Pt) (i : Nat), i < ps.length → (cellsP ps)[i * 3]? = some (.int .i64 (ps.getD i zeroP).k) ∧ (cellsP ps)[i * 3 + 1]? = some (.int .i64 (ps.getD i zeroP).a) ∧ (cellsP ps)[i * 3 + 2]? = some (.int .i64 (ps.getD i zeroP).l)
  | [], i, h => by simp at h
  | p :: ps, 0, _ => ⟨rfl, rfl, rfl⟩
  | p :: ps, i + 1, h => by
    have ih := cellsP_get ps i (by simpa using h)
    rw [cellsP_cons, show (i + 1) * 3 = i * 3 + 1 + 1 + 1 by omega]
    simp only [List.getElem?_cons_succ, List.getD_cons_succ]
    exact ih

/-- the slice at A, n long, holds ps, below block B -/
structure Ps (w : World) (B : Nat) (A : Option Addr) (n : Nat) (ps : List Pt) : Prop where
  len : ps.length = n
  all : AllP ps
  mem : 0 < n → ∃ b o, A = some ⟨b, o, none⟩ ∧ b < B ∧ ∀ i, i < n → w.cell? ⟨b, o + i * 3, none⟩ = some (.int .i64 (ps.getD i zeroP).k) ∧ w.cell? ⟨b, o + i * 3 + 1, none⟩ = some (.int .i64 (ps.getD i zeroP).a) ∧ w.cell? ⟨b, o + i * 3 + 2, none⟩ = some (.int .i64 (ps.getD i zeroP).l)

section
variable {w w' : World} {B B' n : Nat} {A : Option Addr} {ps : List Pt}
theorem Ps.nil (w : World) (B : Nat) (A : Option Addr) : Ps w B A 0 [] := ⟨rfl, AllP.nil, fun h => absurd h (by omega)⟩
theorem Ps.keep (h : Ps w B A n ps) (hk : ∀ p : Addr, p.block < B → w'.cell? p = w.cell? p) : Ps w' B A n ps :=
  ⟨h.len, h.all, fun hn => by
    obtain ⟨b, o, e, hb, hc⟩ := h.mem hn
    exact ⟨b, o, e, hb, fun i hi => ⟨(hk _ hb).trans (hc i hi).1, (hk _ hb).trans (hc i hi).2.1, (hk _ hb).trans (hc i hi).2.2⟩⟩⟩
theorem Ps.more (h : Ps w B A n ps) (hB : B ≤ B') : Ps w B' A n ps :=
  ⟨h.len, h.all, fun hn => by
    obtain ⟨b, o, e, hb, hc⟩ := h.mem hn
    exact ⟨b, o, e, by omega, hc⟩⟩
theorem Ps.below (h : Ps w B A n ps) (hb : Below B w w') : Ps w' B A n ps := h.keep fun _ hp => hb.cell hp
theorem Ps.below' (h : Ps w B A n ps) (hb : Below B w w') (hB : B ≤ B') : Ps w' B' A n ps := (h.below hb).more hB
theorem Ps.src (h : Ps w B A n ps) (hp : 0 < (cellsP ps).length) : ∃ ad, A = some ad ∧ ∀ j v, (cellsP ps)[j]? = some v → w.cell? (ad.add j) = some v := by
  rw [cellsP_length, h.len] at hp
  obtain ⟨b, o, rfl, _, hc⟩ := h.mem (by omega)
  refine ⟨_, rfl, fun j v hv => ?_⟩
  have hl := h.len
  have hj : j < ps.length * 3 := by have := (List.getElem?_eq_some_iff.1 hv).1; rwa [cellsP_length] at this
  have hq : j / 3 < ps.length := by omega
  have hg := cellsP_get ps (j / 3) hq
  have hk := hc (j / 3) (by omega)
  rw [Addr.add_lit]
  have h3 : j = j / 3 * 3 ∨ j = j / 3 * 3 + 1 ∨ j = j / 3 * 3 + 2 := by omega
  rcases h3 with e | e | e
  · rw [← e] at hg hk
    rw [hg.1] at hv
    rw [hk.1]; exact hv
  · have e2 : o + j = o + j / 3 * 3 + 1 := by omega
    rw [e2, hk.2.1]
    rw [e, hg.2.1] at hv
    exact hv
  · have e2 : o + j = o + j / 3 * 3 + 2 := by omega
    rw [e2, hk.2.2]
    rw [e, hg.2.2] at hv
    exact hv
theorem Ps.of_cells (hl : ps.length = n) (ha : AllP ps) {b o : Nat} (hb : b < B) (hc : ∀ j v, (cellsP ps)[j]? = some v → w.cell? ⟨b, o + j, none⟩ = some v) : Ps w B (some ⟨b, o, none⟩) n ps :=
  ⟨hl, ha, fun _ => ⟨b, o, rfl, hb, fun i hi => by
    have hg := cellsP_get ps i (by omega)
    have h1 := hc _ _ hg.1
    have h2 := hc _ _ hg.2.1
    have h3 := hc _ _ hg.2.2
    rw [← Nat.add_assoc] at h2 h3
    exact ⟨h1, h2, h3⟩⟩⟩
theorem Ps.of_own {base e c : Nat} (hB : w.heap.size ≤ B) (ha : AllP ps) (h : w.ownsRow base e 3 (.slice A n c) n (cellsP ps)) : Ps w B A n ps := by
  have hl : ps.length = n := by have := h.1; rw [cellsP_length] at this; omega
  refine ⟨hl, ha, fun hn => ?_⟩
  obtain ⟨g, cap, hv, _, hlt⟩ := h.form hn
  have hA : A = some ⟨g, 0, none⟩ := by injection hv
  subst hA
  have hr : Ps w B (some ⟨g, 0, none⟩) n ps := Ps.of_cells hl ha (by omega) fun j v hv => by
    have := h.cells (g := g) rfl j v hv
    simpa [Addr.add_lit] using this
  exact hr.mem hn
end

/-- the slice (A, n, c) is a row of the call's own, from block 'base' on, and holds ps -/
def OwnP (t : TypeId) (w : World) (base : Nat) (A : Option Addr) (n c : Nat) (ps : List Pt) : Prop :=
  w.ownsRow base t 3 (.slice A n c) n (cellsP ps) ∧ AllP ps

section
variable {t : TypeId} {w w' : World} {base n c : Nat} {A : Option Addr} {ps : List Pt}
theorem OwnP.len (h : OwnP t w base A n c ps) : ps.length = n := by have := h.1.1; rw [cellsP_length] at this; omega
theorem OwnP.lies (h : OwnP t w base A n c ps) {B : Nat} (hB : w.heap.size ≤ B) : Ps w B A n ps := Ps.of_own hB h.2 h.1
theorem OwnP.lt (h : OwnP t w base A n c ps) : ∀ k, (Value.slice A n c).ownBlock = some k → base ≤ k ∧ k < w.heap.size := h.1.lt
theorem OwnP.below (h : OwnP t w base A n c ps) (hb : Below w.heap.size w w') : OwnP t w' base A n c ps := by
  refine ⟨⟨h.1.1, ?_⟩, h.2⟩
  rcases h.1.2 with e | ⟨g, cap, cur, e, hbg, hg, r⟩
  · exact .inl e
  · exact .inr ⟨g, cap, cur, e, hbg, by rw [hb.block g (Array.getElem?_eq_some_iff.1 hg).1]; exact hg, r⟩
theorem OwnP.none_ (t : TypeId) (w : World) (base : Nat) : OwnP t w base none 0 0 [] := ⟨⟨rfl, .inl ⟨rfl, rfl⟩⟩, AllP.nil⟩
theorem OwnP.one (w : World) (t : TypeId) (p : Pt) (hp : p.ok) (hb : base ≤ w.heap.size) : OwnP t (w.alloc (.cells #[.int .i64 p.k, .int .i64 p.a, .int .i64 p.l] t)) base (some ⟨w.heap.size, 0, none⟩) 1 1 [p] :=
  ⟨⟨rfl, .inr ⟨w.heap.size, 1, _, rfl, hb, heap_alloc_new w _, Nat.le_refl _, by simp [maxLen], rfl, rfl⟩⟩, AllP.one hp⟩
theorem Ps.one (w : World) (t : TypeId) (p : Pt) (hp : p.ok) {B : Nat} (hB : w.heap.size < B) : Ps (w.alloc (.cells #[.int .i64 p.k, .int .i64 p.a, .int .i64 p.l] t)) B (some ⟨w.heap.size, 0, none⟩) 1 [p] :=
  Ps.of_cells rfl (AllP.one hp) hB fun j v hv => by
    have hj : j < 3 := by have := (List.getElem?_eq_some_iff.1 hv).1; rwa [cellsP_length] at this
    rw [Nat.zero_add, cell_of_row _ w.heap.size j _ t (0, 0) (heap_alloc_new w _)]
    have e : (#[.int .i64 p.k, .int .i64 p.a, .int .i64 p.l] : Array Value)[j]? = (cellsP [p])[j]? := by
      rw [cellsP_cons, cellsP_nil, ← List.getElem?_toArray]
    rw [e]; exact hv
end

theorem run_append_none_p {P : Program} {w : World} {base : Nat} {t ty e : TypeId} {i : TypeInfo} (ht : P.underlying t = some (.slice e)) (hi : P.info? e = some i)
    {v : Value} {n : Nat} {xs : List Value} (hown : w.ownsRow base e 3 v n xs) (c : Nat) : (Builtin.append_ #[t, t] ty #[v, .slice none 0 c]).run P w = .ok v w := by
  rcases hown.2 with ⟨rfl, rfl⟩ | ⟨g, cap, cur, rfl, _, _, hnc, _⟩
  · simp [Builtin.append_, run_underlying ht, sizeOf, typeInfo, hi, Builtin.lenOf, Builtin.firstCells]
  · simp [Builtin.append_, run_underlying ht, sizeOf, typeInfo, hi, Builtin.lenOf, Builtin.firstCells, hnc, storeCells]

def zeroPV : Value := .agg #[.int .i64 0, .int .i64 0, .int .i64 0]
theorem run_append_ps {P : Program} (w : World) (base : Nat) (t ty e : TypeId) (i : TypeInfo) (ht : P.underlying t = some (.slice e)) (hi : P.info? e = some i) (hz : i.zero = some zeroPV)
    (hsize : i.size = 3) (hby : i.bytes = 24) (A0 : Option Addr) (n c0 : Nat) (xs : List Pt) (hown : OwnP e w base A0 n c0 xs)
    (A : Option Addr) (m c : Nat) (B : Nat) (ys : List Pt) (hs : Ps w B A m ys) (hb : n + m ≤ 4294967296) (hbase : base ≤ w.heap.size) :
    ∃ A' c' w', (Builtin.append_ #[t, t] ty #[.slice A0 n c0, .slice A m c]).run P w = .ok (.slice A' (n + m) c') w' ∧ OwnP e w' base A' (n + m) c' (xs ++ ys) ∧
      w.grownBy w' (Value.slice A0 n c0).ownBlock ∧ ((Value.slice A' (n + m) c').ownBlock = (Value.slice A0 n c0).ownBlock ∨ (Value.slice A' (n + m) c').ownBlock = some w.heap.size) := by
  have hlen := hs.len
  cases A with
  | none =>
    have hm : m = 0 := by
      rcases Nat.eq_zero_or_pos m with h0 | h0
      · exact h0
      · obtain ⟨b, o, h, _⟩ := hs.mem h0
        cases h
    subst hm
    obtain rfl : ys = [] := List.eq_nil_of_length_eq_zero hlen
    exact ⟨A0, c0, w, run_append_none_p ht hi hown.1 c, by simpa using hown, World.grownBy.refl w _, .inl rfl⟩
  | some ad =>
    have hnews : ∀ j u, (cellsP ys)[j]? = some u → w.cell? (ad.add j) = some u := by
      intro j u hu
      have hpos : 0 < (cellsP ys).length := by have := (List.getElem?_eq_some_iff.1 hu).1; omega
      obtain ⟨ad', e1, h⟩ := hs.src hpos
      injection e1 with e1
      subst e1
      exact h j u hu
    obtain ⟨v', w', hrun, h2, h3, _, h5⟩ := run_append_own_at (P := P) w base t ty e i zeroPV 3 24 ht hi hz hsize hby rfl (by omega) (.slice A0 n c0) n (cellsP xs) hown.1 ad m c (cellsP ys) (by rw [cellsP_length]; omega) hnews (cellsP_one ys) (by simp only [maxLen]; omega) (by omega) hbase
    rw [← cellsP_append] at h2
    have hform : ∃ A' c', v' = .slice A' (n + m) c' := by
      rcases h2.2 with ⟨e1, e2⟩ | ⟨g, cap, cur, e1, _⟩
      · exact ⟨none, 0, by rw [e1, e2]⟩
      · exact ⟨_, _, e1⟩
    obtain ⟨A', c', rfl⟩ := hform
    exact ⟨A', c', w', hrun, ⟨h2, hown.2.append hs.all⟩, h3, h5⟩

/-- as an operation that is carried out -/
theorem wp_append_ps {P : Program} {w : World} {o : Oper} {a : Act} {K : Act → World → Prop} {Q : Exit → Act → World → Prop} (s x : Operand) (t : TypeId)
    (ho : o.op = .call { callee := .builtin .append, args := #[s, x], argTypes := #[t, t] })
    (base : Nat) (e : TypeId) (i : TypeInfo) (ht : P.underlying t = some (.slice e)) (hi : P.info? e = some i) (hz : i.zero = some zeroPV) (hsize : i.size = 3) (hby : i.bytes = 24)
    (A0 : Option Addr) (n c0 : Nat) (xs : List Pt) (hs : a.eval s = .slice A0 n c0) (hown : OwnP e w base A0 n c0 xs)
    (A : Option Addr) (m c B : Nat) (ys : List Pt) (hx : a.eval x = .slice A m c) (hb : Ps w B A m ys) (hn : n + m ≤ 4294967296) (hbase : base ≤ w.heap.size)
    (h : ∀ A' c' w', OwnP e w' base A' (n + m) c' (xs ++ ys) → w.grownBy w' (Value.slice A0 n c0).ownBlock → ((Value.slice A' (n + m) c').ownBlock = (Value.slice A0 n c0).ownBlock ∨ (Value.slice A' (n + m) c').ownBlock = some w.heap.size) →
      K (a.put o.dst (.slice A' (n + m) c')) w') : o.wp P a w K Q := by
  obtain ⟨A', c', w', hrun, h2, h3, h4⟩ := run_append_ps (P := P) w base t o.type e i ht hi hz hsize hby A0 n c0 xs hown A m c B ys hb hn hbase
  unfold Oper.wp execOp
  simp only [ho, resolve, invoke, builtin, Sem.run_bind, Sem.run_pure, Result.andThen_ok, List.map_toArray, List.map_cons, List.map_nil, hs, hx, hrun]
  exact h A' c' w' h2 h3 h4
theorem wpList_append_ps {P : Program} {w : World} {ops : Array Oper} {rest : List Oper} {o : Oper} {a : Act} {Q : Exit → Act → World → Prop} (hgd : o.guard = none) (s x : Operand) (t : TypeId)
    (ho : o.op = .call { callee := .builtin .append, args := #[s, x], argTypes := #[t, t] })
    (base : Nat) (e : TypeId) (i : TypeInfo) (ht : P.underlying t = some (.slice e)) (hi : P.info? e = some i) (hz : i.zero = some zeroPV) (hsize : i.size = 3) (hby : i.bytes = 24)
    (A0 : Option Addr) (n c0 : Nat) (xs : List Pt) (hs : a.eval s = .slice A0 n c0) (hown : OwnP e w base A0 n c0 xs)
    (A : Option Addr) (m c B : Nat) (ys : List Pt) (hx : a.eval x = .slice A m c) (hb : Ps w B A m ys) (hn : n + m ≤ 4294967296) (hbase : base ≤ w.heap.size)
    (h : ∀ A' c' w', OwnP e w' base A' (n + m) c' (xs ++ ys) → w.grownBy w' (Value.slice A0 n c0).ownBlock → ((Value.slice A' (n + m) c').ownBlock = (Value.slice A0 n c0).ownBlock ∨ (Value.slice A' (n + m) c').ownBlock = some w.heap.size) →
      wpList P ops Q rest (a.put o.dst (.slice A' (n + m) c')) w') : wpList P ops Q (o :: rest) a w :=
  wpList_plain hgd fun _ hK => wp_append_ps s x t ho base e i ht hi hz hsize hby A0 n c0 xs hs hown A m c B ys hx hb hn hbase fun A' c' w' h2 h3 h4 => hK _ _ (h A' c' w' h2 h3 h4)
end Go.Proofs.YtjafjapnmffohaaGreatDoor

namespace Go.Proofs.YtjafjapnmffohaaGreatDoor
open Go.RowKit
set_option linter.unusedVariables false

/-- how long the extension header at a place is -/
def hsz (xs : List Int) (a : Nat) : Nat := 8 * ((xs.getD (a + 1) 0).toNat + 1)
/-- the headers of bytes from a place on, f of which may still be extension headers; an error -/
def walkR (xs : List Int) : Nat → Int → Nat → List Pt × Int
  | 0, next, a => if next = 44 then ([], 7) else if next = 0 then ([], 5) else if next = 43 ∨ next = 60 then ([], 8) else ([⟨next, a, (xs.length : Int) - a⟩], 0)
  | f + 1, next, a =>
    if next = 44 then ([], 7) else if next = 0 ∧ f ≠ 7 then ([], 5)
    else if next = 0 ∨ next = 43 ∨ next = 60 then
      if a + 2 ≤ xs.length ∧ a + hsz xs a ≤ xs.length then
        if (walkR xs f (xs.getD a 0) (a + hsz xs a)).2 = 0 then (⟨next, a, (hsz xs a : Nat)⟩ :: (walkR xs f (xs.getD a 0) (a + hsz xs a)).1, 0) else ([], (walkR xs f (xs.getD a 0) (a + hsz xs a)).2)
      else ([], 3)
    else ([⟨next, a, (xs.length : Int) - a⟩], 0)
/-- behind others -/
def joinPs (ps : List Pt) (r : List Pt × Int) : List Pt × Int := if r.2 = 0 then (ps ++ r.1, 0) else ([], r.2)
theorem joinPs_nil (r : List Pt × Int) (h : r.2 = 0 ∨ r.1 = []) : joinPs [] r = r := by
  obtain ⟨l, e⟩ := r
  unfold joinPs
  by_cases he : e = 0
  · simp [he]
  · rcases h with h | h
    · exact absurd h he
    · simp only at h; simp [he, h]
theorem joinPs_join (ps qs : List Pt) (r : List Pt × Int) : joinPs ps (joinPs qs r) = joinPs (ps ++ qs) r := by
  obtain ⟨l, e⟩ := r
  unfold joinPs
  by_cases he : e = 0 <;> simp [he]

section
variable (xs : List Int)
theorem walkR_frag (f : Nat) (a : Nat) : walkR xs f 44 a = ([], 7) := by cases f <;> simp [walkR]
theorem walkR_form (f : Nat) (a : Nat) (hf : f ≠ 8) : walkR xs f 0 a = ([], 5) := by
  cases f with
  | zero => simp [walkR]
  | succ f => simp [walkR]; omega
theorem walkR_last (f : Nat) (next : Int) (a : Nat) (h1 : next ≠ 44) (h2 : next ≠ 0) (h3 : next ≠ 43) (h4 : next ≠ 60) : walkR xs f next a = ([⟨next, a, (xs.length : Int) - a⟩], 0) := by cases f <;> simp [walkR, h1, h2, h3, h4]
theorem walkR_many (next : Int) (a : Nat) (h : next = 43 ∨ next = 60) : walkR xs 0 next a = ([], 8) := by
  rcases h with rfl | rfl <;> simp [walkR]
theorem walkR_short (f : Nat) (next : Int) (a : Nat) (h : (next = 0 ∧ f = 7) ∨ next = 43 ∨ next = 60) (hs : ¬ (a + 2 ≤ xs.length ∧ a + hsz xs a ≤ xs.length)) : walkR xs (f + 1) next a = ([], 3) := by
  unfold walkR
  rw [if_neg (by omega), if_neg (by omega), if_pos (by omega), if_neg hs]
theorem walkR_more (f : Nat) (next : Int) (a : Nat) (h : (next = 0 ∧ f = 7) ∨ next = 43 ∨ next = 60) (hs : a + 2 ≤ xs.length ∧ a + hsz xs a ≤ xs.length) :
    walkR xs (f + 1) next a = joinPs [⟨next, a, (hsz xs a : Nat)⟩] (walkR xs f (xs.getD a 0) (a + hsz xs a)) := by
  conv => lhs; unfold walkR
  rw [if_neg (by omega), if_neg (by omega), if_pos (by omega), if_pos hs]
  rfl
theorem walkR_or (f : Nat) (next : Int) (a : Nat) : (walkR xs f next a).2 = 0 ∨ (walkR xs f next a).1 = [] := by
  cases f with
  | zero => unfold walkR; (repeat' split) <;> first | exact .inl rfl | exact .inr rfl
  | succ f => unfold walkR; (repeat' split) <;> first | exact .inl rfl | exact .inr rfl
theorem walkR_len : ∀ (f : Nat) (next : Int) (a : Nat), (walkR xs f next a).1.length ≤ f + 1
  | 0, next, a => by unfold walkR; (repeat' split) <;> simp
  | f + 1, next, a => by
    have ih := walkR_len f (xs.getD a 0) (a + hsz xs a)
    unfold walkR; (repeat' split) <;> simp only [List.length_cons, List.length_nil] <;> omega
theorem walkR_err : ∀ (f : Nat) (next : Int) (a : Nat), 0 ≤ (walkR xs f next a).2 ∧ (walkR xs f next a).2 ≤ 8
  | 0, next, a => by unfold walkR; (repeat' split) <;> simp
  | f + 1, next, a => by
    have ih := walkR_err f (xs.getD a 0) (a + hsz xs a)
    unfold walkR; (repeat' split) <;> first | exact ih | (constructor <;> dsimp only <;> omega)
end

set_option maxHeartbeats 400000 in
theorem extent_yes (A : Option Addr) (n c a : Nat) (xs : List Int) (w : World) (hn : n ≤ 140737488355328) (h2 : a + 2 ≤ n) (hs : a + hsz xs a ≤ n) (hb : Bs w w.heap.size A n xs) :
    Calls Tryz.prog 47 #[.slice A n c, .int .i64 a] w fun e w' => e = .returned (.tuple #[.int .i64 (hsz xs a : Nat), .bool true]) ∧ w = w' := by
  obtain ⟨b, o, rfl, hlt, hc⟩ := hb.mem (by omega)
  have c1 := hc (a + 1) (by omega)
  have v1 := hb.nonneg (a + 1)
  unfold hsz at hs ⊢
  generalize xs.getD (a + 1) 0 = x at *
  obtain ⟨y, rfl⟩ : ∃ y : Nat, x = y := ⟨x.toNat, by omega⟩
  rw [Int.toNat_natCast] at hs ⊢
  have hy : y < 256 := by omega
  have h3 : ¬ ((n : Int) - a < 2) := by omega
  have h4 : 8 * ((y : Int) + 1) ≤ n - a := by omega
  clear hc hs hb
  go_enter Tryz.func47, Tryz.ntmps47
  go_wp2
  go_ret2
  exact ⟨by simp, rfl⟩
set_option maxHeartbeats 400000 in
theorem extent_no (A : Option Addr) (n c a : Nat) (xs : List Int) (w : World) (hn : n ≤ 140737488355328) (ha : a ≤ n) (hs : ¬ (a + 2 ≤ n ∧ a + hsz xs a ≤ n)) (hb : Bs w w.heap.size A n xs) :
    Calls Tryz.prog 47 #[.slice A n c, .int .i64 a] w fun e w' => (∃ v : Int, e = .returned (.tuple #[.int .i64 v, .bool false])) ∧ w = w' := by
  by_cases h2 : a + 2 ≤ n
  · obtain ⟨b, o, rfl, hlt, hc⟩ := hb.mem (by omega)
    have c1 := hc (a + 1) (by omega)
    have v1 := hb.nonneg (a + 1)
    unfold hsz at hs
    generalize xs.getD (a + 1) 0 = x at *
    obtain ⟨y, rfl⟩ : ∃ y : Nat, x = y := ⟨x.toNat, by omega⟩
    rw [Int.toNat_natCast] at hs
    have hy : y < 256 := by omega
    have h3 : ¬ ((n : Int) - a < 2) := by omega
    have h4 : ¬ (8 * ((y : Int) + 1) ≤ n - a) := by omega
    clear hc hs hb
    go_enter Tryz.func47, Tryz.ntmps47
    go_wp2
    go_ret2
    exact ⟨⟨_, rfl⟩, rfl⟩
  · have h3 : (n : Int) - a < 2 := by omega
    clear hs
    go_enter Tryz.func47, Tryz.ntmps47
    go_wp2
    go_ret2
    exact ⟨⟨_, rfl⟩, rfl⟩
end Go.Proofs.YtjafjapnmffohaaGreatDoor

namespace Go.Proofs.YtjafjapnmffohaaGreatDoor
open Go.RowKit
set_option linter.unusedVariables false

theorem info_part : (Tryz.prog.info? 55).map (fun i => (i.zero, i.size, i.bytes)) = some (some zeroPV, 3, 24) := by kernel_rfl
/-- headers and a number handed back -/
def GivesW (w : World) (r : List Pt × Int) (e : Ending) (w' : World) : Prop :=
  ∃ A c, e = .returned (.tuple #[.slice A r.1.length c, .int .i64 r.2]) ∧ Ps w' w'.heap.size A r.1.length r.1 ∧ Below w.heap.size w w'
theorem GivesW.err {w w' : World} {r : List Pt × Int} (k : Int) (h : r = ([], k)) (hB : Below w.heap.size w w') : GivesW w r (.returned (.tuple #[.slice none 0 0, .int .i64 k])) w' := by
  subst h
  exact ⟨none, 0, rfl, Ps.nil _ _ _, hB⟩
/-- where the walk from header to header stands -/
def WkRel (w : World) (n : Nat) (xs : List Int) (R : List Pt × Int) (v1 v2 v8 : Value) (wr : World) : Prop :=
  ∃ (nx : Int) (a q f : Nat) (A : Option Addr) (c : Nat) (ps : List Pt), v1 = .int .i64 nx ∧ v2 = .int .i64 a ∧ v8 = .slice A q c ∧ a ≤ n ∧ q + f = 8 ∧ i64ok nx ∧ OwnP 55 wr w.heap.size A q c ps ∧ R = joinPs ps (walkR xs f nx a) ∧ Below w.heap.size w wr

set_option maxHeartbeats 1600000 in
theorem walk_from (A : Option Addr) (n c : Nat) (xs : List Int) (nx0 : Int) (a0 : Nat) (w : World) (hn : n ≤ 140737488355328) (hb : Bs w w.heap.size A n xs) (hx0 : i64ok nx0) (ha0 : a0 ≤ n) :
    Calls Tryz.prog 27 #[.slice A n c, .int .i64 nx0, .int .i64 a0] w (GivesW w (walkR xs 8 nx0 a0)) := by
  obtain ⟨i0, hi, hz0, hz1, hz2⟩ := info_parts info_part
  have HI := Lib.hid hi
  have HZ0 := Lib.hid hz0
  have HZ1 := Lib.hid hz1
  have HZ2 := Lib.hid hz2
  clear hi hz0 hz1 hz2
  have hR0 := joinPs_nil _ (walkR_or xs 8 nx0 a0)
  obtain ⟨R, hR⟩ : ∃ R, R = walkR xs 8 nx0 a0 := ⟨_, rfl⟩
  rw [← hR] at hR0 ⊢
  have HR0 := Lib.hid (hR.symm ▸ hR0.symm : R = joinPs [] (walkR xs 8 nx0 a0))
  have hx := hx0
  unfold i64ok at hx
  clear hR hR0
  have hd0 : decide ((a0 : Int) < 0) = false := by simp
  have hd1 : decide (n < a0) = false := by simpa using ha0
  go_enter Tryz.func27, Tryz.ntmps27
  go_wp2_with fail
  go_step3
  go_wp2_with fail
  go_step3
  go_wp2_with fail
  go_loopw [1, 2, 8] (fun v1 v2 v8 wr => WkRel w n xs R v1 v2 v8 wr) (fun _ v2 _ _ => n - (intOf v2).toNat)
  case atStart => exact ⟨nx0, a0, 0, 8, none, 0, [], rfl, rfl, rfl, ha0, rfl, hx0, OwnP.none_ _ _ _, HR0.out, Below.refl _ _⟩
  case round =>
    clear hx HR0
    obtain ⟨nx, a, q, f, A1, c1, ps, rfl, rfl, rfl, ha, hqf, hnx, hO, hR, hB⟩ := hrel
    have HR := Lib.hid hR
    clear hR
    by_cases h44 : nx = 44
    · subst h44
      have HX := Lib.hid (show R = ([], 7) by rw [HR.out, walkR_frag]; rfl)
      clear HR hO hnx
      go_wp2_with fail
      try rw [Exit.noGoto_ret]
      go_ret2
      exact GivesW.err 7 HX.out hB
    · by_cases hlast : nx ≠ 0 ∧ nx ≠ 43 ∧ nx ≠ 60
      · obtain ⟨h0, h43, h60⟩ := hlast
        have HX := Lib.hid (show R = (ps ++ [⟨nx, a, (n : Int) - a⟩], 0) by rw [HR.out, walkR_last xs f nx a h44 h0 h43 h60, hb.len]; rfl)
        clear HR
        have b44 : (nx == 44) = false := by simpa using h44
        have b0 : (nx == 0) = false := by simpa using h0
        have b43 : (nx == 43) = false := by simpa using h43
        have b60 : (nx == 60) = false := by simpa using h60
        clear h44 h0 h43 h60
        have hlB := Low.alloc wr (.cells #[.int .i64 nx, .int .i64 a, .int .i64 ((n : Int) - a)] 55)
        have hB3 := hB.trans (hlB.mono hB.size)
        have hO3 := hO.below hlB
        have hs3 := Ps.one wr 55 ⟨nx, a, (n : Int) - a⟩ ⟨hnx, by unfold i64ok; dsimp only; omega, by unfold i64ok; dsimp only; omega⟩ (B := wr.heap.size + 1) (by omega)
        clear hO hB hlB hnx
        go_wp2_with (at_builtin; refine wpList_append_ps rfl (.tmp 56) (.tmp 64) _ rfl w.heap.size 55 i0 Tryz.underlying51 HI.out HZ0.out HZ1.out HZ2.out _ q c1 ps rfl hO3 _ 1 _ _ [⟨nx, a, (n : Int) - a⟩] rfl hs3 (by omega) hB3.size ?_; intro A4 c4 w4 hO4 hg4 hb4)
        try rw [Exit.noGoto_ret]
        go_ret2
        have hB4 : Below w.heap.size w w4 := hB3.grown hg4 hB3.size (fun k hk => (hO3.lt k hk).1)
        rw [HX.out]
        refine ⟨A4, c4, ?_, ?_, hB4⟩
        · simp only [hO4.len]; rfl
        · simp only [hO4.len]; exact hO4.lies (Nat.le_refl _)
      · by_cases h5 : nx = 0 ∧ q ≠ 0
        · obtain ⟨rfl, hq⟩ := h5
          have HX := Lib.hid (show R = ([], 5) by rw [HR.out, walkR_form xs f a (by omega)]; rfl)
          clear HR hO hnx hlast
          have hq0 : (0 : Int) < q := by omega
          go_wp2_with fail
          try rw [Exit.noGoto_ret]
          go_ret2
          exact GivesW.err 5 HX.out hB
        · by_cases h8 : (nx = 43 ∨ nx = 60) ∧ q = 8
          · obtain ⟨hk, rfl⟩ := h8
            obtain rfl : f = 0 := by omega
            have HX := Lib.hid (show R = ([], 8) by rw [HR.out, walkR_many xs nx a hk]; rfl)
            clear HR hO hnx hlast h5
            rcases hk with rfl | rfl
            all_goals
              go_wp2_with fail
              try rw [Exit.noGoto_ret]
              go_ret2
              exact GivesW.err 8 HX.out hB
          · have hk : (nx = 0 ∧ q = 0) ∨ (nx = 43 ∧ q < 8) ∨ (nx = 60 ∧ q < 8) := by omega
            obtain ⟨f, rfl⟩ : ∃ g, f = g + 1 := ⟨f - 1, by omega⟩
            have hk2 : (nx = 0 ∧ f = 7) ∨ nx = 43 ∨ nx = 60 := by omega
            have hbr := hb.below' hB hB.size
            clear h44 hlast h5 h8
            by_cases hs : a + 2 ≤ n ∧ a + hsz xs a ≤ n
            · have HM := Lib.hid (show R = joinPs (ps ++ [⟨nx, a, (hsz xs a : Nat)⟩]) (walkR xs f (xs.getD a 0) (a + hsz xs a)) by
                rw [HR.out, walkR_more xs f nx a hk2 (by rw [hb.len]; exact hs), joinPs_join])
              have HE := Lib.hid (extent_yes A n c a xs wr hn hs.1 hs.2 hbr)
              obtain ⟨z, hz⟩ : ∃ z, z = hsz xs a := ⟨_, rfl⟩
              have hz8 : 8 ≤ z := by rw [hz]; unfold hsz; omega
              rw [← hz] at HM HE hs
              clear HR hbr hk2 hz
              obtain ⟨b, o, rfl, hlt, hc⟩ := hb.mem (by omega)
              have cA := hc a (by omega)
              have vA := hb.nonneg a
              generalize xs.getD a 0 = x at *
              clear hc
              have hlB := Low.alloc wr (.cells #[.int .i64 nx, .int .i64 a, .int .i64 z] 55)
              have hB3 := hB.trans (hlB.mono hB.size)
              have hO3 := hO.below hlB
              have hs3 := Ps.one wr 55 ⟨nx, a, z⟩ ⟨hnx, by unfold i64ok; dsimp only; omega, by unfold i64ok; dsimp only; omega⟩ (B := wr.heap.size + 1) (by omega)
              clear hO hB hlB hnx
              have hs4 := hs.1
              have hs5 := hs.2
              clear hs
              rcases hk with ⟨rfl, rfl⟩ | ⟨rfl, hq8⟩ | ⟨rfl, hq8⟩
              all_goals
                go_wp2_with fail
                refine HE.out.mono ?_
                rintro e w1 ⟨rfl, rfl⟩
                go_wp2_with (at_builtin; refine wpList_append_ps rfl (.tmp 41) (.tmp 46) _ rfl w.heap.size 55 i0 Tryz.underlying51 HI.out HZ0.out HZ1.out HZ2.out _ _ c1 ps rfl hO3 _ 1 _ _ _ rfl hs3 (by omega) hB3.size ?_; intro A4 c4 w4 hO4 hg4 hb4; have hB4 : Below w.heap.size w w4 := hB3.grown hg4 hB3.size (fun k hk => (hO3.lt k hk).1); have cA4 := (hB4.cell (p := ⟨b, o + a, none⟩) hlt).trans cA)
                go_roundw
                case rel =>
                  first
                  | exact ⟨x, a + z, _, f, A4, c4, _, rfl, by go_num, rfl, by omega, by omega, by unfold i64ok; omega, hO4, HM.out, hB4⟩
                  | ((repeat apply Exists.intro); refine ⟨?_, rfl⟩; exact ⟨x, a + z, _, f, A4, c4, _, rfl, by go_num, rfl, by omega, by omega, by unfold i64ok; omega, hO4, HM.out, hB4⟩)
                case measure => simp [intOf]; omega
            · have HX := Lib.hid (show R = ([], 3) by rw [HR.out, walkR_short xs f nx a hk2 (by rw [hb.len]; exact hs)]; rfl)
              have HE := Lib.hid (extent_no A n c a xs wr hn ha hs hbr)
              clear HR hO hnx hk2 hbr hs
              rcases hk with ⟨rfl, rfl⟩ | ⟨rfl, hq8⟩ | ⟨rfl, hq8⟩
              all_goals
                go_wp2_with fail
                refine HE.out.mono ?_
                rintro e w1 ⟨⟨v, rfl⟩, rfl⟩
                go_wp2_with fail
                try rw [Exit.noGoto_ret]
                go_ret2
                exact GivesW.err 3 HX.out hB
end Go.Proofs.YtjafjapnmffohaaGreatDoor

namespace Go.Proofs.YtjafjapnmffohaaGreatDoor
open Go.RowKit
set_option linter.unusedVariables false

/-- the headers from a place on, or why there are none -/
def walkL (xs : List Int) (next at_ : Int) : List Pt × Int := if at_ < 0 ∨ (xs.length : Int) < at_ then ([], 2) else walkR xs 8 next at_.toNat
theorem walkL_len (xs : List Int) (next at_ : Int) : (walkL xs next at_).1.length ≤ 9 := by
  unfold walkL
  split
  · simp
  · exact walkR_len xs 8 next _
theorem walkL_err (xs : List Int) (next at_ : Int) : 0 ≤ (walkL xs next at_).2 ∧ (walkL xs next at_).2 ≤ 8 := by
  unfold walkL
  split
  · simp
  · exact walkR_err xs 8 next _

set_option maxHeartbeats 400000 in
theorem walk_any (A : Option Addr) (n c : Nat) (xs : List Int) (next at_ : Int) (w : World) (hn : n ≤ 140737488355328) (hb : Bs w w.heap.size A n xs) (hx : i64ok next) (ha : i64ok at_) :
    Calls Tryz.prog 27 #[.slice A n c, .int .i64 next, .int .i64 at_] w (GivesW w (walkL xs next at_)) := by
  by_cases h : at_ < 0 ∨ (n : Int) < at_
  · have HX := Lib.hid (show walkL xs next at_ = ([], 2) by unfold walkL; rw [hb.len, if_pos h])
    unfold i64ok at ha hx
    by_cases h0 : at_ < 0
    · clear h
      go_enter Tryz.func27, Tryz.ntmps27
      go_wp2_with fail
      go_step3
      go_wp2_with fail
      try rw [Exit.noGoto_ret]
      go_ret2
      exact GivesW.err 2 HX.out (Below.refl _ _)
    · have h1 : (n : Int) < at_ := by omega
      clear h
      go_enter Tryz.func27, Tryz.ntmps27
      go_wp2_with fail
      go_step3
      go_wp2_with fail
      try rw [Exit.noGoto_ret]
      go_ret2
      exact GivesW.err 2 HX.out (Below.refl _ _)
  · obtain ⟨a, rfl⟩ : ∃ a : Nat, at_ = a := ⟨at_.toNat, by omega⟩
    have e : walkL xs next a = walkR xs 8 next a := by unfold walkL; rw [hb.len, if_neg h]; rfl
    rw [e]
    exact walk_from A n c xs next a w hn hb hx (by omega)

theorem info_rpart : (Tryz.prog.info? 73).map (fun i => (i.zero, i.size, i.bytes)) = some (some zeroPV, 3, 24) := by kernel_rfl

section
variable (A : Option Addr) (n c : Nat) (xs : List Int)
set_option maxHeartbeats 400000 in
theorem rwalk_frag (f : Nat) (a m : Nat) (w : World) (ha : a ≤ n) : Calls Tryz.prog 16 #[.slice A n c, .int .i64 44, .int .i64 a, .int .i64 m] w (GivesW w (walkR xs f 44 a)) := by
  have HX := Lib.hid (walkR_frag xs f a)
  have hd0 : ¬ (a : Int) < 0 := by omega
  have hd1 : ¬ n < a := by omega
  go_enter Tryz.func16, Tryz.ntmps16
  go_wp2_with fail
  go_ret2
  exact GivesW.err 7 HX.out (Below.refl _ _)
set_option maxHeartbeats 400000 in
theorem rwalk_form (f : Nat) (a m : Nat) (w : World) (ha : a ≤ n) (hm : 0 < m) (hf : m + f = 8) : Calls Tryz.prog 16 #[.slice A n c, .int .i64 0, .int .i64 a, .int .i64 m] w (GivesW w (walkR xs f 0 a)) := by
  have HX := Lib.hid (walkR_form xs f a (by omega))
  have hd0 : ¬ (a : Int) < 0 := by omega
  have hd1 : ¬ n < a := by omega
  have hm1 : (0 : Int) < m := by omega
  go_enter Tryz.func16, Tryz.ntmps16
  go_wp2_with fail
  go_ret2
  exact GivesW.err 5 HX.out (Below.refl _ _)
set_option maxHeartbeats 800000 in
theorem rwalk_last (hn : n ≤ 140737488355328) (f : Nat) (next : Int) (a m : Nat) (w : World) (ha : a ≤ n) (hx : i64ok next) (hb : Bs w w.heap.size A n xs) (h1 : next ≠ 44) (h2 : next ≠ 0) (h3 : next ≠ 43) (h4 : next ≠ 60) : Calls Tryz.prog 16 #[.slice A n c, .int .i64 next, .int .i64 a, .int .i64 m] w (GivesW w (walkR xs f next a)) := by
  have HX := Lib.hid (walkR_last xs f next a h1 h2 h3 h4)
  have HL := Lib.hid hb.len
  have HXX := Lib.hid hx
  have hd0 : ¬ (a : Int) < 0 := by omega
  have hd1 : ¬ n < a := by omega
  have b44 : (next == 44) = false := by simpa using h1
  have b0 : (next == 0) = false := by simpa using h2
  have b43 : (next == 43) = false := by simpa using h3
  have b60 : (next == 60) = false := by simpa using h4
  have n0 : (next != 0) = true := by simpa using h2
  have n43 : (next != 43) = true := by simpa using h3
  have n60 : (next != 60) = true := by simpa using h4
  clear h1 h2 h3 h4 hx hb
  go_enter Tryz.func16, Tryz.ntmps16
  go_wp2_with fail
  go_ret2
  rw [HX.out, HL.out]
  exact ⟨_, _, rfl, Ps.one w _ ⟨next, a, (n : Int) - a⟩ ⟨HXX.out, by unfold i64ok; dsimp only; omega, by unfold i64ok; dsimp only; omega⟩ (by simp), Low.alloc _ _⟩
set_option maxHeartbeats 400000 in
theorem rwalk_many (next : Int) (a : Nat) (w : World) (ha : a ≤ n) (h : next = 43 ∨ next = 60) : Calls Tryz.prog 16 #[.slice A n c, .int .i64 next, .int .i64 a, .int .i64 8] w (GivesW w (walkR xs 0 next a)) := by
  have HX := Lib.hid (walkR_many xs next a h)
  have hd0 : ¬ (a : Int) < 0 := by omega
  have hd1 : ¬ n < a := by omega
  rcases h with rfl | rfl
  all_goals
    go_enter Tryz.func16, Tryz.ntmps16
    go_wp2_with fail
    go_ret2
    exact GivesW.err 8 HX.out (Below.refl _ _)
set_option maxHeartbeats 800000 in
theorem rwalk_short (hn : n ≤ 140737488355328) (f : Nat) (next : Int) (a m : Nat) (w : World) (ha : a ≤ n) (hb : Bs w w.heap.size A n xs) (hm : m + (f + 1) = 8) (h : (next = 0 ∧ f = 7) ∨ next = 43 ∨ next = 60) (hs : ¬ (a + 2 ≤ n ∧ a + hsz xs a ≤ n)) :
    Calls Tryz.prog 16 #[.slice A n c, .int .i64 next, .int .i64 a, .int .i64 m] w (GivesW w (walkR xs (f + 1) next a)) := by
  have HX := Lib.hid (walkR_short xs f next a h (by rw [hb.len]; exact hs))
  have hd0 : ¬ (a : Int) < 0 := by omega
  have hd1 : ¬ n < a := by omega
  have hm8 : m < 8 := by omega
  have hk : (next = 0 ∧ m = 0) ∨ next = 43 ∨ next = 60 := by omega
  clear h
  by_cases h2 : a + 2 ≤ n
  · obtain ⟨b, o, rfl, hlt, hc⟩ := hb.mem (by omega)
    have c1 := hc (a + 1) (by omega)
    have v1 := hb.nonneg (a + 1)
    unfold hsz at hs
    generalize xs.getD (a + 1) 0 = x at *
    obtain ⟨y, rfl⟩ : ∃ y : Nat, x = y := ⟨x.toNat, by omega⟩
    rw [Int.toNat_natCast] at hs
    have hy : y < 256 := by omega
    have h3 : ¬ ((n : Int) - 2 < a) := by omega
    have h4 : (n : Int) - a < 8 * (y : Int) + 8 := by omega
    clear hc hs hb hm
    rcases hk with ⟨rfl, rfl⟩ | rfl | rfl
    all_goals
      go_enter Tryz.func16, Tryz.ntmps16
      go_wp2_with fail
      go_ret2
      exact GivesW.err 3 HX.out (Below.refl _ _)
  · have h3 : (n : Int) - 2 < a := by omega
    clear hs hb hm
    rcases hk with ⟨rfl, rfl⟩ | rfl | rfl
    all_goals
      go_enter Tryz.func16, Tryz.ntmps16
      go_wp2_with fail
      go_ret2
      exact GivesW.err 3 HX.out (Below.refl _ _)

set_option maxHeartbeats 1600000 in
theorem rwalk_in (hn : n ≤ 140737488355328) : ∀ (f : Nat) (next : Int) (a m : Nat) (ai mi : Int) (w : World), ai = a → mi = m → m + f = 8 → a ≤ n → i64ok next → Bs w w.heap.size A n xs →
    Calls Tryz.prog 16 #[.slice A n c, .int .i64 next, .int .i64 ai, .int .i64 mi] w (GivesW w (walkR xs f next a)) := by
  intro f
  induction f with
  | zero =>
    rintro next a m ai mi w rfl rfl hm ha hx hb
    by_cases h1 : next = 44
    · subst h1; exact rwalk_frag A n c xs 0 a m w ha
    · by_cases h2 : next = 0
      · subst h2; exact rwalk_form A n c xs 0 a m w ha (by omega) hm
      · by_cases h3 : next = 43 ∨ next = 60
        · obtain rfl : m = 8 := by omega
          exact rwalk_many A n c xs next a w ha h3
        · exact rwalk_last A n c xs hn 0 next a m w ha hx hb h1 h2 (by omega) (by omega)
  | succ f ih =>
    rintro next a m ai mi w rfl rfl hm ha hx hb
    by_cases h1 : next = 44
    · subst h1; exact rwalk_frag A n c xs (f + 1) a m w ha
    · by_cases h2 : next = 0 ∧ 0 < m
      · obtain ⟨rfl, h2⟩ := h2; exact rwalk_form A n c xs (f + 1) a m w ha h2 hm
      · by_cases h3 : next ≠ 0 ∧ next ≠ 43 ∧ next ≠ 60
        · exact rwalk_last A n c xs hn (f + 1) next a m w ha hx hb h1 h3.1 h3.2.1 h3.2.2
        · have hk : (next = 0 ∧ m = 0) ∨ next = 43 ∨ next = 60 := by omega
          have hk2 : (next = 0 ∧ f = 7) ∨ next = 43 ∨ next = 60 := by omega
          by_cases hs : a + 2 ≤ n ∧ a + hsz xs a ≤ n
          · have HM := Lib.hid (walkR_more xs f next a hk2 (by rw [hb.len]; exact hs))
            have HXX := Lib.hid hx
            have HBB := Lib.hid hb
            have HL := Lib.hid (walkR_len xs f (xs.getD a 0) (a + hsz xs a))
            obtain ⟨b, o, rfl, hlt, hc⟩ := hb.mem (by omega)
            have c0 := hc a (by omega)
            have v0 := hb.nonneg a
            have c1 := hc (a + 1) (by omega)
            have v1 := hb.nonneg (a + 1)
            obtain ⟨z, hz⟩ : ∃ z, z = hsz xs a := ⟨_, rfl⟩
            rw [← hz] at HM HL hs
            unfold hsz at hz
            generalize xs.getD a 0 = x0 at *
            generalize xs.getD (a + 1) 0 = x at *
            obtain ⟨y, rfl⟩ : ∃ y : Nat, x = y := ⟨x.toNat, by omega⟩
            rw [Int.toNat_natCast] at hz
            have HZ := Lib.hid hz
            have hy : y < 256 := by omega
            have h4 : ¬ ((n : Int) - 2 < a) := by omega
            have h5 : ¬ ((n : Int) - a < 8 * (y : Int) + 8) := by omega
            have hd0 : ¬ (a : Int) < 0 := by omega
            have hd1 : ¬ n < a := by omega
            have hm8 : m < 8 := by omega
            have hzn := hs.2
            clear hc hz hb hx h1 h2 h3 hk2 hs
            have HIH : Hid (∀ w1, Bs w1 w1.heap.size (some ⟨b, o, none⟩) n xs → Calls Tryz.prog 16 #[.slice (some ⟨b, o, none⟩) n c, .int .i64 x0, .int .i64 ((a : Int) + (8 * (y : Int) + 8)), .int .i64 ((m : Int) + 1)] w1 (GivesW w1 (walkR xs f x0 (a + z)))) :=
              Lib.hid fun w1 hb1 => ih x0 (a + z) (m + 1) _ _ w1 (by have := HZ.out; omega) (by omega) (by omega) (by omega) (by unfold i64ok; omega) hb1
            clear ih
            obtain ⟨i0, hi, hz0, hz1, hz2⟩ := info_parts info_rpart
            have HI := Lib.hid hi
            have HZ0 := Lib.hid hz0
            have HZ1 := Lib.hid hz1
            have HZ2 := Lib.hid hz2
            clear hi hz0 hz1 hz2
            generalize walkR xs f x0 (a + z) = r at *
            obtain ⟨rs, er⟩ := r
            by_cases he : er = 0
            · subst he
              have HJ : Hid (walkR xs (f + 1) next a = (⟨next, a, 8 * (y : Int) + 8⟩ :: rs, 0)) := Lib.hid (by rw [HM.out, show (8 * (y : Int) + 8) = (z : Nat) by have := HZ.out; omega]; rfl)
              have HO : Hid (∀ w1 : World, w.heap.size ≤ w1.heap.size → OwnP 73 (w1.alloc (.cells #[.int .i64 next, .int .i64 a, .int .i64 (8 * (y : Int) + 8)] 73)) w.heap.size (some ⟨w1.heap.size, 0, none⟩) 1 1 [⟨next, a, 8 * (y : Int) + 8⟩] ∧ Low w1 (w1.alloc (.cells #[.int .i64 next, .int .i64 a, .int .i64 (8 * (y : Int) + 8)] 73))) :=
                Lib.hid fun w1 h => ⟨OwnP.one w1 _ ⟨next, a, 8 * (y : Int) + 8⟩ ⟨HXX.out, by unfold i64ok; dsimp only; omega, by unfold i64ok; dsimp only; omega⟩ h, Low.alloc _ _⟩
              obtain ⟨q, hq⟩ : ∃ q, q = rs.length := ⟨_, rfl⟩
              have hq9 : q ≤ 9 := by have := HL.out; dsimp only at this; omega
              have HQ := Lib.hid hq
              clear hq HL HM HXX
              rcases hk with ⟨rfl, rfl⟩ | rfl | rfl
              all_goals
                go_enter Tryz.func16, Tryz.ntmps16
                go_wp2_with fail
                refine (HIH.out w HBB.out).mono ?_
                rintro e w1 ⟨A1, cc, rfl, hp, hB⟩
                dsimp only at hp ⊢
                rw [← HQ.out] at hp ⊢
                obtain ⟨hO1, hl1⟩ := HO.out w1 hB.size
                clear HIH HBB c0 c1 HO
                have hp3 := hp.below' hl1 hl1.size
                have hB3 := hB.trans (hl1.mono hB.size)
                clear hp hB hl1
                go_wp2_with (at_builtin; refine wpList_append_ps rfl (.tmp 99) (.tmp 100) _ rfl w.heap.size 73 i0 Tryz.underlying69 HI.out HZ0.out HZ1.out HZ2.out _ 1 1 _ rfl hO1 A1 q cc _ rs rfl hp3 (by omega) hB3.size ?_; intro A4 c4 w4 hO4 hg4 hb4)
                go_ret2
                have hB4 : Below w.heap.size w w4 := hB3.grown hg4 hB3.size (fun k hk => (hO1.lt k hk).1)
                rw [HJ.out]
                have hlen := hO4.len
                refine ⟨A4, c4, ?_, ?_, hB4⟩
                · dsimp only
                  rw [show ((⟨_, a, 8 * (y : Int) + 8⟩ : Pt) :: rs).length = 1 + q from hlen]
                  rfl
                · dsimp only
                  rw [show ((⟨_, a, 8 * (y : Int) + 8⟩ : Pt) :: rs).length = 1 + q from hlen]
                  exact hO4.lies (Nat.le_refl _)
            · have HJ : Hid (walkR xs (f + 1) next a = ([], er)) := Lib.hid (by rw [HM.out]; unfold joinPs; rw [if_neg he])
              have hnb : (er != 0) = true := by simpa using he
              clear HM he
              rcases hk with ⟨rfl, rfl⟩ | rfl | rfl
              all_goals
                go_enter Tryz.func16, Tryz.ntmps16
                go_wp2_with fail
                refine (HIH.out w HBB.out).mono ?_
                rintro e w1 ⟨A1, cc, rfl, hp, hB⟩
                dsimp only at hp ⊢
                clear HIH HBB c0 c1
                go_wp2_with fail
                go_ret2
                exact GivesW.err er HJ.out hB
          · exact rwalk_short A n c xs hn f next a m w ha hb hm hk2 hs
end
end Go.Proofs.YtjafjapnmffohaaGreatDoor

namespace Go.Proofs.YtjafjapnmffohaaGreatDoor
open Go.RowKit
set_option linter.unusedVariables false

set_option maxHeartbeats 400000 in
theorem rwalk_any (A : Option Addr) (n c : Nat) (xs : List Int) (next at_ : Int) (w : World) (hn : n ≤ 140737488355328) (hb : Bs w w.heap.size A n xs) (hx : i64ok next) (ha : i64ok at_) :
    Calls Tryz.prog 16 #[.slice A n c, .int .i64 next, .int .i64 at_, .int .i64 0] w (GivesW w (walkL xs next at_)) := by
  by_cases h : at_ < 0 ∨ (n : Int) < at_
  · have HX := Lib.hid (show walkL xs next at_ = ([], 2) by unfold walkL; rw [hb.len, if_pos h])
    unfold i64ok at ha hx
    by_cases h0 : at_ < 0
    · clear h
      go_enter Tryz.func16, Tryz.ntmps16
      go_wp2_with fail
      go_ret2
      exact GivesW.err 2 HX.out (Below.refl _ _)
    · have h1 : (n : Int) < at_ := by omega
      clear h
      go_enter Tryz.func16, Tryz.ntmps16
      go_wp2_with fail
      go_ret2
      exact GivesW.err 2 HX.out (Below.refl _ _)
  · obtain ⟨a, rfl⟩ : ∃ a : Nat, at_ = a := ⟨at_.toNat, by omega⟩
    have e : walkL xs next a = walkR xs 8 next a := by unfold walkL; rw [hb.len, if_neg h]; rfl
    rw [e]
    exact rwalk_in A n c xs hn 8 next a 0 a 0 w rfl rfl rfl (by omega) hx hb

/-- v is the first place, from lo on, of a header of kind k; below 0: there is none -/
def IsFirst (ps : List Pt) (k : Int) (lo : Nat) (v : Int) : Prop :=
  (v = -1 ∧ ∀ j, lo ≤ j → j < ps.length → (ps.getD j zeroP).k ≠ k) ∨ (∃ i : Nat, v = i ∧ lo ≤ i ∧ i < ps.length ∧ (ps.getD i zeroP).k = k ∧ ∀ j, lo ≤ j → j < i → (ps.getD j zeroP).k ≠ k)
theorem IsFirst.one {ps : List Pt} {k : Int} {lo : Nat} {v u : Int} (h : IsFirst ps k lo v) (h' : IsFirst ps k lo u) : v = u := by
  rcases h with ⟨rfl, h⟩ | ⟨i, rfl, hi, hl, hk, h⟩
  · rcases h' with ⟨rfl, _⟩ | ⟨j, rfl, hj, hjl, hjk, _⟩
    · rfl
    · exact absurd hjk (h j hj hjl)
  · rcases h' with ⟨rfl, h'⟩ | ⟨j, rfl, hj, hjl, hjk, h'⟩
    · exact absurd hk (h' i hi hl)
    · rcases Nat.lt_trichotomy i j with h1 | h1 | h1
      · exact absurd hk (h' i hi h1)
      · rw [h1]
      · exact absurd hjk (h j hj h1)
theorem IsFirst.range {ps : List Pt} {k : Int} {lo : Nat} {v : Int} (h : IsFirst ps k lo v) : -1 ≤ v ∧ v < ps.length ∨ v = -1 := by
  rcases h with ⟨rfl, h⟩ | ⟨i, rfl, hi, hl, hk, h⟩
  · exact .inr rfl
  · exact .inl (by omega)
theorem IsFirst.end_ (ps : List Pt) (k : Int) (lo : Nat) (h : ps.length ≤ lo) : IsFirst ps k lo (-1) := .inl ⟨rfl, fun j h1 h2 => by omega⟩
theorem IsFirst.here {ps : List Pt} {k : Int} {i : Nat} (hi : i < ps.length) (hk : (ps.getD i zeroP).k = k) : IsFirst ps k i i := .inr ⟨i, rfl, Nat.le_refl _, hi, hk, fun j h1 h2 => by omega⟩
theorem IsFirst.back {ps : List Pt} {k : Int} {lo : Nat} {v : Int} (h : IsFirst ps k (lo + 1) v) (hk : (ps.getD lo zeroP).k ≠ k) : IsFirst ps k lo v := by
  have e : ∀ j, lo ≤ j → j = lo ∨ lo + 1 ≤ j := fun j h => by omega
  rcases h with ⟨rfl, h⟩ | ⟨i, rfl, hi, hl, hki, h⟩
  · refine .inl ⟨rfl, fun j h1 h2 => ?_⟩
    rcases e j h1 with rfl | h3
    · exact hk
    · exact h j h3 h2
  · refine .inr ⟨i, rfl, by omega, hl, hki, fun j h1 h2 => ?_⟩
    rcases e j h1 with rfl | h3
    · exact hk
    · exact h j h3 h2
theorem IsFirst.from0 {ps : List Pt} {k : Int} {lo : Nat} {v : Int} (h : IsFirst ps k lo v) (hk : ∀ j, j < lo → (ps.getD j zeroP).k ≠ k) : IsFirst ps k 0 v := by
  rcases h with ⟨rfl, h⟩ | ⟨i, rfl, hi, hl, hki, h⟩
  · exact .inl ⟨rfl, fun j _ h2 => by rcases Nat.lt_or_ge j lo with h3 | h3; exact hk j h3; exact h j h3 h2⟩
  · exact .inr ⟨i, rfl, Nat.zero_le _, hl, hki, fun j _ h2 => by rcases Nat.lt_or_ge j lo with h3 | h3; exact hk j h3; exact h j h3 h2⟩

set_option maxHeartbeats 400000 in
theorem find1_any (p : Pt) (g : Nat) (k : Int) (w : World) (hg : w.cell? ⟨g, 0, none⟩ = some (.int .i64 k)) :
    Calls Tryz.prog 49 #[.agg #[.int .i64 p.k, .int .i64 p.a, .int .i64 p.l], .pointer (some ⟨g, 0, none⟩)] w fun e w' => e = .returned (.bool (p.k == k)) ∧ Below w.heap.size w w' := by
  have hlt : g < w.heap.size := World.block_lt_of_cell? _ _ hg
  have hl := Low.alloc w (.cells #[.int .i64 p.k, .int .i64 p.a, .int .i64 p.l] 55)
  have hg2 := (Below.cell hl (p := ⟨g, 0, none⟩) hlt).trans hg
  go_enter Tryz.func49, Tryz.ntmps49
  go_wp2_with fail
  go_ret
  exact ⟨rfl, hl⟩

set_option maxHeartbeats 800000 in
theorem idxf_any (A : Option Addr) (n c : Nat) (ps : List Pt) (g : Nat) (k : Int) (w : World) (hn : n ≤ 140737488355328) (hp : Ps w w.heap.size A n ps) (hg : w.cell? ⟨g, 0, none⟩ = some (.int .i64 k)) :
    Calls Tryz.prog 48 #[.slice A n c, .func (.func 49) #[] #[.pointer (some ⟨g, 0, none⟩)]] w fun e w' => (∃ v, e = .returned (.int .i64 v) ∧ IsFirst ps k 0 v) ∧ Below w.heap.size w w' := by
  have hlt : g < w.heap.size := World.block_lt_of_cell? _ _ hg
  go_enter Tryz.func48, Tryz.ntmps48
  go_wp2_with fail
  go_loopw [8] (fun i wr => ∃ m : Nat, m ≤ n ∧ i = .int .i64 m ∧ Below w.heap.size w wr ∧ Hid (∀ j, j < m → (ps.getD j zeroP).k ≠ k)) (fun i _ => n - (intOf i).toNat)
  case atStart => exact ⟨0, Nat.zero_le _, rfl, Below.refl _ _, Lib.hid fun j h => by omega⟩
  case round =>
    obtain ⟨m, hm, rfl, hB, HE⟩ := hrel
    by_cases hmn : m < n
    · obtain ⟨b, o, rfl, hbl, hc⟩ := hp.mem (by omega)
      obtain ⟨q1, q2, q3⟩ := hc m hmn
      have c1 := (hB.cell (p := ⟨b, o + m * 3, none⟩) hbl).trans q1
      have c2 := (hB.cell (p := ⟨b, o + m * 3 + 1, none⟩) hbl).trans q2
      have c3 := (hB.cell (p := ⟨b, o + m * 3 + 2, none⟩) hbl).trans q3
      have hgr := (hB.cell (p := ⟨g, 0, none⟩) hlt).trans hg
      have HL := Lib.hid hp.len
      clear q1 q2 q3 hc hp hg
      have HP : Hid (ps.getD m zeroP = ps.getD m zeroP) := Lib.hid rfl
      obtain ⟨p, hpp⟩ : ∃ p, p = ps.getD m zeroP := ⟨_, rfl⟩
      rw [← hpp] at c1 c2 c3
      have HPP := Lib.hid hpp
      clear HP hpp
      have HF := Lib.hid (find1_any p g k wr hgr)
      clear hgr
      go_wp2_with fail
      refine HF.out.mono ?_
      rintro e w1 ⟨rfl, hl⟩
      replace hB := hB.trans (hl.mono hB.size)
      clear hl HF c1 c2 c3
      by_cases hk : p.k = k
      · have hkb : (p.k == k) = true := by simpa using hk
        have HX := Lib.hid (IsFirst.from0 (IsFirst.here (k := k) (by rw [HL.out]; exact hmn) (by rw [← HPP.out]; exact hk)) HE.out)
        clear hk
        go_wp2_with fail
        go_ret
        exact ⟨⟨_, rfl, HX.out⟩, hB⟩
      · have hkb : (p.k == k) = false := by simpa using hk
        have HX := Lib.hid (show ∀ j, j < m + 1 → (ps.getD j zeroP).k ≠ k from fun j hj => by
          rcases Nat.lt_or_ge j m with h3 | h3
          · exact HE.out j h3
          · obtain rfl : j = m := by omega
            rw [← HPP.out]; exact hk)
        clear hk
        go_wp2_with fail
        go_roundw
        case rel => exact ⟨m + 1, by omega, by go_num, hB, HX⟩
        case measure => simp [intOf]; omega
    · obtain rfl : m = n := by omega
      have HL := Lib.hid hp.len
      go_wp2_with fail
      go_ret
      exact ⟨⟨_, rfl, IsFirst.from0 (IsFirst.end_ ps k m (by rw [HL.out]; exact Nat.le_refl _)) HE.out⟩, hB⟩

set_option maxHeartbeats 400000 in
theorem find_any (A : Option Addr) (n c : Nat) (ps : List Pt) (k : Int) (w : World) (hn : n ≤ 140737488355328) (hp : Ps w w.heap.size A n ps) :
    Calls Tryz.prog 28 #[.slice A n c, .int .i64 k] w fun e w' => (∃ v, e = .returned (.int .i64 v) ∧ IsFirst ps k 0 v) ∧ Below w.heap.size w w' := by
  have hl := Low.alloc w (.cells #[.int .i64 k] 3)
  have hp2 := hp.below' hl hl.size
  have hg : (w.alloc (.cells #[.int .i64 k] 3)).cell? ⟨w.heap.size, 0, none⟩ = some (.int .i64 k) := by simp
  go_enter Tryz.func28, Tryz.ntmps28
  go_wp2_with fail
  refine (idxf_any A n c ps w.heap.size k _ hn hp2 hg).mono ?_
  rintro e w1 ⟨⟨v, rfl, hv⟩, hl1⟩
  replace hl := Low.trans hl hl1
  clear hl1 hg hp2
  go_wp2_with fail
  go_ret
  exact ⟨⟨_, rfl, hv⟩, hl⟩

/-- such a part by value -/
def ptV (p : Pt) : Value := .agg #[.int .i64 p.k, .int .i64 p.a, .int .i64 p.l]
/-- a part and a bool handed back -/
def GivesU (w : World) (p : Pt) (t : Bool) (e : Ending) (w' : World) : Prop := e = .returned (.tuple #[ptV p, .bool t]) ∧ Below w.heap.size w w'
theorem part_size : (Tryz.prog.info? 55).map (·.size) = some 3 := by kernel_rfl
theorem ret_part {w' : World} {fn : Func} {p q : Tmp} {tmps : Array Value} {df : List Deferred} {g : Nat} {h : Pt} {t : Bool} {R : Ending → World → Prop} (hr : fn.results = #[.cell p 55, .tmp q]) (hp : tmps.getD p undef = .pointer (some ⟨g, 0, none⟩)) (hq : tmps.getD q undef = .bool t)
    (hb : BlkV w' 55 g (ptC h)) (hR : R (.returned (.tuple #[ptV h, .bool t])) w') (hdf : df = []) : bodyPost Tryz.prog fn R .ret ⟨tmps, df⟩ w' := by
  subst hdf
  exact bodyPost_ret (v := .tuple #[ptV h, .bool t]) (results_cell_tmp hr _ _ g _ _ _ _ _ hp hq hb Tryz.underlying55 rfl (by rw [part_size]; rfl)) rfl hR

set_option maxHeartbeats 800000 in
theorem upper_none (A : Option Addr) (c : Nat) (w : World) :
    Calls Tryz.prog 11 #[.slice A 0 c] w (GivesU w zeroP false) := by
  go_enter Tryz.func11, Tryz.ntmps11
  go_wp2_with fail
  exact ret_part Tryz.results11 rfl rfl (BlkV.new w _ (ptC zeroP)) ⟨rfl, Low.alloc _ _⟩ rfl
set_option maxHeartbeats 800000 in
theorem upper_some (A : Option Addr) (n c : Nat) (ps : List Pt) (w : World) (hn : n ≤ 140737488355328) (h0 : 0 < n) (hp : Ps w w.heap.size A n ps) :
    Calls Tryz.prog 11 #[.slice A n c] w (GivesU w (ps.getD (n - 1) zeroP) true) := by
  obtain ⟨m, rfl⟩ : ∃ m, n = m + 1 := ⟨n - 1, by omega⟩
  obtain ⟨b, o, rfl, hbl, hc⟩ := hp.mem h0
  obtain ⟨q1, q2, q3⟩ := hc m (by omega)
  rw [Nat.add_sub_cancel]
  generalize ps.getD m zeroP = p at *
  clear hc hp
  have hl := Low.alloc w (.cells #[.int .i64 0, .int .i64 0, .int .i64 0] 55)
  have c1 := (Below.cell hl (p := ⟨b, o + m * 3, none⟩) hbl).trans q1
  have c2 := (Below.cell hl (p := ⟨b, o + m * 3 + 1, none⟩) hbl).trans q2
  have c3 := (Below.cell hl (p := ⟨b, o + m * 3 + 2, none⟩) hbl).trans q3
  clear q1 q2 q3 hl
  go_enter Tryz.func11, Tryz.ntmps11
  go_wp2_with fail
  exact ret_part Tryz.results11 rfl rfl (BlkV.new w _ (ptC p)) ⟨rfl, Low.alloc _ _⟩ rfl
end Go.Proofs.YtjafjapnmffohaaGreatDoor

namespace Go.Proofs.YtjafjapnmffohaaGreatDoor
open Go.RowKit
set_option linter.unusedVariables false

/-- parts are compared -/
def eqP (a b : Pt) : Bool := a.k == b.k && a.a == b.a && a.l == b.l
theorem eqP_refl (a : Pt) : eqP a a = true := by simp [eqP]
theorem eq_part (a b : Pt) (w : World) : (Op.equalIn 10000 55 (.agg #[.int .i64 a.k, .int .i64 a.a, .int .i64 a.l]) (.agg #[.int .i64 b.k, .int .i64 b.a, .int .i64 b.l])).run Tryz.prog w = .ok (eqP a b) w := by
  obtain ⟨a1, a2, a3⟩ := a
  obtain ⟨b1, b2, b3⟩ := b
  rw [run_equalIn_struct w 9999 55 _ _ (by simp only [Program.fieldsOf, Tryz.underlying55]) (by kernel_rfl)]
  simp only [Program.fieldsOf, Tryz.underlying55]
  have hp : ∀ (k : Nat) (cs : Array Value) (v : Value), cs[k]? = some v → (part 3 cs k).run Tryz.prog w = .ok v w := fun k cs v h => by simp [part, isAgg, run_underlying Tryz.underlying3, h]
  have he : ∀ x y : Int, (Op.equalIn 9999 3 (.int .i64 x) (.int .i64 y)).run Tryz.prog w = .ok (x == y) w := fun x y => run_equalIn_int w 9998 _ _ _ x y Tryz.underlying3
  rw [eqFields_step (by simp) (hp 0 _ (.int .i64 a1) rfl) (hp 0 _ (.int .i64 b1) rfl) (he a1 b1),
    eqFields_step (by simp) (hp 1 _ (.int .i64 a2) rfl) (hp 1 _ (.int .i64 b2) rfl) (he a2 b2),
    eqFields_step (by simp) (hp 2 _ (.int .i64 a3) rfl) (hp 2 _ (.int .i64 b3) rfl) (he a3 b3)]
  simp only [Op.eqFields, Sem.run_pure, eqP]
  generalize (a1 == b1) = x1
  generalize (a2 == b2) = x2
  generalize (a3 == b3) = x3
  cases x1 <;> cases x2 <;> cases x3 <;> rfl

def exB : List Int := [6, 0, 0, 0, 0, 0, 0, 0, 1, 2, 3]
theorem exB_walk : walkL exB 43 0 = ([⟨43, 0, 8⟩, ⟨6, 8, 3⟩], 0) := by rfl
theorem exB_all : AllB exB := fun x hx => by
  simp [exB] at hx
  omega

end Go.Proofs.YtjafjapnmffohaaGreatDoor
