/- Plain words for slices of options (an int and a slice of bytes) in memory: what such a slice reads as, how that is kept while memory grows; append onto a row of the call's own. No condition. -/
import Derived.Test.YtnfiijbnfmcpjaaOctA
import Derived.Test.YtnfiijbnfmcpjaaApp
import Derived.Test.YtnfiijbnfmcpjaaReg
namespace Go.Proofs.Ytnfiijbnfmcpjaa
open Go.RowKit
set_option linter.unusedVariables false

/-- an option as it lies: its kind; where its data is, how long, with how much room; the data -/
structure Od where
  k : Int
  A : Option Addr
  n : Nat
  c : Nat
  d : List Int
/-- what an option says -/
abbrev Ob := Int × List Int
def Od.v (o : Od) : Ob := (o.k, o.d)
def zeroO : Od := ⟨0, none, 0, 0, []⟩
def zeroB : Ob := (0, [])
/-- its data lies below block B -/
def Od.ok (w : World) (B : Nat) (o : Od) : Prop := i64ok o.k ∧ o.n ≤ 140737488355328 ∧ Bs w B o.A o.n o.d
theorem zeroO_ok (w : World) (B : Nat) : zeroO.ok w B := ⟨by simp [zeroO, i64ok], by simp [zeroO], Bs.nil w B none⟩
theorem Od.ok.keep {w w' : World} {B : Nat} {o : Od} (h : o.ok w B) (hk : ∀ p : Addr, p.block < B → w'.cell? p = w.cell? p) : o.ok w' B := ⟨h.1, h.2.1, h.2.2.keep hk⟩
theorem Od.ok.more {w : World} {B B' : Nat} {o : Od} (h : o.ok w B) (hB : B ≤ B') : o.ok w B' := ⟨h.1, h.2.1, h.2.2.more hB⟩

/-- the cells of a list of such -/
def odC (o : Od) : List Value := [.int .i64 o.k, .slice o.A o.n o.c]
def cellsO (os : List Od) : List Value := os.flatMap odC
theorem cellsO_nil : cellsO [] = [] := rfl
theorem cellsO_cons (o : Od) (os : List Od) : cellsO (o :: os) = .int .i64 o.k :: .slice o.A o.n o.c :: cellsO os := rfl
theorem cellsO_append (xs ys : List Od) : cellsO (xs ++ ys) = cellsO xs ++ cellsO ys := by simp [cellsO]
theorem cellsO_length : ∀ os : List Od, (cellsO os).length = os.length * 2
  | [] => rfl
  | o :: os => by rw [cellsO_cons]; simp only [List.length_cons, cellsO_length os]; omega
theorem cellsO_one : ∀ (os : List Od), ∀ u ∈ cellsO os, u.oneCell' = true
  | [], u, h => by cases h
  | o :: os, u, h => by
    rw [cellsO_cons] at h
    simp only [List.mem_cons] at h
    rcases h with rfl | rfl | h
    · rfl
    · rfl
    · exact cellsO_one os u h
theorem cellsO_get : ∀ (os : List Od) (i : Nat), i < os.length → (cellsO os)[i * 2]? = some (.int .i64 (os.getD i zeroO).k) ∧ (cellsO os)[i * 2 + 1]? = some (.slice (os.getD i zeroO).A (os.getD i zeroO).n (os.getD i zeroO).c)
  | [], i, h => by simp at h
  | o :: os, 0, _ => ⟨rfl, rfl⟩
  | o :: os, i + 1, h => by
    have ih := cellsO_get os i (by simpa using h)
    rw [cellsO_cons, show (i + 1) * 2 = i * 2 + 1 + 1 by omega]
    simp only [List.getElem?_cons_succ, List.getD_cons_succ]
    exact ih

/-- the slice at A, n long, holds os, below block B -/
structure Os (w : World) (B : Nat) (A : Option Addr) (n : Nat) (os : List Od) : Prop where
  len : os.length = n
  all : ∀ o ∈ os, o.ok w B
  mem : 0 < n → ∃ b o, A = some ⟨b, o, none⟩ ∧ b < B ∧ ∀ i, i < n → w.cell? ⟨b, o + i * 2, none⟩ = some (.int .i64 (os.getD i zeroO).k) ∧ w.cell? ⟨b, o + i * 2 + 1, none⟩ = some (.slice (os.getD i zeroO).A (os.getD i zeroO).n (os.getD i zeroO).c)

theorem getD_mem {os : List Od} {i : Nat} (h : i < os.length) : os.getD i zeroO ∈ os := by
  have e : os.getD i zeroO = os[i] := by simp [List.getD, h]
  rw [e]; exact List.getElem_mem h

section
variable {w w' : World} {B B' n : Nat} {A : Option Addr} {os : List Od}
theorem Os.nil (w : World) (B : Nat) (A : Option Addr) : Os w B A 0 [] := ⟨rfl, fun _ h => (by cases h), fun h => absurd h (by omega)⟩
theorem Os.keep (h : Os w B A n os) (hk : ∀ p : Addr, p.block < B → w'.cell? p = w.cell? p) : Os w' B A n os :=
  ⟨h.len, fun o ho => (h.all o ho).keep hk, fun hn => by
    obtain ⟨b, o, e, hb, hc⟩ := h.mem hn
    exact ⟨b, o, e, hb, fun i hi => ⟨(hk _ hb).trans (hc i hi).1, (hk _ hb).trans (hc i hi).2⟩⟩⟩
theorem Os.more (h : Os w B A n os) (hB : B ≤ B') : Os w B' A n os :=
  ⟨h.len, fun o ho => (h.all o ho).more hB, fun hn => by
    obtain ⟨b, o, e, hb, hc⟩ := h.mem hn
    exact ⟨b, o, e, by omega, hc⟩⟩
theorem Os.below (h : Os w B A n os) (hb : Below B w w') : Os w' B A n os := h.keep fun _ hp => hb.cell hp
theorem Os.below' (h : Os w B A n os) (hb : Below B w w') (hB : B ≤ B') : Os w' B' A n os := (h.below hb).more hB
theorem Os.at_ (h : Os w B A n os) {i : Nat} (hi : i < n) : (os.getD i zeroO).ok w B := h.all _ (getD_mem (by rw [h.len]; exact hi))
theorem Os.src (h : Os w B A n os) (hp : 0 < (cellsO os).length) : ∃ ad, A = some ad ∧ ∀ j v, (cellsO os)[j]? = some v → w.cell? (ad.add j) = some v := by
  rw [cellsO_length, h.len] at hp
  obtain ⟨b, o, rfl, _, hc⟩ := h.mem (by omega)
  refine ⟨_, rfl, fun j v hv => ?_⟩
  have hl := h.len
  have hj : j < os.length * 2 := by have := (List.getElem?_eq_some_iff.1 hv).1; rwa [cellsO_length] at this
  have hq : j / 2 < os.length := by omega
  have hg := cellsO_get os (j / 2) hq
  have hk := hc (j / 2) (by omega)
  rw [Addr.add_lit]
  have h3 : j = j / 2 * 2 ∨ j = j / 2 * 2 + 1 := by omega
  rcases h3 with e | e
  · rw [← e] at hg hk
    rw [hg.1] at hv
    rw [hk.1]; exact hv
  · have e2 : o + j = o + j / 2 * 2 + 1 := by omega
    rw [e2, hk.2]
    rw [e, hg.2] at hv
    exact hv
theorem Os.of_cells (hl : os.length = n) (ha : ∀ o ∈ os, o.ok w B) {b o : Nat} (hb : b < B) (hc : ∀ j v, (cellsO os)[j]? = some v → w.cell? ⟨b, o + j, none⟩ = some v) : Os w B (some ⟨b, o, none⟩) n os :=
  ⟨hl, ha, fun _ => ⟨b, o, rfl, hb, fun i hi => by
    have hg := cellsO_get os i (by omega)
    have h1 := hc _ _ hg.1
    have h2 := hc _ _ hg.2
    rw [← Nat.add_assoc] at h2
    exact ⟨h1, h2⟩⟩⟩
theorem Os.one (w : World) (t : TypeId) (o : Od) {B : Nat} (ho : o.ok w w.heap.size) (hB : w.heap.size < B) : Os (w.alloc (.cells #[.int .i64 o.k, .slice o.A o.n o.c] t)) B (some ⟨w.heap.size, 0, none⟩) 1 [o] :=
  Os.of_cells (os := [o]) rfl (fun p hp => by
    obtain rfl : p = o := by simpa using hp
    exact (ho.keep fun q hq => World.cell?_alloc_lt w _ q hq).more (by omega)) hB fun j v hv => by
    have hj : j < 2 := by have := (List.getElem?_eq_some_iff.1 hv).1; rwa [cellsO_length] at this
    rw [Nat.zero_add, cell_of_row _ w.heap.size j _ t (0, 0) (heap_alloc_new w _)]
    have e : (#[.int .i64 o.k, .slice o.A o.n o.c] : Array Value)[j]? = (cellsO [o])[j]? := by
      rw [cellsO_cons, cellsO_nil, ← List.getElem?_toArray]
    rw [e]; exact hv
end

/-- the slice (A, n, c) is a row of the call's own, from block 'base' on, and its cells are those of os -/
def OwnO (t : TypeId) (w : World) (base : Nat) (A : Option Addr) (n c : Nat) (os : List Od) : Prop := w.ownsRow base t 2 (.slice A n c) n (cellsO os)
/-- the data of an option lies in another block than X -/
def Od.off (w : World) (X : Option Nat) (o : Od) : Prop := i64ok o.k ∧ o.n ≤ 140737488355328 ∧ o.d.length = o.n ∧ AllB o.d ∧ (0 < o.n → ∃ b p, o.A = some ⟨b, p, none⟩ ∧ b < w.heap.size ∧ some b ≠ X ∧ ∀ i, i < o.n → w.cell? ⟨b, p + i, none⟩ = some (.int .u8 (o.d.getD i 0)))
theorem Od.off.ok {w : World} {X : Option Nat} {o : Od} (h : o.off w X) : o.ok w w.heap.size := ⟨h.1, h.2.1, h.2.2.1, h.2.2.2.1, fun hn => by
  obtain ⟨b, p, e, hb, _, hc⟩ := h.2.2.2.2 hn
  exact ⟨b, p, e, hb, hc⟩⟩
theorem Od.off.grown {w w' : World} {X X' : Option Nat} {o : Od} (h : o.off w X) (hg : w.grownBy w' X) (hX : X' = X ∨ X' = some w.heap.size) : o.off w' X' := ⟨h.1, h.2.1, h.2.2.1, h.2.2.2.1, fun hn => by
  obtain ⟨b, p, e, hb, hx, hc⟩ := h.2.2.2.2 hn
  refine ⟨b, p, e, Nat.lt_of_lt_of_le hb hg.size, ?_, fun i hi => (World.cell?_of_block (hg.block b hb hx)).trans (hc i hi)⟩
  rcases hX with rfl | rfl
  · exact hx
  · intro e; injection e with e; omega⟩
theorem Od.off.below {w w' : World} {X : Option Nat} {o : Od} (h : o.off w X) (hb : Below w.heap.size w w') : o.off w' X := ⟨h.1, h.2.1, h.2.2.1, h.2.2.2.1, fun hn => by
  obtain ⟨b, p, e, hlt, hx, hc⟩ := h.2.2.2.2 hn
  exact ⟨b, p, e, Nat.lt_of_lt_of_le hlt hb.size, hx, fun i hi => (hb.cell (p := ⟨b, p + i, none⟩) hlt).trans (hc i hi)⟩⟩
theorem Od.off.nul (w : World) (X : Option Nat) (k : Int) (c : Nat) (hk : i64ok k) : Od.off w X ⟨k, none, 0, c, []⟩ := ⟨hk, Nat.zero_le _, rfl, AllB.nil, fun h => absurd h (by show ¬ 0 < 0; omega)⟩
theorem Od.off.new {w w' : World} {t : TypeId} {X : Option Nat} {k : Int} {n c : Nat} {ys : List Int} {g : Nat} (hk : i64ok k) (hn : n ≤ 140737488355328) (hl : ys.length = n) (ha : AllB ys) (hb : Blk w' t g ys) (hg : w.heap.size ≤ g) (hX : ∀ x, X = some x → x < w.heap.size) : Od.off w' X ⟨k, some ⟨g, 0, none⟩, n, c, ys⟩ :=
  ⟨hk, hn, hl, ha, fun _ => ⟨g, 0, rfl, hb.lt, fun e => by have := hX g e.symm; omega, fun i hi => by
    have hi' : i < ys.length := by rw [hl]; exact hi
    rw [Nat.zero_add, hb.cell i, cellsB_get hi']⟩⟩

section
variable {t : TypeId} {w w' : World} {base n c : Nat} {A : Option Addr} {os : List Od}
theorem OwnO.len (h : OwnO t w base A n c os) : os.length = n := by have := h.1; rw [cellsO_length] at this; omega
theorem OwnO.lt (h : OwnO t w base A n c os) : ∀ k, (Value.slice A n c).ownBlock = some k → base ≤ k ∧ k < w.heap.size := World.ownsRow.lt h
theorem OwnO.below (h : OwnO t w base A n c os) (hb : Below w.heap.size w w') : OwnO t w' base A n c os := by
  refine ⟨h.1, ?_⟩
  rcases h.2 with e | ⟨g, cap, cur, e, hbg, hg, r⟩
  · exact .inl e
  · exact .inr ⟨g, cap, cur, e, hbg, by rw [hb.block g (Array.getElem?_eq_some_iff.1 hg).1]; exact hg, r⟩
theorem OwnO.none_ (t : TypeId) (w : World) (base : Nat) : OwnO t w base none 0 0 [] := ⟨rfl, .inl ⟨rfl, rfl⟩⟩
theorem OwnO.one (w : World) (t : TypeId) (o : Od) (hb : base ≤ w.heap.size) : OwnO t (w.alloc (.cells #[.int .i64 o.k, .slice o.A o.n o.c] t)) base (some ⟨w.heap.size, 0, none⟩) 1 1 [o] :=
  ⟨rfl, .inr ⟨w.heap.size, 1, _, rfl, hb, heap_alloc_new w _, Nat.le_refl _, by simp [maxLen], rfl, rfl⟩⟩
theorem OwnO.lies (h : OwnO t w base A n c os) {B : Nat} (hB : w.heap.size ≤ B) (ha : ∀ o ∈ os, o.ok w B) : Os w B A n os := by
  refine ⟨h.len, ha, fun hn => ?_⟩
  obtain ⟨g, cap, hv, _, hlt⟩ := World.ownsRow.form h hn
  have hA : A = some ⟨g, 0, none⟩ := by injection hv
  subst hA
  have hr : Os w B (some ⟨g, 0, none⟩) n os := Os.of_cells h.len ha (by omega) fun j v hv => by
    have := World.ownsRow.cells h (g := g) rfl j v hv
    simpa [Addr.add_lit] using this
  exact hr.mem hn
end

theorem run_append_none_o {P : Program} {w : World} {base : Nat} {t ty e : TypeId} {i : TypeInfo} (ht : P.underlying t = some (.slice e)) (hi : P.info? e = some i)
    {v : Value} {n : Nat} {xs : List Value} (hown : w.ownsRow base e 2 v n xs) (c : Nat) : (Builtin.append_ #[t, t] ty #[v, .slice none 0 c]).run P w = .ok v w := by
  rcases hown.2 with ⟨rfl, rfl⟩ | ⟨g, cap, cur, rfl, _, _, hnc, _⟩
  · simp [Builtin.append_, run_underlying ht, sizeOf, typeInfo, hi, Builtin.lenOf, Builtin.firstCells]
  · simp [Builtin.append_, run_underlying ht, sizeOf, typeInfo, hi, Builtin.lenOf, Builtin.firstCells, hnc, storeCells]

def zeroOV : Value := .agg #[.int .i64 0, .slice none 0 0]
theorem run_append_os {P : Program} (w : World) (base : Nat) (t ty e : TypeId) (i : TypeInfo) (ht : P.underlying t = some (.slice e)) (hi : P.info? e = some i) (hz : i.zero = some zeroOV)
    (hsize : i.size = 2) (hby : i.bytes = 32) (A0 : Option Addr) (n c0 : Nat) (xs : List Od) (hown : OwnO e w base A0 n c0 xs)
    (A : Option Addr) (m c : Nat) (B : Nat) (ys : List Od) (hs : Os w B A m ys) (hb : n + m ≤ 4294967296) (hbase : base ≤ w.heap.size) :
    ∃ A' c' w', (Builtin.append_ #[t, t] ty #[.slice A0 n c0, .slice A m c]).run P w = .ok (.slice A' (n + m) c') w' ∧ OwnO e w' base A' (n + m) c' (xs ++ ys) ∧
      w.grownBy w' (Value.slice A0 n c0).ownBlock ∧ ((Value.slice A' (n + m) c').ownBlock = (Value.slice A0 n c0).ownBlock ∨ (Value.slice A' (n + m) c').ownBlock = some w.heap.size) := by
  have hlen := hs.len
  cases A with
  | none =>
    have hm : m = 0 := by
      rcases Nat.eq_zero_or_pos m with h0 | h0
      · exact h0
      · obtain ⟨b, o, h, _⟩ := hs.mem h0
        cases h
    subst hm
    obtain rfl : ys = [] := List.eq_nil_of_length_eq_zero hlen
    exact ⟨A0, c0, w, run_append_none_o ht hi hown c, by simpa using hown, World.grownBy.refl w _, .inl rfl⟩
  | some ad =>
    have hnews : ∀ j u, (cellsO ys)[j]? = some u → w.cell? (ad.add j) = some u := by
      intro j u hu
      have hpos : 0 < (cellsO ys).length := by have := (List.getElem?_eq_some_iff.1 hu).1; omega
      obtain ⟨ad', e1, h⟩ := hs.src hpos
      injection e1 with e1
      subst e1
      exact h j u hu
    obtain ⟨v', w', hrun, h2, h3, _, h5⟩ := run_append_own_at (P := P) w base t ty e i zeroOV 2 32 ht hi hz hsize hby rfl (by omega) (.slice A0 n c0) n (cellsO xs) hown ad m c (cellsO ys) (by rw [cellsO_length]; omega) hnews (cellsO_one ys) (by simp only [maxLen]; omega) (by omega) hbase
    rw [← cellsO_append] at h2
    have hform : ∃ A' c', v' = .slice A' (n + m) c' := by
      rcases h2.2 with ⟨e1, e2⟩ | ⟨g, cap, cur, e1, _⟩
      · exact ⟨none, 0, by rw [e1, e2]⟩
      · exact ⟨_, _, e1⟩
    obtain ⟨A', c', rfl⟩ := hform
    exact ⟨A', c', w', hrun, h2, h3, h5⟩

/-- as an operation that is carried out -/
theorem wp_append_os {P : Program} {w : World} {o : Oper} {a : Act} {K : Act → World → Prop} {Q : Exit → Act → World → Prop} (s x : Operand) (t : TypeId)
    (ho : o.op = .call { callee := .builtin .append, args := #[s, x], argTypes := #[t, t] })
    (base : Nat) (e : TypeId) (i : TypeInfo) (ht : P.underlying t = some (.slice e)) (hi : P.info? e = some i) (hz : i.zero = some zeroOV) (hsize : i.size = 2) (hby : i.bytes = 32)
    (A0 : Option Addr) (n c0 : Nat) (xs : List Od) (hs : a.eval s = .slice A0 n c0) (hown : OwnO e w base A0 n c0 xs)
    (A : Option Addr) (m c B : Nat) (ys : List Od) (hx : a.eval x = .slice A m c) (hb : Os w B A m ys) (hn : n + m ≤ 4294967296) (hbase : base ≤ w.heap.size)
    (h : ∀ A' c' w', OwnO e w' base A' (n + m) c' (xs ++ ys) → w.grownBy w' (Value.slice A0 n c0).ownBlock → ((Value.slice A' (n + m) c').ownBlock = (Value.slice A0 n c0).ownBlock ∨ (Value.slice A' (n + m) c').ownBlock = some w.heap.size) →
      K (a.put o.dst (.slice A' (n + m) c')) w') : o.wp P a w K Q := by
  obtain ⟨A', c', w', hrun, h2, h3, h4⟩ := run_append_os (P := P) w base t o.type e i ht hi hz hsize hby A0 n c0 xs hown A m c B ys hb hn hbase
  unfold Oper.wp execOp
  simp only [ho, resolve, invoke, builtin, Sem.run_bind, Sem.run_pure, Result.andThen_ok, List.map_toArray, List.map_cons, List.map_nil, hs, hx, hrun]
  exact h A' c' w' h2 h3 h4
theorem wpList_append_os {P : Program} {w : World} {ops : Array Oper} {rest : List Oper} {o : Oper} {a : Act} {Q : Exit → Act → World → Prop} (hgd : o.guard = none) (s x : Operand) (t : TypeId)
    (ho : o.op = .call { callee := .builtin .append, args := #[s, x], argTypes := #[t, t] })
    (base : Nat) (e : TypeId) (i : TypeInfo) (ht : P.underlying t = some (.slice e)) (hi : P.info? e = some i) (hz : i.zero = some zeroOV) (hsize : i.size = 2) (hby : i.bytes = 32)
    (A0 : Option Addr) (n c0 : Nat) (xs : List Od) (hs : a.eval s = .slice A0 n c0) (hown : OwnO e w base A0 n c0 xs)
    (A : Option Addr) (m c B : Nat) (ys : List Od) (hx : a.eval x = .slice A m c) (hb : Os w B A m ys) (hn : n + m ≤ 4294967296) (hbase : base ≤ w.heap.size)
    (h : ∀ A' c' w', OwnO e w' base A' (n + m) c' (xs ++ ys) → w.grownBy w' (Value.slice A0 n c0).ownBlock → ((Value.slice A' (n + m) c').ownBlock = (Value.slice A0 n c0).ownBlock ∨ (Value.slice A' (n + m) c').ownBlock = some w.heap.size) →
      wpList P ops Q rest (a.put o.dst (.slice A' (n + m) c')) w') : wpList P ops Q (o :: rest) a w :=
  wpList_plain hgd fun _ hK => wp_append_os s x t ho base e i ht hi hz hsize hby A0 n c0 xs hs hown A m c B ys hx hb hn hbase fun A' c' w' h2 h3 h4 => hK _ _ (h A' c' w' h2 h3 h4)
end Go.Proofs.Ytnfiijbnfmcpjaa
