/- Slices of addresses in memory: what such a slice reads as, how that is kept while memory grows; append onto a row of the call's own. Routing headers by value and in memory. No condition. -/
import Derived.Test.YtnfiijbnfmcpjaaSrA
import Derived.Test.YtnfiijbnfmcpjaaTpJ
import Derived.Deep.MidRow
namespace Go.Proofs.Ytnfiijbnfmcpjaa
open Go.RowKit
set_option linter.unusedVariables false

/-- the slice at A, n long, holds the addresses l, below block B -/
structure As (w : World) (B : Nat) (A : Option Addr) (n : Nat) (l : List (List Int)) : Prop where
  len : l.length = n
  all : AllA l
  mem : 0 < n → ∃ b o, A = some ⟨b, o, none⟩ ∧ b < B ∧ ∀ j, j < n * 16 → w.cell? ⟨b, o + j, none⟩ = some (.int .u8 (l.flatten.getD j 0))
def AFrom (lo : Nat) (A : Option Addr) (n : Nat) : Prop := 0 < n → ∃ b p, A = some ⟨b, p, none⟩ ∧ lo ≤ b
theorem AFrom.nil (lo : Nat) (A : Option Addr) : AFrom lo A 0 := fun h => absurd h (by omega)
theorem AFrom.less {lo lo' n : Nat} {A : Option Addr} (h : AFrom lo A n) (hl : lo' ≤ lo) : AFrom lo' A n := fun hn => by
  obtain ⟨b, p, e, hb⟩ := h hn
  exact ⟨b, p, e, by omega⟩

section
variable {w w' : World} {B B' n lo : Nat} {A : Option Addr} {l : List (List Int)}
theorem As.nil (w : World) (B : Nat) (A : Option Addr) : As w B A 0 [] := ⟨rfl, AllA.nil, fun h => absurd h (by omega)⟩
theorem As.keep (h : As w B A n l) (hk : ∀ p : Addr, p.block < B → w'.cell? p = w.cell? p) : As w' B A n l :=
  ⟨h.len, h.all, fun hn => by
    obtain ⟨b, o, e, hb, hc⟩ := h.mem hn
    exact ⟨b, o, e, hb, fun i hi => (hk _ hb).trans (hc i hi)⟩⟩
theorem As.more (h : As w B A n l) (hB : B ≤ B') : As w B' A n l :=
  ⟨h.len, h.all, fun hn => by
    obtain ⟨b, o, e, hb, hc⟩ := h.mem hn
    exact ⟨b, o, e, by omega, hc⟩⟩
theorem As.below (h : As w B A n l) (hb : Below B w w') : As w' B A n l := h.keep fun _ hp => hb.cell hp
theorem As.below' (h : As w B A n l) (hb : Below B w w') (hB : B ≤ B') : As w' B' A n l := (h.below hb).more hB
theorem As.upper (h : As w B A n l) (hf : AFrom lo A n) (hk : ∀ p : Addr, lo ≤ p.block → p.block < B → w'.cell? p = w.cell? p) : As w' B A n l :=
  ⟨h.len, h.all, fun hn => by
    obtain ⟨b, o, e, hb, hc⟩ := h.mem hn
    obtain ⟨b', o', e', hl⟩ := hf hn
    rw [e] at e'
    injection e' with e'
    injection e' with e1 e2 _
    subst e1 e2
    exact ⟨b, o, e, hb, fun i hi => (hk _ hl hb).trans (hc i hi)⟩⟩
theorem As.flat (h : As w B A n l) : l.flatten.length = n * 16 := by rw [flatA_len h.all, h.len]
theorem As.src (h : As w B A n l) (hp : 0 < (cellsB l.flatten).length) : ∃ ad, A = some ad ∧ ∀ j v, (cellsB l.flatten)[j]? = some v → w.cell? (ad.add j) = some v := by
  rw [cellsB_length, h.flat] at hp
  obtain ⟨b, o, rfl, _, hc⟩ := h.mem (by omega)
  refine ⟨_, rfl, fun j v hv => ?_⟩
  have hj : j < l.flatten.length := by have := (List.getElem?_eq_some_iff.1 hv).1; rwa [cellsB_length] at this
  rw [cellsB_get hj] at hv
  rw [Addr.add_lit, hc j (by rw [← h.flat]; exact hj)]
  exact hv
theorem As.of_cells (hl : l.length = n) (ha : AllA l) {b o : Nat} (hb : b < B) (hc : ∀ j v, (cellsB l.flatten)[j]? = some v → w.cell? ⟨b, o + j, none⟩ = some v) : As w B (some ⟨b, o, none⟩) n l :=
  ⟨hl, ha, fun _ => ⟨b, o, rfl, hb, fun i hi => hc i _ (cellsB_get (by rw [flatA_len ha, hl]; exact hi))⟩⟩
/-- one of them -/
theorem As.at_ {b o : Nat} (h : As w B (some ⟨b, o, none⟩) n l) {i : Nat} (hi : i < n) : b < B ∧ w.rangeAt b (o + i * 16) (cellsB (l.getD i zero16)) := by
  obtain ⟨b', o', e, hb, hc⟩ := h.mem (by omega)
  injection e with e
  injection e with e1 e2 _
  subst e1 e2
  refine ⟨hb, fun j v hv => ?_⟩
  have hj : j < 16 := by
    have := (List.getElem?_eq_some_iff.1 hv).1
    rw [cellsB_length, (h.all.getD i).1] at this
    exact this
  rw [cellsB_get (by rw [(h.all.getD i).1]; exact hj)] at hv
  rw [← hv, Nat.add_assoc, hc (i * 16 + j) (by omega), flatA_get h.all (by rw [h.len]; exact hi) hj]
theorem As.one_ (w : World) (t : TypeId) (s : List Int) (hs : s.length = 16) (ha : AllB s) {B : Nat} (hB : w.heap.size < B) : As (w.alloc (.cells (cellsB s).toArray t)) B (some ⟨w.heap.size, 0, none⟩) 1 [s] :=
  As.of_cells rfl (.cons hs ha .nil) hB fun j v hv => by
    rw [Nat.zero_add, cell_of_row _ w.heap.size j _ t (0, 0) (heap_alloc_new w _)]
    simpa using hv
theorem As.of_blk {t : TypeId} {g : Nat} {s : List Int} (h : Blk w t g s) (hs : s.length = 16) (ha : AllB s) {B : Nat} (hB : g < B) : As w B (some ⟨g, 0, none⟩) 1 [s] :=
  As.of_cells rfl (.cons hs ha .nil) hB fun j v hv => by
    rw [Nat.zero_add, h.cell j]
    simpa using hv
end

/-- the slice (A, n, c) is a row of the call's own, from block 'base' on, and holds the addresses l -/
def OwnA (t : TypeId) (w : World) (base : Nat) (A : Option Addr) (n c : Nat) (l : List (List Int)) : Prop := w.ownsRow base t 16 (.slice A n c) n (cellsB l.flatten) ∧ AllA l ∧ l.length = n
section
variable {t : TypeId} {w w' : World} {base n c : Nat} {A : Option Addr} {l : List (List Int)}
theorem OwnA.lies (h : OwnA t w base A n c l) {B : Nat} (hB : w.heap.size ≤ B) : As w B A n l := by
  refine ⟨h.2.2, h.2.1, fun hn => ?_⟩
  obtain ⟨g, cap, hv, _, hlt⟩ := World.ownsRow.form h.1 hn
  have hA : A = some ⟨g, 0, none⟩ := by injection hv
  subst hA
  have hr : As w B (some ⟨g, 0, none⟩) n l := As.of_cells h.2.2 h.2.1 (by omega) fun j v hv => by
    have := World.ownsRow.cells h.1 (g := g) rfl j v hv
    simpa [Addr.add_lit] using this
  exact hr.mem hn
theorem OwnA.lt (h : OwnA t w base A n c l) : ∀ k, (Value.slice A n c).ownBlock = some k → base ≤ k ∧ k < w.heap.size := World.ownsRow.lt h.1
theorem OwnA.below (h : OwnA t w base A n c l) (hb : Below w.heap.size w w') : OwnA t w' base A n c l := by
  refine ⟨⟨h.1.1, ?_⟩, h.2⟩
  rcases h.1.2 with e | ⟨g, cap, cur, e, hbg, hg, r⟩
  · exact .inl e
  · exact .inr ⟨g, cap, cur, e, hbg, by rw [hb.block g (Array.getElem?_eq_some_iff.1 hg).1]; exact hg, r⟩
theorem OwnA.other (h : OwnA t w base A n c l) {g : Nat} (hg : g < base) (hk : ∀ k, k ≠ g → w'.heap[k]? = w.heap[k]?) : OwnA t w' base A n c l := by
  refine ⟨⟨h.1.1, ?_⟩, h.2⟩
  rcases h.1.2 with e | ⟨g', cap, cur, e, hbg, hg', r⟩
  · exact .inl e
  · exact .inr ⟨g', cap, cur, e, hbg, by rw [hk g' (by omega)]; exact hg', r⟩
theorem OwnA.none_ (t : TypeId) (w : World) (base : Nat) : OwnA t w base none 0 0 [] := ⟨⟨rfl, .inl ⟨rfl, rfl⟩⟩, AllA.nil, rfl⟩
theorem OwnA.from_ (h : OwnA t w base A n c l) : AFrom base A n := fun hn => by
  obtain ⟨g, cap, hv, hb, _⟩ := World.ownsRow.form h.1 hn
  injection hv with hA
  exact ⟨g, 0, hA, hb⟩
end

theorem run_append_none_a {P : Program} {w : World} {base : Nat} {t ty e : TypeId} {i : TypeInfo} (ht : P.underlying t = some (.slice e)) (hi : P.info? e = some i)
    {v : Value} {n : Nat} {xs : List Value} (hown : w.ownsRow base e 16 v n xs) (c : Nat) : (Builtin.append_ #[t, t] ty #[v, .slice none 0 c]).run P w = .ok v w := by
  rcases hown.2 with ⟨rfl, rfl⟩ | ⟨g, cap, cur, rfl, _, _, hnc, _⟩
  · simp [Builtin.append_, run_underlying ht, sizeOf, typeInfo, hi, Builtin.lenOf, Builtin.firstCells]
  · simp [Builtin.append_, run_underlying ht, sizeOf, typeInfo, hi, Builtin.lenOf, Builtin.firstCells, hnc, storeCells]

theorem run_append_as {P : Program} (w : World) (base : Nat) (t ty e : TypeId) (i : TypeInfo) (ht : P.underlying t = some (.slice e)) (hi : P.info? e = some i) (hz : i.zero = some (addrV zero16))
    (hsize : i.size = 16) (hby : i.bytes = 16) (A0 : Option Addr) (n c0 : Nat) (xs : List (List Int)) (hown : OwnA e w base A0 n c0 xs)
    (A : Option Addr) (m c : Nat) (B : Nat) (ys : List (List Int)) (hs : As w B A m ys) (hb : n + m ≤ 4294967296) (hbase : base ≤ w.heap.size) :
    ∃ A' c' w', (Builtin.append_ #[t, t] ty #[.slice A0 n c0, .slice A m c]).run P w = .ok (.slice A' (n + m) c') w' ∧ OwnA e w' base A' (n + m) c' (xs ++ ys) ∧
      w.grownBy w' (Value.slice A0 n c0).ownBlock ∧ ((Value.slice A' (n + m) c').ownBlock = (Value.slice A0 n c0).ownBlock ∨ (Value.slice A' (n + m) c').ownBlock = some w.heap.size) := by
  have hlen := hs.len
  cases A with
  | none =>
    have hm : m = 0 := by
      rcases Nat.eq_zero_or_pos m with h0 | h0
      · exact h0
      · obtain ⟨b, o, h, _⟩ := hs.mem h0
        cases h
    subst hm
    obtain rfl : ys = [] := List.eq_nil_of_length_eq_zero hlen
    exact ⟨A0, c0, w, run_append_none_a ht hi hown.1 c, by simpa using hown, World.grownBy.refl w _, .inl rfl⟩
  | some ad =>
    have hnews : ∀ j u, (cellsB ys.flatten)[j]? = some u → w.cell? (ad.add j) = some u := by
      intro j u hu
      have hpos : 0 < (cellsB ys.flatten).length := by have := (List.getElem?_eq_some_iff.1 hu).1; omega
      obtain ⟨ad', e1, h⟩ := hs.src hpos
      injection e1 with e1
      subst e1
      exact h j u hu
    obtain ⟨v', w', hrun, h2, h3, _, h5⟩ := run_append_own_at (P := P) w base t ty e i (addrV zero16) 16 16 ht hi hz hsize hby rfl (by omega) (.slice A0 n c0) n (cellsB xs.flatten) hown.1 ad m c (cellsB ys.flatten) (by rw [cellsB_length, hs.flat]) hnews (cellsB_one ys.flatten) (by simp only [maxLen]; omega) (by omega) hbase
    rw [← cellsB_append, ← List.flatten_append] at h2
    have hform : ∃ A' c', v' = .slice A' (n + m) c' := by
      rcases h2.2 with ⟨e1, e2⟩ | ⟨g, cap, cur, e1, _⟩
      · exact ⟨none, 0, by rw [e1, e2]⟩
      · exact ⟨_, _, e1⟩
    obtain ⟨A', c', rfl⟩ := hform
    exact ⟨A', c', w', hrun, ⟨h2, hown.2.1.append hs.all, by rw [List.length_append, hown.2.2, hlen]⟩, h3, h5⟩
theorem wp_append_as {P : Program} {w : World} {o : Oper} {a : Act} {K : Act → World → Prop} {Q : Exit → Act → World → Prop} (s x : Operand) (t : TypeId)
    (ho : o.op = .call { callee := .builtin .append, args := #[s, x], argTypes := #[t, t] })
    (base : Nat) (e : TypeId) (i : TypeInfo) (ht : P.underlying t = some (.slice e)) (hi : P.info? e = some i) (hz : i.zero = some (addrV zero16)) (hsize : i.size = 16) (hby : i.bytes = 16)
    (A0 : Option Addr) (n c0 : Nat) (xs : List (List Int)) (hs : a.eval s = .slice A0 n c0) (hown : OwnA e w base A0 n c0 xs)
    (A : Option Addr) (m c B : Nat) (ys : List (List Int)) (hx : a.eval x = .slice A m c) (hb : As w B A m ys) (hn : n + m ≤ 4294967296) (hbase : base ≤ w.heap.size)
    (h : ∀ A' c' w', OwnA e w' base A' (n + m) c' (xs ++ ys) → w.grownBy w' (Value.slice A0 n c0).ownBlock → ((Value.slice A' (n + m) c').ownBlock = (Value.slice A0 n c0).ownBlock ∨ (Value.slice A' (n + m) c').ownBlock = some w.heap.size) →
      K (a.put o.dst (.slice A' (n + m) c')) w') : o.wp P a w K Q := by
  obtain ⟨A', c', w', hrun, h2, h3, h4⟩ := run_append_as (P := P) w base t o.type e i ht hi hz hsize hby A0 n c0 xs hown A m c B ys hb hn hbase
  unfold Oper.wp execOp
  simp only [ho, resolve, invoke, builtin, Sem.run_bind, Sem.run_pure, Result.andThen_ok, List.map_toArray, List.map_cons, List.map_nil, hs, hx, hrun]
  exact h A' c' w' h2 h3 h4
theorem wpList_append_as {P : Program} {w : World} {ops : Array Oper} {rest : List Oper} {o : Oper} {a : Act} {Q : Exit → Act → World → Prop} (hgd : o.guard = none) (s x : Operand) (t : TypeId)
    (ho : o.op = .call { callee := .builtin .append, args := #[s, x], argTypes := #[t, t] })
    (base : Nat) (e : TypeId) (i : TypeInfo) (ht : P.underlying t = some (.slice e)) (hi : P.info? e = some i) (hz : i.zero = some (addrV zero16)) (hsize : i.size = 16) (hby : i.bytes = 16)
    (A0 : Option Addr) (n c0 : Nat) (xs : List (List Int)) (hs : a.eval s = .slice A0 n c0) (hown : OwnA e w base A0 n c0 xs)
    (A : Option Addr) (m c B : Nat) (ys : List (List Int)) (hx : a.eval x = .slice A m c) (hb : As w B A m ys) (hn : n + m ≤ 4294967296) (hbase : base ≤ w.heap.size)
    (h : ∀ A' c' w', OwnA e w' base A' (n + m) c' (xs ++ ys) → w.grownBy w' (Value.slice A0 n c0).ownBlock → ((Value.slice A' (n + m) c').ownBlock = (Value.slice A0 n c0).ownBlock ∨ (Value.slice A' (n + m) c').ownBlock = some w.heap.size) →
      wpList P ops Q rest (a.put o.dst (.slice A' (n + m) c')) w') : wpList P ops Q (o :: rest) a w :=
  wpList_plain hgd fun _ hK => wp_append_as s x t ho base e i ht hi hz hsize hby A0 n c0 xs hs hown A m c B ys hx hb hn hbase fun A' c' w' h2 h3 h4 => hK _ _ (h A' c' w' h2 h3 h4)
theorem info_addrR : (Try.prog.info? 39).map (fun i => (i.zero, i.size, i.bytes)) = some (some (addrV zero16), 16, 16) := by kernel_rfl

/-- a routing header as it lies -/
structure Sr where
  nx : Int
  le : Int
  fl : Int
  tg : Int
  gA : Option Addr
  gm : Nat
  gc : Nat
  sg : List (List Int)
  tA : Option Addr
  tm : Nat
  tc : Nat
  tl : List Od
def Sr.v (s : Sr) : Rb := ⟨s.nx, s.le, s.fl, s.tg, s.sg, s.tl.map Od.v⟩
structure Sr.ok (w : World) (B : Nat) (s : Sr) : Prop where
  nx : i64ok s.nx
  le : i64ok s.le
  fl : i64ok s.fl
  tg : i64ok s.tg
  gm : s.gm ≤ 140737488351232
  sg : As w B s.gA s.gm s.sg
  tm : s.tm ≤ 140737488351232
  tl : Os w B s.tA s.tm s.tl
structure Sr.from_ (lo : Nat) (s : Sr) : Prop where
  sg : AFrom lo s.gA s.gm
  tl : OFrom lo s.tA s.tm s.tl
section
variable {w w' : World} {B B' lo : Nat} {s : Sr}
theorem Sr.ok.keep (h : s.ok w B) (hk : ∀ p : Addr, p.block < B → w'.cell? p = w.cell? p) : s.ok w' B := ⟨h.nx, h.le, h.fl, h.tg, h.gm, h.sg.keep hk, h.tm, h.tl.keep hk⟩
theorem Sr.ok.more (h : s.ok w B) (hB : B ≤ B') : s.ok w B' := ⟨h.nx, h.le, h.fl, h.tg, h.gm, h.sg.more hB, h.tm, h.tl.more hB⟩
theorem Sr.ok.below' (h : s.ok w B) (hb : Below B w w') (hB : B ≤ B') : s.ok w' B' := (h.keep fun _ hp => hb.cell hp).more hB
theorem Sr.ok.low (h : s.ok w w.heap.size) (hb : Low w w') : s.ok w' w'.heap.size := h.below' hb hb.size
/-- what lies from block lo on is as it was, where nothing from there on has changed -/
theorem Os.upperR {n : Nat} {A : Option Addr} {os : List Od} (h : Os w B A n os) (hf : OFrom lo A n os) (hk : ∀ p : Addr, lo ≤ p.block → p.block < B → w'.cell? p = w.cell? p) : Os w' B A n os :=
  ⟨h.len, fun o ho => ⟨(h.all o ho).1, (h.all o ho).2.1, (h.all o ho).2.2.len, (h.all o ho).2.2.all, fun hn => by
    obtain ⟨b, p, e, hb, hc⟩ := (h.all o ho).2.2.mem hn
    obtain ⟨b', p', e', hl⟩ := hf.2 o ho hn
    rw [e] at e'
    injection e' with e'
    injection e' with e1 e2 _
    subst e1 e2
    exact ⟨b, p, e, hb, fun i hi => (hk _ hl hb).trans (hc i hi)⟩⟩, fun hn => by
    obtain ⟨b, p, e, hb, hc⟩ := h.mem hn
    obtain ⟨b', p', e', hl⟩ := hf.1 hn
    rw [e] at e'
    injection e' with e'
    injection e' with e1 e2 _
    subst e1 e2
    exact ⟨b, p, e, hb, fun i hi => ⟨(hk _ hl hb).trans (hc i hi).1, (hk _ hl hb).trans (hc i hi).2⟩⟩⟩
theorem Sr.ok.upper (h : s.ok w B) (hf : s.from_ lo) (hk : ∀ p : Addr, lo ≤ p.block → p.block < B → w'.cell? p = w.cell? p) : s.ok w' B :=
  ⟨h.nx, h.le, h.fl, h.tg, h.gm, h.sg.upper hf.sg hk, h.tm, h.tl.upperR hf.tl hk⟩
end

def srC (s : Sr) : List Value := [.int .i64 s.nx, .int .i64 s.le, .int .i64 s.fl, .int .i64 s.tg, .slice s.gA s.gm s.gc, .slice s.tA s.tm s.tc]
def srV (s : Sr) : Value := .agg (srC s).toArray
def zeroSr : Sr := ⟨0, 0, 0, 0, none, 0, 0, [], none, 0, 0, []⟩
theorem zeroSr_ok (w : World) (B : Nat) : zeroSr.ok w B := ⟨by simp [zeroSr, i64ok], by simp [zeroSr, i64ok], by simp [zeroSr, i64ok], by simp [zeroSr, i64ok], by simp [zeroSr], As.nil _ _ _, by simp [zeroSr], Os.nil _ _ _⟩
theorem srC_one (s : Sr) : (srC s).toArray.all (·.oneCell') = true := by simp [srC, Value.oneCell']
theorem sr_size : (Try.prog.info? 25).map (·.size) = some 6 := by kernel_rfl
theorem sr_zero : (Try.prog.info? 25).map (·.zero) = some (some (.agg (srC zeroSr).toArray)) := by kernel_rfl
/-- block g is just the header s -/
abbrev BlkR (w : World) (g : Nat) (s : Sr) : Prop := BlkV w 25 g (srC s)
theorem BlkR.cells {w : World} {g : Nat} {s : Sr} (h : BlkR w g s) :
    w.cell? ⟨g, 0, none⟩ = some (.int .i64 s.nx) ∧ w.cell? ⟨g, 1, none⟩ = some (.int .i64 s.le) ∧ w.cell? ⟨g, 2, none⟩ = some (.int .i64 s.fl) ∧ w.cell? ⟨g, 3, none⟩ = some (.int .i64 s.tg) ∧
    w.cell? ⟨g, 4, none⟩ = some (.slice s.gA s.gm s.gc) ∧ w.cell? ⟨g, 5, none⟩ = some (.slice s.tA s.tm s.tc) :=
  ⟨h.cell 0, h.cell 1, h.cell 2, h.cell 3, h.cell 4, h.cell 5⟩
section
variable {ops : Array Oper} {rest : List Oper} {o : Oper} {a : Act} {w : World} {Q : Exit → Act → World → Prop}
theorem wpList_box_sr (hgd : o.guard = none) (x : Operand) (ho : o.op = .box 25 x) (s : Sr) (hx : a.eval x = .agg (srC s).toArray)
    (hk : ∀ w', BlkR w' w.heap.size s → Low w w' → w'.heap.size = w.heap.size + 1 → wpList Try.prog ops Q rest (a.put o.dst (.pointer (some ⟨w.heap.size, 0, none⟩))) w') : wpList Try.prog ops Q (o :: rest) a w :=
  wpList_box_v hgd 25 x ho (srC s) hx hk
theorem wpList_alloc_sr (hgd : o.guard = none) (ho : o.op = .alloc 25)
    (hk : ∀ w', BlkR w' w.heap.size zeroSr → Low w w' → w'.heap.size = w.heap.size + 1 → wpList Try.prog ops Q rest (a.put o.dst (.pointer (some ⟨w.heap.size, 0, none⟩))) w') : wpList Try.prog ops Q (o :: rest) a w :=
  wpList_alloc_v hgd 25 ho (srC zeroSr) sr_zero hk
theorem wpList_load_sr (hgd : o.guard = none) (x : Operand) (ho : o.op = .load 25 x) (g : Nat) (hx : a.eval x = .pointer (some ⟨g, 0, none⟩)) (s : Sr) (hb : BlkR w g s)
    (hk : wpList Try.prog ops Q rest (a.put o.dst (.agg (srC s).toArray)) w) : wpList Try.prog ops Q (o :: rest) a w :=
  wpList_load_row hgd 25 x ho g hx _ (srC s).toArray (0, 0) _ hb Try.underlying25 rfl (by rw [sr_size]; rfl) hk
theorem wpList_load_sr_g (hw : Region.wanted o (yielded ops a.tmps) = true) (x : Operand) (ho : o.op = .load 25 x) (g : Nat) (hx : a.eval x = .pointer (some ⟨g, 0, none⟩)) (s : Sr) (hb : BlkR w g s)
    (hk : wpList Try.prog ops Q rest (a.put o.dst (.agg (srC s).toArray)) w) : wpList Try.prog ops Q (o :: rest) a w :=
  wpList_step fun K hK => by
    simp only [hw, if_true]
    exact wp_load_row 25 x ho g hx _ (srC s).toArray (0, 0) _ hb Try.underlying25 rfl (by rw [sr_size]; rfl) (hK _ _ hk)
/-- a whole header is stored: no other block changes -/
theorem wpList_store_sr (hgd : o.guard = none) (x y : Operand) (ho : o.op = .store 25 x y) (g : Nat) (hx : a.eval x = .pointer (some ⟨g, 0, none⟩)) (s : Sr) (hy : a.eval y = .agg (srC s).toArray) (old : Sr) (hb : BlkR w g old)
    (hk : ∀ w', BlkR w' g s → Below g w w' → (∀ p : Addr, p.block ≠ g → w'.cell? p = w.cell? p) → w'.heap.size = w.heap.size → wpList Try.prog ops Q rest (a.put o.dst undef) w') : wpList Try.prog ops Q (o :: rest) a w :=
  wpList_store_row hgd 25 x y ho g _ hx hy _ _ hb (by rw [sr_size]; rfl) rfl (srC_one s) (hk _ (BlkV.setRow hb _) (low_setRow _ _ _ (Nat.le_refl _)) (fun p hp => World.cell?_of_block (by simp [World.setRow, Array.getElem?_modify, Ne.symm hp])) (by simp))
/-- one address of a slice is read -/
theorem wpList_load_at (hgd : o.guard = none) (x : Operand) (ho : o.op = .load 39 x) (b p : Nat) (hx : a.eval x = .pointer (some ⟨b, p, none⟩)) (s : List Int) (hs : s.length = 16) (hc : w.rangeAt b p (cellsB s))
    (hk : wpList Try.prog ops Q rest (a.put o.dst (.agg (cellsB s).toArray)) w) : wpList Try.prog ops Q (o :: rest) a w :=
  wpList_load_mid hgd 39 x ho b p hx (cellsB s) _ hc Try.underlying39 rfl (by rw [addr_size]; simp [cellsB_length, hs]) hk
end
theorem exec_load_sr {f : Operand → Value} {dd : Option Tmp} {x : Operand} {ty : TypeId} {pos : String} {gd : Option (Nat × Bool)} {w : World} {g : Nat} {s : Sr} (hx : f x = .pointer (some ⟨g, 0, none⟩)) (hb : BlkR w g s) :
    (execOp f ⟨dd, .load 25 x, ty, pos, #[], gd⟩).run Try.prog w = .ok (.value (.agg (srC s).toArray)) w := by
  unfold execOp
  simp only [hx, Instr.loadAt, Instr.sureAddr, Sem.run_bind, Sem.run_pure, Result.andThen_ok, run_loadVar_row w g 25 25 (srC s).toArray _ _ hb Try.underlying25 rfl (by rw [sr_size]; rfl)]
theorem exec_load_at {f : Operand → Value} {dd : Option Tmp} {x : Operand} {ty : TypeId} {pos : String} {gd : Option (Nat × Bool)} {w : World} {b p : Nat} {s : List Int} (hx : f x = .pointer (some ⟨b, p, none⟩)) (hs : s.length = 16) (hc : w.rangeAt b p (cellsB s)) :
    (execOp f ⟨dd, .load 39 x, ty, pos, #[], gd⟩).run Try.prog w = .ok (.value (.agg (cellsB s).toArray)) w := by
  unfold execOp
  simp only [hx, Instr.loadAt, Instr.sureAddr, Sem.run_bind, Sem.run_pure, Result.andThen_ok, run_loadVar_mid w b p 39 (cellsB s) _ hc Try.underlying39 rfl (by rw [addr_size]; simp [cellsB_length, hs])]
theorem rangeAt_below {w w' : World} {B b p : Nat} {cs : List Value} (h : w.rangeAt b p cs) (hb : Below B w w') (hlt : b < B) : w'.rangeAt b p cs := fun j v hv => (hb.cell (p := ⟨b, p + j, none⟩) hlt).trans (h j v hv)
end Go.Proofs.Ytnfiijbnfmcpjaa
