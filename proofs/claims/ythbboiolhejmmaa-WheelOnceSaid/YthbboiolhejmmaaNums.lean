/- Plain words for slices of ints in memory: what a slice of ints reads as, and how that is kept while memory grows; append onto a row of the call's own. No condition. -/
import Derived.Test.YthbboiolhejmmaaApp
set_option maxRecDepth 100000
namespace Go.Proofs.Ythbboiolhejmmaa
open Go.RowKit

/-- the cells of a list of bytes -/
def cellsN (xs : List Int) : List Value := xs.map (Value.int .i64)
theorem cellsN_length (xs : List Int) : (cellsN xs).length = xs.length := by simp [cellsN]
theorem cellsN_append (xs ys : List Int) : cellsN (xs ++ ys) = cellsN xs ++ cellsN ys := by simp [cellsN]
theorem cellsN_one (xs : List Int) : ∀ u ∈ cellsN xs, u.oneCell' = true := ints_oneCell .i64 xs
theorem cellsN_get {xs : List Int} {i : Nat} (h : i < xs.length) : (cellsN xs)[i]? = some (.int .i64 (xs.getD i 0)) := by
  simp [cellsN, List.getD, h]

/-- each number is a byte's -/
def AllI (xs : List Int) : Prop := ∀ x ∈ xs, -9223372036854775808 ≤ x ∧ x ≤ 9223372036854775807
theorem AllI.nil : AllI [] := fun _ h => by cases h
theorem AllI.cons {x : Int} {xs : List Int} (h0 : -9223372036854775808 ≤ x) (h1 : x ≤ 9223372036854775807) (h : AllI xs) : AllI (x :: xs) := fun y hy => by
  rcases List.mem_cons.1 hy with rfl | hy
  · exact ⟨h0, h1⟩
  · exact h y hy
theorem AllI.append {xs ys : List Int} (h : AllI xs) (k : AllI ys) : AllI (xs ++ ys) := fun x hx => by
  rcases List.mem_append.1 hx with hx | hx
  · exact h x hx
  · exact k x hx
theorem AllI.take {xs : List Int} (h : AllI xs) (n : Nat) : AllI (xs.take n) := fun x hx => h x (List.mem_of_mem_take hx)
theorem AllI.drop {xs : List Int} (h : AllI xs) (n : Nat) : AllI (xs.drop n) := fun x hx => h x (List.mem_of_mem_drop hx)
theorem AllI.set {xs : List Int} (h : AllI xs) (i : Nat) {x : Int} (h0 : -9223372036854775808 ≤ x) (h1 : x ≤ 9223372036854775807) : AllI (xs.set i x) := fun y hy => by
  rcases List.mem_or_eq_of_mem_set hy with hy | rfl
  · exact h y hy
  · exact ⟨h0, h1⟩
theorem AllI.getD {xs : List Int} (h : AllI xs) (i : Nat) : -9223372036854775808 ≤ xs.getD i 0 ∧ xs.getD i 0 ≤ 9223372036854775807 := by
  rcases Nat.lt_or_ge i xs.length with hi | hi
  · have e : xs.getD i 0 = xs[i] := by simp [List.getD, hi]
    rw [e]; exact h _ (List.getElem_mem hi)
  · have e : xs.getD i 0 = 0 := by simp [List.getD, List.getElem?_eq_none hi]
    rw [e]; omega

/-- the slice at A, n long, holds the bytes xs, below block B -/
structure Ns (w : World) (B : Nat) (A : Option Addr) (n : Nat) (xs : List Int) : Prop where
  len : xs.length = n
  all : AllI xs
  mem : 0 < n → ∃ b o, A = some ⟨b, o, none⟩ ∧ b < B ∧ ∀ i, i < n → w.cell? ⟨b, o + i, none⟩ = some (.int .i64 (xs.getD i 0))

section
variable {w w' : World} {B B' n : Nat} {A : Option Addr} {xs : List Int}
theorem Ns.nil (w : World) (B : Nat) (A : Option Addr) : Ns w B A 0 [] := ⟨rfl, AllI.nil, fun h => absurd h (by omega)⟩
theorem Ns.keep (h : Ns w B A n xs) (hk : ∀ p : Addr, p.block < B → w'.cell? p = w.cell? p) : Ns w' B A n xs :=
  ⟨h.len, h.all, fun hn => by
    obtain ⟨b, o, e, hb, hc⟩ := h.mem hn
    exact ⟨b, o, e, hb, fun i hi => (hk _ hb).trans (hc i hi)⟩⟩
theorem Ns.more (h : Ns w B A n xs) (hB : B ≤ B') : Ns w B' A n xs :=
  ⟨h.len, h.all, fun hn => by
    obtain ⟨b, o, e, hb, hc⟩ := h.mem hn
    exact ⟨b, o, e, by omega, hc⟩⟩
theorem Ns.below (h : Ns w B A n xs) (hb : Below B w w') : Ns w' B A n xs := h.keep fun _ hp => hb.cell hp
theorem Ns.below' (h : Ns w B A n xs) (hb : Below B w w') (hB : B ≤ B') : Ns w' B' A n xs := (h.below hb).more hB
theorem Ns.alloc (h : Ns w B A n xs) (hB : B ≤ w.heap.size) (o : Obj) : Ns (w.alloc o) B A n xs := h.keep fun p hp => World.cell?_alloc_lt w o p (by omega)
theorem Ns.drewN (h : Ns w B A n xs) (k : Nat) : Ns (w.drewN k) B A n xs := h.keep fun _ _ => rfl
theorem Ns.drew (h : Ns w B A n xs) : Ns w.drew B A n xs := h.keep fun _ _ => rfl
theorem Ns.nonneg (h : Ns w B A n xs) (i : Nat) : -9223372036854775808 ≤ xs.getD i 0 ∧ xs.getD i 0 ≤ 9223372036854775807 := h.all.getD i
theorem Ns.at_ (h : Ns w B A n xs) {k : Nat} (hk : k < n) : ∃ b o, A = some ⟨b, o, none⟩ ∧ b < B ∧ (∀ i, i < n → w.cell? ⟨b, o + i, none⟩ = some (.int .i64 (xs.getD i 0))) := h.mem (by omega)
theorem Ns.src (h : Ns w B A n xs) (hp : 0 < (cellsN xs).length) : ∃ ad, A = some ad ∧ ∀ j v, (cellsN xs)[j]? = some v → w.cell? (ad.add j) = some v := by
  rw [cellsN_length, h.len] at hp
  obtain ⟨b, o, rfl, _, hc⟩ := h.mem hp
  refine ⟨_, rfl, fun j v hv => ?_⟩
  have hj : j < xs.length := by have := (List.getElem?_eq_some_iff.1 hv).1; rwa [cellsN_length] at this
  rw [cellsN_get hj] at hv
  rw [Addr.add_lit, hc j (by have := h.len; omega)]
  exact hv
theorem Ns.of_own {base e c : Nat} (hB : w.heap.size ≤ B) (ha : AllI xs) (h : w.ownsRow base e 1 (.slice A n c) n (cellsN xs)) : Ns w B A n xs := by
  have hl : xs.length = n := by have := h.1; rw [cellsN_length] at this; omega
  refine ⟨hl, ha, fun hn => ?_⟩
  obtain ⟨g, cap, hv, _, hlt⟩ := h.form hn
  have hA : A = some ⟨g, 0, none⟩ := by injection hv
  subst hA
  refine ⟨g, 0, rfl, by omega, fun i hi => ?_⟩
  have := h.cells (g := g) rfl i _ (cellsN_get (by omega))
  simpa [Addr.add_lit] using this
end

/-- block g is just the bytes ys (t: the type of a byte) -/
def BlkN (w : World) (t : TypeId) (g : Nat) (ys : List Int) : Prop := w.heap[g]? = some (.cells (cellsN ys).toArray t (0, 0))
section
variable {w w' : World} {t : TypeId} {g B : Nat} {ys : List Int}
theorem BlkN.lt (h : BlkN w t g ys) : g < w.heap.size := (Array.getElem?_eq_some_iff.1 h).1
theorem BlkN.cell (h : BlkN w t g ys) (i : Nat) : w.cell? ⟨g, i, none⟩ = (cellsN ys)[i]? := by
  rw [cell_of_row w g i _ t (0, 0) h]; simp
theorem BlkN.frozen (h : BlkN w t g ys) (i : Nat) : w.frozen? ⟨g, i, none⟩ = false := by
  unfold BlkN at h
  simp [World.frozen?, h]
theorem BlkN.new (w : World) (t : TypeId) (ys : List Int) : BlkN (w.alloc (.cells (cellsN ys).toArray t)) t w.heap.size ys := heap_alloc_new w _
theorem BlkN.drewN (h : BlkN w t g ys) (n : Nat) : BlkN (w.drewN n) t g ys := h
theorem BlkN.alloc (h : BlkN w t g ys) (o : Obj) : BlkN (w.alloc o) t g ys := (Below.heap_alloc w o g h.lt).trans h
theorem BlkN.below (h : BlkN w t g ys) (hb : Below B w w') (hg : g < B) : BlkN w' t g ys := (hb.block g hg).trans h
theorem BlkN.far (h : BlkN w t g ys) {p : Addr} (hp : g ≠ p.block) (u : Value) : BlkN (w.setCell p u) t g ys := (Below.heap_setCell w p u g hp).trans h
theorem BlkN.set_ (h : BlkN w t g ys) (i : Nat) (x : Int) : BlkN (w.setCell ⟨g, i, none⟩ (.int .i64 x)) t g (ys.set i x) := by
  have e : cellsN (ys.set i x) = (cellsN ys).set i (.int .i64 x) := by simp [cellsN, List.map_set]
  unfold BlkN at h ⊢
  rw [e]
  simp [World.setCell, Array.getElem?_modify, h]
theorem BlkN.bs (h : BlkN w t g ys) (ha : AllI ys) (hg : g < B) {n : Nat} (hn : ys.length = n) : Ns w B (some ⟨g, 0, none⟩) n ys :=
  ⟨hn, ha, fun _ => ⟨g, 0, rfl, hg, fun i hi => by rw [Nat.zero_add, h.cell i, cellsN_get (by omega)]⟩⟩
theorem BlkN.own {base n : Nat} (h : BlkN w t g ys) (hb : base ≤ g) (hn : ys.length = n) (hm : n ≤ maxLen) : w.ownsRow base t 1 (.slice (some ⟨g, 0, none⟩) n n) n (cellsN ys) :=
  ⟨by rw [cellsN_length]; omega, .inr ⟨g, n, _, rfl, hb, h, Nat.le_refl _, hm, by simp [cellsN_length]; omega, by rw [List.take_of_length_le (by simp [cellsN_length]; omega)]⟩⟩
end

/-- the call hands back ys, n of them, in a block of their own; what was there is as it was -/
def NewN (t : TypeId) (w : World) (n : Nat) (ys : List Int) (v : Value) (w' : World) : Prop :=
  ∃ g, v = .slice (some ⟨g, 0, none⟩) n n ∧ w.heap.size ≤ g ∧ BlkN w' t g ys ∧ ys.length = n ∧ AllI ys ∧ Below w.heap.size w w'


/-- the slice (A, n, c) is a row of the call's own, from block 'base' on, and holds the bytes ys -/
def OwnN (t : TypeId) (w : World) (base : Nat) (A : Option Addr) (n c : Nat) (ys : List Int) : Prop :=
  w.ownsRow base t 1 (.slice A n c) n (cellsN ys) ∧ AllI ys

section
variable {t : TypeId} {w w' : World} {base n c : Nat} {A : Option Addr} {ys : List Int}
theorem OwnN.len (h : OwnN t w base A n c ys) : ys.length = n := by have := h.1.1; rw [cellsN_length] at this; omega
theorem OwnN.bs (h : OwnN t w base A n c ys) {B : Nat} (hB : w.heap.size ≤ B) : Ns w B A n ys := Ns.of_own hB h.2 h.1
theorem OwnN.cap (h : OwnN t w base A n c ys) : n ≤ c ∧ c ≤ maxLen := by
  rcases h.1.2 with ⟨e, hn⟩ | ⟨g, cap, cur, e, _, _, h1, h2, _⟩
  · injection e with _ _ e3
    subst e3 hn
    exact ⟨Nat.le_refl _, Nat.zero_le _⟩
  · injection e with _ _ e3
    subst e3
    exact ⟨h1, h2⟩
theorem OwnN.lt (h : OwnN t w base A n c ys) : ∀ k, (Value.slice A n c).ownBlock = some k → base ≤ k ∧ k < w.heap.size := h.1.lt
theorem OwnN.below (h : OwnN t w base A n c ys) (hb : Below w.heap.size w w') : OwnN t w' base A n c ys := by
  refine ⟨⟨h.1.1, ?_⟩, h.2⟩
  rcases h.1.2 with e | ⟨g, cap, cur, e, hbg, hg, r⟩
  · exact .inl e
  · exact .inr ⟨g, cap, cur, e, hbg, by rw [hb.block g (Array.getElem?_eq_some_iff.1 hg).1]; exact hg, r⟩
theorem OwnN.fresh (w : World) (t : TypeId) (hb : base ≤ w.heap.size) : OwnN t (w.alloc (.cells #[] t)) base (some ⟨w.heap.size, 0, none⟩) 0 0 [] :=
  ⟨World.ownsRow_lit w #[] 0 hb (Nat.zero_le _) rfl, AllI.nil⟩
theorem OwnN.ofBlkN {g : Nat} (h : BlkN w t g ys) (ha : AllI ys) (hb : base ≤ g) (hn : ys.length = n) (hm : n ≤ maxLen) : OwnN t w base (some ⟨g, 0, none⟩) n n ys := ⟨h.own hb hn hm, ha⟩
end

theorem run_append_none_n {P : Program} {w : World} {base : Nat} {t ty e : TypeId} {i : TypeInfo} (ht : P.underlying t = some (.slice e)) (hi : P.info? e = some i)
    {v : Value} {n : Nat} {xs : List Value} (hown : w.ownsRow base e 1 v n xs) (c : Nat) : (Builtin.append_ #[t, t] ty #[v, .slice none 0 c]).run P w = .ok v w := by
  rcases hown.2 with ⟨rfl, rfl⟩ | ⟨g, cap, cur, rfl, _, _, hnc, _⟩
  · simp [Builtin.append_, run_underlying ht, sizeOf, typeInfo, hi, Builtin.lenOf, Builtin.firstCells]
  · simp [Builtin.append_, run_underlying ht, sizeOf, typeInfo, hi, Builtin.lenOf, Builtin.firstCells, hnc, storeCells]

theorem run_append_ns {P : Program} (w : World) (base : Nat) (t ty e : TypeId) (i : TypeInfo) (ht : P.underlying t = some (.slice e)) (hi : P.info? e = some i) (hz : i.zero = some (.int .i64 0))
    (hsize : i.size = 1) (hby : i.bytes = 8) (A0 : Option Addr) (n c0 : Nat) (xs : List Int) (hown : OwnN e w base A0 n c0 xs)
    (A : Option Addr) (m c : Nat) (B : Nat) (ys : List Int) (hs : Ns w B A m ys) (hb : n + m ≤ 17592186044416) (hbase : base ≤ w.heap.size) :
    ∃ A' c' w', (Builtin.append_ #[t, t] ty #[.slice A0 n c0, .slice A m c]).run P w = .ok (.slice A' (n + m) c') w' ∧ OwnN e w' base A' (n + m) c' (xs ++ ys) ∧
      w.grownBy w' (Value.slice A0 n c0).ownBlock ∧ ((Value.slice A' (n + m) c').ownBlock = (Value.slice A0 n c0).ownBlock ∨ (Value.slice A' (n + m) c').ownBlock = some w.heap.size) := by
  have hlen := hs.len
  cases A with
  | none =>
    have hm : m = 0 := by
      rcases Nat.eq_zero_or_pos m with h0 | h0
      · exact h0
      · obtain ⟨b, o, h, _⟩ := hs.mem h0
        cases h
    subst hm
    obtain rfl : ys = [] := List.eq_nil_of_length_eq_zero hlen
    exact ⟨A0, c0, w, run_append_none_n ht hi hown.1 c, by simpa using hown, World.grownBy.refl w _, .inl rfl⟩
  | some ad =>
    have hnews : ∀ j u, (cellsN ys)[j]? = some u → w.cell? (ad.add j) = some u := by
      intro j u hu
      have hpos : 0 < (cellsN ys).length := by have := (List.getElem?_eq_some_iff.1 hu).1; omega
      obtain ⟨ad', e1, h⟩ := hs.src hpos
      injection e1 with e1
      subst e1
      exact h j u hu
    obtain ⟨v', w', hrun, h2, h3, _, h5⟩ := run_append_own_at (P := P) w base t ty e i (.int .i64 0) 1 8 ht hi hz hsize hby rfl (by omega) (.slice A0 n c0) n (cellsN xs) hown.1 ad m c (cellsN ys) (by rw [cellsN_length]; omega) hnews (cellsN_one ys) (by simp only [maxLen]; omega) (by omega) hbase
    rw [← cellsN_append] at h2
    have hform : ∃ A' c', v' = .slice A' (n + m) c' := by
      rcases h2.2 with ⟨e1, e2⟩ | ⟨g, cap, cur, e1, _⟩
      · exact ⟨none, 0, by rw [e1, e2]⟩
      · exact ⟨_, _, e1⟩
    obtain ⟨A', c', rfl⟩ := hform
    exact ⟨A', c', w', hrun, ⟨h2, hown.2.append hs.all⟩, h3, h5⟩

/-- as an operation that is carried out -/
theorem wp_append_ns {P : Program} {w : World} {o : Oper} {a : Act} {K : Act → World → Prop} {Q : Exit → Act → World → Prop} (s x : Operand) (t : TypeId)
    (ho : o.op = .call { callee := .builtin .append, args := #[s, x], argTypes := #[t, t] })
    (base : Nat) (e : TypeId) (i : TypeInfo) (ht : P.underlying t = some (.slice e)) (hi : P.info? e = some i) (hz : i.zero = some (.int .i64 0)) (hsize : i.size = 1) (hby : i.bytes = 8)
    (A0 : Option Addr) (n c0 : Nat) (xs : List Int) (hs : a.eval s = .slice A0 n c0) (hown : OwnN e w base A0 n c0 xs)
    (A : Option Addr) (m c B : Nat) (ys : List Int) (hx : a.eval x = .slice A m c) (hb : Ns w B A m ys) (hn : n + m ≤ 17592186044416) (hbase : base ≤ w.heap.size)
    (h : ∀ A' c' w', OwnN e w' base A' (n + m) c' (xs ++ ys) → w.grownBy w' (Value.slice A0 n c0).ownBlock → ((Value.slice A' (n + m) c').ownBlock = (Value.slice A0 n c0).ownBlock ∨ (Value.slice A' (n + m) c').ownBlock = some w.heap.size) →
      K (a.put o.dst (.slice A' (n + m) c')) w') : o.wp P a w K Q := by
  obtain ⟨A', c', w', hrun, h2, h3, h4⟩ := run_append_ns (P := P) w base t o.type e i ht hi hz hsize hby A0 n c0 xs hown A m c B ys hb hn hbase
  unfold Oper.wp execOp
  simp only [ho, resolve, invoke, builtin, Sem.run_bind, Sem.run_pure, Result.andThen_ok, List.map_toArray, List.map_cons, List.map_nil, hs, hx, hrun]
  exact h A' c' w' h2 h3 h4

theorem wpList_append_ns {P : Program} {w : World} {ops : Array Oper} {rest : List Oper} {o : Oper} {a : Act} {Q : Exit → Act → World → Prop} (hgd : o.guard = none) (s x : Operand) (t : TypeId)
    (ho : o.op = .call { callee := .builtin .append, args := #[s, x], argTypes := #[t, t] })
    (base : Nat) (e : TypeId) (i : TypeInfo) (ht : P.underlying t = some (.slice e)) (hi : P.info? e = some i) (hz : i.zero = some (.int .i64 0)) (hsize : i.size = 1) (hby : i.bytes = 8)
    (A0 : Option Addr) (n c0 : Nat) (xs : List Int) (hs : a.eval s = .slice A0 n c0) (hown : OwnN e w base A0 n c0 xs)
    (A : Option Addr) (m c B : Nat) (ys : List Int) (hx : a.eval x = .slice A m c) (hb : Ns w B A m ys) (hn : n + m ≤ 17592186044416) (hbase : base ≤ w.heap.size)
    (h : ∀ A' c' w', OwnN e w' base A' (n + m) c' (xs ++ ys) → w.grownBy w' (Value.slice A0 n c0).ownBlock → ((Value.slice A' (n + m) c').ownBlock = (Value.slice A0 n c0).ownBlock ∨ (Value.slice A' (n + m) c').ownBlock = some w.heap.size) →
      wpList P ops Q rest (a.put o.dst (.slice A' (n + m) c')) w') : wpList P ops Q (o :: rest) a w :=
  wpList_plain hgd fun _ hK => wp_append_ns s x t ho base e i ht hi hz hsize hby A0 n c0 xs hs hown A m c B ys hx hb hn hbase fun A' c' w' h2 h3 h4 => hK _ _ (h A' c' w' h2 h3 h4)
end Go.Proofs.Ythbboiolhejmmaa
