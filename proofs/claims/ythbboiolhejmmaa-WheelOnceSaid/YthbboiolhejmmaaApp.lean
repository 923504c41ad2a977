/- append of bytes onto a row of the call's own, the source nil or not: one law. Condition: together at most 2^47 bytes. -/
import Derived.Test.YthbboiolhejmmaaBytes
import Derived.Maps.AppendAt
set_option maxRecDepth 100000
namespace Go.Proofs.Ythbboiolhejmmaa
open Go.RowKit

/-- the slice (A, n, c) is a row of the call's own, from block 'base' on, and holds the bytes ys -/
def OwnB (t : TypeId) (w : World) (base : Nat) (A : Option Addr) (n c : Nat) (ys : List Int) : Prop :=
  w.ownsRow base t 1 (.slice A n c) n (cellsB ys) ∧ AllB ys

section
variable {t : TypeId} {w w' : World} {base n c : Nat} {A : Option Addr} {ys : List Int}
theorem OwnB.len (h : OwnB t w base A n c ys) : ys.length = n := by have := h.1.1; rw [cellsB_length] at this; omega
theorem OwnB.bs (h : OwnB t w base A n c ys) {B : Nat} (hB : w.heap.size ≤ B) : Bs w B A n ys := Bs.of_own hB h.2 h.1
theorem OwnB.cap (h : OwnB t w base A n c ys) : n ≤ c ∧ c ≤ maxLen := by
  rcases h.1.2 with ⟨e, hn⟩ | ⟨g, cap, cur, e, _, _, h1, h2, _⟩
  · injection e with _ _ e3
    subst e3 hn
    exact ⟨Nat.le_refl _, Nat.zero_le _⟩
  · injection e with _ _ e3
    subst e3
    exact ⟨h1, h2⟩
theorem OwnB.lt (h : OwnB t w base A n c ys) : ∀ k, (Value.slice A n c).ownBlock = some k → base ≤ k ∧ k < w.heap.size := h.1.lt
theorem OwnB.below (h : OwnB t w base A n c ys) (hb : Below w.heap.size w w') : OwnB t w' base A n c ys := by
  refine ⟨⟨h.1.1, ?_⟩, h.2⟩
  rcases h.1.2 with e | ⟨g, cap, cur, e, hbg, hg, r⟩
  · exact .inl e
  · exact .inr ⟨g, cap, cur, e, hbg, by rw [hb.block g (Array.getElem?_eq_some_iff.1 hg).1]; exact hg, r⟩
theorem OwnB.fresh (w : World) (t : TypeId) (hb : base ≤ w.heap.size) : OwnB t (w.alloc (.cells #[] t)) base (some ⟨w.heap.size, 0, none⟩) 0 0 [] :=
  ⟨World.ownsRow_lit w #[] 0 hb (Nat.zero_le _) rfl, AllB.nil⟩
theorem OwnB.ofBlk {g : Nat} (h : Blk w t g ys) (ha : AllB ys) (hb : base ≤ g) (hn : ys.length = n) (hm : n ≤ maxLen) : OwnB t w base (some ⟨g, 0, none⟩) n n ys := ⟨h.own hb hn hm, ha⟩
end

theorem run_append_none {P : Program} {w : World} {base : Nat} {t ty e : TypeId} {i : TypeInfo} (ht : P.underlying t = some (.slice e)) (hi : P.info? e = some i)
    {v : Value} {n : Nat} {xs : List Value} (hown : w.ownsRow base e 1 v n xs) (c : Nat) : (Builtin.append_ #[t, t] ty #[v, .slice none 0 c]).run P w = .ok v w := by
  rcases hown.2 with ⟨rfl, rfl⟩ | ⟨g, cap, cur, rfl, _, _, hnc, _⟩
  · simp [Builtin.append_, run_underlying ht, sizeOf, typeInfo, hi, Builtin.lenOf, Builtin.firstCells]
  · simp [Builtin.append_, run_underlying ht, sizeOf, typeInfo, hi, Builtin.lenOf, Builtin.firstCells, hnc, storeCells]

theorem run_append_bs {P : Program} (w : World) (base : Nat) (t ty e : TypeId) (i : TypeInfo) (ht : P.underlying t = some (.slice e)) (hi : P.info? e = some i) (hz : i.zero = some (.int .u8 0))
    (hsize : i.size = 1) (hby : i.bytes = 1) (A0 : Option Addr) (n c0 : Nat) (xs : List Int) (hown : OwnB e w base A0 n c0 xs)
    (A : Option Addr) (m c : Nat) (B : Nat) (ys : List Int) (hs : Bs w B A m ys) (hb : n + m ≤ 140737488355328) (hbase : base ≤ w.heap.size) :
    ∃ A' c' w', (Builtin.append_ #[t, t] ty #[.slice A0 n c0, .slice A m c]).run P w = .ok (.slice A' (n + m) c') w' ∧ OwnB e w' base A' (n + m) c' (xs ++ ys) ∧
      w.grownBy w' (Value.slice A0 n c0).ownBlock ∧ ((Value.slice A' (n + m) c').ownBlock = (Value.slice A0 n c0).ownBlock ∨ (Value.slice A' (n + m) c').ownBlock = some w.heap.size) := by
  have hlen := hs.len
  cases A with
  | none =>
    have hm : m = 0 := by
      rcases Nat.eq_zero_or_pos m with h0 | h0
      · exact h0
      · obtain ⟨b, o, h, _⟩ := hs.mem h0
        cases h
    subst hm
    obtain rfl : ys = [] := List.eq_nil_of_length_eq_zero hlen
    exact ⟨A0, c0, w, run_append_none ht hi hown.1 c, by simpa using hown, World.grownBy.refl w _, .inl rfl⟩
  | some ad =>
    have hnews : ∀ j u, (cellsB ys)[j]? = some u → w.cell? (ad.add j) = some u := by
      intro j u hu
      have hpos : 0 < (cellsB ys).length := by have := (List.getElem?_eq_some_iff.1 hu).1; omega
      obtain ⟨ad', e1, h⟩ := hs.src hpos
      injection e1 with e1
      subst e1
      exact h j u hu
    obtain ⟨v', w', hrun, h2, h3, _, h5⟩ := run_append_own_at (P := P) w base t ty e i (.int .u8 0) 1 1 ht hi hz hsize hby rfl (by omega) (.slice A0 n c0) n (cellsB xs) hown.1 ad m c (cellsB ys) (by rw [cellsB_length]; omega) hnews (cellsB_one ys) (by simp only [maxLen]; omega) (by omega) hbase
    rw [← cellsB_append] at h2
    have hform : ∃ A' c', v' = .slice A' (n + m) c' := by
      rcases h2.2 with ⟨e1, e2⟩ | ⟨g, cap, cur, e1, _⟩
      · exact ⟨none, 0, by rw [e1, e2]⟩
      · exact ⟨_, _, e1⟩
    obtain ⟨A', c', rfl⟩ := hform
    exact ⟨A', c', w', hrun, ⟨h2, hown.2.append hs.all⟩, h3, h5⟩

/-- as an operation that is carried out -/
theorem wp_append_bs {P : Program} {w : World} {o : Oper} {a : Act} {K : Act → World → Prop} {Q : Exit → Act → World → Prop} (s x : Operand) (t : TypeId)
    (ho : o.op = .call { callee := .builtin .append, args := #[s, x], argTypes := #[t, t] })
    (base : Nat) (e : TypeId) (i : TypeInfo) (ht : P.underlying t = some (.slice e)) (hi : P.info? e = some i) (hz : i.zero = some (.int .u8 0)) (hsize : i.size = 1) (hby : i.bytes = 1)
    (A0 : Option Addr) (n c0 : Nat) (xs : List Int) (hs : a.eval s = .slice A0 n c0) (hown : OwnB e w base A0 n c0 xs)
    (A : Option Addr) (m c B : Nat) (ys : List Int) (hx : a.eval x = .slice A m c) (hb : Bs w B A m ys) (hn : n + m ≤ 140737488355328) (hbase : base ≤ w.heap.size)
    (h : ∀ A' c' w', OwnB e w' base A' (n + m) c' (xs ++ ys) → w.grownBy w' (Value.slice A0 n c0).ownBlock → ((Value.slice A' (n + m) c').ownBlock = (Value.slice A0 n c0).ownBlock ∨ (Value.slice A' (n + m) c').ownBlock = some w.heap.size) →
      K (a.put o.dst (.slice A' (n + m) c')) w') : o.wp P a w K Q := by
  obtain ⟨A', c', w', hrun, h2, h3, h4⟩ := run_append_bs (P := P) w base t o.type e i ht hi hz hsize hby A0 n c0 xs hown A m c B ys hb hn hbase
  unfold Oper.wp execOp
  simp only [ho, resolve, invoke, builtin, Sem.run_bind, Sem.run_pure, Result.andThen_ok, List.map_toArray, List.map_cons, List.map_nil, hs, hx, hrun]
  exact h A' c' w' h2 h3 h4

theorem wpList_append_bs {P : Program} {w : World} {ops : Array Oper} {rest : List Oper} {o : Oper} {a : Act} {Q : Exit → Act → World → Prop} (hgd : o.guard = none) (s x : Operand) (t : TypeId)
    (ho : o.op = .call { callee := .builtin .append, args := #[s, x], argTypes := #[t, t] })
    (base : Nat) (e : TypeId) (i : TypeInfo) (ht : P.underlying t = some (.slice e)) (hi : P.info? e = some i) (hz : i.zero = some (.int .u8 0)) (hsize : i.size = 1) (hby : i.bytes = 1)
    (A0 : Option Addr) (n c0 : Nat) (xs : List Int) (hs : a.eval s = .slice A0 n c0) (hown : OwnB e w base A0 n c0 xs)
    (A : Option Addr) (m c B : Nat) (ys : List Int) (hx : a.eval x = .slice A m c) (hb : Bs w B A m ys) (hn : n + m ≤ 140737488355328) (hbase : base ≤ w.heap.size)
    (h : ∀ A' c' w', OwnB e w' base A' (n + m) c' (xs ++ ys) → w.grownBy w' (Value.slice A0 n c0).ownBlock → ((Value.slice A' (n + m) c').ownBlock = (Value.slice A0 n c0).ownBlock ∨ (Value.slice A' (n + m) c').ownBlock = some w.heap.size) →
      wpList P ops Q rest (a.put o.dst (.slice A' (n + m) c')) w') : wpList P ops Q (o :: rest) a w :=
  wpList_plain hgd fun _ hK => wp_append_bs s x t ho base e i ht hi hz hsize hby A0 n c0 xs hs hown A m c B ys hx hb hn hbase fun A' c' w' h2 h3 h4 => hK _ _ (h A' c' w' h2 h3 h4)
end Go.Proofs.Ythbboiolhejmmaa
