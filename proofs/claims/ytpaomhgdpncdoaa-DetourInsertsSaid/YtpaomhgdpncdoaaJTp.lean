/- Texts joined.
  Plain words for slices of options (an int and a slice of bytes) in memory: what such a slice reads as, how that is kept while memory grows; append onto a row of the call's own. No condition.
  The page's words on options, as functions of lists: whether they can be, their bytes, the options of bytes; what was put is parsed as what it was. No program here.
  What the document's own Same answers: are two lists of options the same? Condition: at most 2^47 options.
  How long the data of a kind must be: what topt.fits and the document's own Long answer. Condition: the kind is an int.
  A range over a function that hands out lists of bytes which lie in memory: a law for the caller whose body may read each of them. No condition.
  topt.laid: the function that it hands back goes over the bytes of options, part by part. Condition: at most 2^47 options.
  What topt.Can answers: whether options can be. Condition: at most 2^47 options.
  What topt.Put answers: the bytes of options. Condition: at most 2^47 options.
  What topt.take and topt.Parse answer: the options of bytes. Condition: at most 2^47 bytes.
  What topt.Parse answers: the options of bytes. Condition: at most 2^47 bytes.
  What the document's own Parse answers: the options of bytes. Condition: at most 40 bytes where they are gone over.
  What Find answers, topt's and the document's: the data of the first option of a kind. Condition: at most 2^47 options.
-/
import Derived.Test.YtpaomhgdpncdoaaJOct
import Derived.Test.YtpaomhgdpncdoaaApp
import Derived.Test.YtpaomhgdpncdoaaJReg
import Derived.WalkMore
import Derived.Lib.Bytes
import Derived.Maps.OwnSet
import Derived.Test.YtpaomhgdpncdoaaBytes
import Derived.RangeFuncNested
import Derived.RangeFuncCalls
import Derived.RangeFuncLeaves
import Derived.WalkKit
import Derived.OwnWalkIn
import Derived.TacticsInMore
import Derived.LoopNIn
import Derived.LoopIn
import Derived.Test.YtpaomhgdpncdoaaVals
namespace Go.Proofs.Ytpaomhgdpncdoaa
open Go.RowKit
set_option linter.unusedVariables false

/-- an option as it lies: its kind; where its data is, how long, with how much room; the data -/
structure Od where
  k : Int
  A : Option Addr
  n : Nat
  c : Nat
  d : List Int
/-- what an option says -/
abbrev Ob := Int × List Int
def Od.v (o : Od) : Ob := (o.k, o.d)
def zeroO : Od := ⟨0, none, 0, 0, []⟩
def zeroB : Ob := (0, [])
/-- its data lies below block B -/
def Od.ok (w : World) (B : Nat) (o : Od) : Prop := i64ok o.k ∧ o.n ≤ 140737488355328 ∧ Bs w B o.A o.n o.d
theorem zeroO_ok (w : World) (B : Nat) : zeroO.ok w B := ⟨by simp [zeroO, i64ok], by simp [zeroO], Bs.nil w B none⟩
theorem Od.ok.keep {w w' : World} {B : Nat} {o : Od} (h : o.ok w B) (hk : ∀ p : Addr, p.block < B → w'.cell? p = w.cell? p) : o.ok w' B := ⟨h.1, h.2.1, h.2.2.keep hk⟩
theorem Od.ok.more {w : World} {B B' : Nat} {o : Od} (h : o.ok w B) (hB : B ≤ B') : o.ok w B' := ⟨h.1, h.2.1, h.2.2.more hB⟩

/-- the cells of a list of such -/
def odC (o : Od) : List Value := [.int .i64 o.k, .slice o.A o.n o.c]
def cellsO (os : List Od) : List Value := os.flatMap odC
theorem cellsO_nil : cellsO [] = [] := rfl
theorem cellsO_cons (o : Od) (os : List Od) : cellsO (o :: os) = .int .i64 o.k :: .slice o.A o.n o.c :: cellsO os := rfl
theorem cellsO_append (xs ys : List Od) : cellsO (xs ++ ys) = cellsO xs ++ cellsO ys := by simp [cellsO]
theorem cellsO_length : ∀ os : List Od, (cellsO os).length = os.length * 2
  | [] => rfl
  | o :: os => by rw [cellsO_cons]; simp only [List.length_cons, cellsO_length os]; omega
theorem cellsO_one : ∀ (os : List Od), ∀ u ∈ cellsO os, u.oneCell' = true
  | [], u, h => by cases h
  | o :: os, u, h => by
    rw [cellsO_cons] at h
    simp only [List.mem_cons] at h
    rcases h with rfl | rfl | h
    · rfl
    · rfl
    · exact cellsO_one os u h
theorem cellsO_get : ∀ (os : List Od) (i : Nat), i < os.length → (cellsO os)[i * 2]? = some (.int .i64 (os.getD i zeroO).k) ∧ (cellsO os)[i * 2 + 1]? = some (.slice (os.getD i zeroO).A (os.getD i zeroO).n (os.getD i zeroO).c)
  | [], i, h => by simp at h
  | o :: os, 0, _ => ⟨rfl, rfl⟩
  | o :: os, i + 1, h => by
    have ih := cellsO_get os i (by simpa using h)
    rw [cellsO_cons, show (i + 1) * 2 = i * 2 + 1 + 1 by omega]
    simp only [List.getElem?_cons_succ, List.getD_cons_succ]
    exact ih

/-- the slice at A, n long, holds os, below block B -/
structure Os (w : World) (B : Nat) (A : Option Addr) (n : Nat) (os : List Od) : Prop where
  len : os.length = n
  all : ∀ o ∈ os, o.ok w B
  mem : 0 < n → ∃ b o, A = some ⟨b, o, none⟩ ∧ b < B ∧ ∀ i, i < n → w.cell? ⟨b, o + i * 2, none⟩ = some (.int .i64 (os.getD i zeroO).k) ∧ w.cell? ⟨b, o + i * 2 + 1, none⟩ = some (.slice (os.getD i zeroO).A (os.getD i zeroO).n (os.getD i zeroO).c)

theorem getD_mem {os : List Od} {i : Nat} (h : i < os.length) : os.getD i zeroO ∈ os := by
  have e : os.getD i zeroO = os[i] := by simp [List.getD, h]
  rw [e]; exact List.getElem_mem h

section
variable {w w' : World} {B B' n : Nat} {A : Option Addr} {os : List Od}
theorem Os.nil (w : World) (B : Nat) (A : Option Addr) : Os w B A 0 [] := ⟨rfl, fun _ h => (by cases h), fun h => absurd h (by omega)⟩
theorem Os.keep (h : Os w B A n os) (hk : ∀ p : Addr, p.block < B → w'.cell? p = w.cell? p) : Os w' B A n os :=
  ⟨h.len, fun o ho => (h.all o ho).keep hk, fun hn => by
    obtain ⟨b, o, e, hb, hc⟩ := h.mem hn
    exact ⟨b, o, e, hb, fun i hi => ⟨(hk _ hb).trans (hc i hi).1, (hk _ hb).trans (hc i hi).2⟩⟩⟩
theorem Os.more (h : Os w B A n os) (hB : B ≤ B') : Os w B' A n os :=
  ⟨h.len, fun o ho => (h.all o ho).more hB, fun hn => by
    obtain ⟨b, o, e, hb, hc⟩ := h.mem hn
    exact ⟨b, o, e, by omega, hc⟩⟩
theorem Os.below (h : Os w B A n os) (hb : Below B w w') : Os w' B A n os := h.keep fun _ hp => hb.cell hp
theorem Os.below' (h : Os w B A n os) (hb : Below B w w') (hB : B ≤ B') : Os w' B' A n os := (h.below hb).more hB
theorem Os.at_ (h : Os w B A n os) {i : Nat} (hi : i < n) : (os.getD i zeroO).ok w B := h.all _ (getD_mem (by rw [h.len]; exact hi))
theorem Os.src (h : Os w B A n os) (hp : 0 < (cellsO os).length) : ∃ ad, A = some ad ∧ ∀ j v, (cellsO os)[j]? = some v → w.cell? (ad.add j) = some v := by
  rw [cellsO_length, h.len] at hp
  obtain ⟨b, o, rfl, _, hc⟩ := h.mem (by omega)
  refine ⟨_, rfl, fun j v hv => ?_⟩
  have hl := h.len
  have hj : j < os.length * 2 := by have := (List.getElem?_eq_some_iff.1 hv).1; rwa [cellsO_length] at this
  have hq : j / 2 < os.length := by omega
  have hg := cellsO_get os (j / 2) hq
  have hk := hc (j / 2) (by omega)
  rw [Addr.add_lit]
  have h3 : j = j / 2 * 2 ∨ j = j / 2 * 2 + 1 := by omega
  rcases h3 with e | e
  · rw [← e] at hg hk
    rw [hg.1] at hv
    rw [hk.1]; exact hv
  · have e2 : o + j = o + j / 2 * 2 + 1 := by omega
    rw [e2, hk.2]
    rw [e, hg.2] at hv
    exact hv
theorem Os.of_cells (hl : os.length = n) (ha : ∀ o ∈ os, o.ok w B) {b o : Nat} (hb : b < B) (hc : ∀ j v, (cellsO os)[j]? = some v → w.cell? ⟨b, o + j, none⟩ = some v) : Os w B (some ⟨b, o, none⟩) n os :=
  ⟨hl, ha, fun _ => ⟨b, o, rfl, hb, fun i hi => by
    have hg := cellsO_get os i (by omega)
    have h1 := hc _ _ hg.1
    have h2 := hc _ _ hg.2
    rw [← Nat.add_assoc] at h2
    exact ⟨h1, h2⟩⟩⟩
theorem Os.one (w : World) (t : TypeId) (o : Od) {B : Nat} (ho : o.ok w w.heap.size) (hB : w.heap.size < B) : Os (w.alloc (.cells #[.int .i64 o.k, .slice o.A o.n o.c] t)) B (some ⟨w.heap.size, 0, none⟩) 1 [o] :=
  Os.of_cells (os := [o]) rfl (fun p hp => by
    obtain rfl : p = o := by simpa using hp
    exact (ho.keep fun q hq => World.cell?_alloc_lt w _ q hq).more (by omega)) hB fun j v hv => by
    have hj : j < 2 := by have := (List.getElem?_eq_some_iff.1 hv).1; rwa [cellsO_length] at this
    rw [Nat.zero_add, cell_of_row _ w.heap.size j _ t (0, 0) (heap_alloc_new w _)]
    have e : (#[.int .i64 o.k, .slice o.A o.n o.c] : Array Value)[j]? = (cellsO [o])[j]? := by
      rw [cellsO_cons, cellsO_nil, ← List.getElem?_toArray]
    rw [e]; exact hv
end

/-- the slice (A, n, c) is a row of the call's own, from block 'base' on, and its cells are those of os -/
def OwnO (t : TypeId) (w : World) (base : Nat) (A : Option Addr) (n c : Nat) (os : List Od) : Prop := w.ownsRow base t 2 (.slice A n c) n (cellsO os)
/-- the data of an option lies in another block than X -/
def Od.off (w : World) (X : Option Nat) (o : Od) : Prop := i64ok o.k ∧ o.n ≤ 140737488355328 ∧ o.d.length = o.n ∧ AllB o.d ∧ (0 < o.n → ∃ b p, o.A = some ⟨b, p, none⟩ ∧ b < w.heap.size ∧ some b ≠ X ∧ ∀ i, i < o.n → w.cell? ⟨b, p + i, none⟩ = some (.int .u8 (o.d.getD i 0)))
theorem Od.off.ok {w : World} {X : Option Nat} {o : Od} (h : o.off w X) : o.ok w w.heap.size := ⟨h.1, h.2.1, h.2.2.1, h.2.2.2.1, fun hn => by
  obtain ⟨b, p, e, hb, _, hc⟩ := h.2.2.2.2 hn
  exact ⟨b, p, e, hb, hc⟩⟩
theorem Od.off.grown {w w' : World} {X X' : Option Nat} {o : Od} (h : o.off w X) (hg : w.grownBy w' X) (hX : X' = X ∨ X' = some w.heap.size) : o.off w' X' := ⟨h.1, h.2.1, h.2.2.1, h.2.2.2.1, fun hn => by
  obtain ⟨b, p, e, hb, hx, hc⟩ := h.2.2.2.2 hn
  refine ⟨b, p, e, Nat.lt_of_lt_of_le hb hg.size, ?_, fun i hi => (World.cell?_of_block (hg.block b hb hx)).trans (hc i hi)⟩
  rcases hX with rfl | rfl
  · exact hx
  · intro e; injection e with e; omega⟩
theorem Od.off.below {w w' : World} {X : Option Nat} {o : Od} (h : o.off w X) (hb : Below w.heap.size w w') : o.off w' X := ⟨h.1, h.2.1, h.2.2.1, h.2.2.2.1, fun hn => by
  obtain ⟨b, p, e, hlt, hx, hc⟩ := h.2.2.2.2 hn
  exact ⟨b, p, e, Nat.lt_of_lt_of_le hlt hb.size, hx, fun i hi => (hb.cell (p := ⟨b, p + i, none⟩) hlt).trans (hc i hi)⟩⟩
theorem Od.off.nul (w : World) (X : Option Nat) (k : Int) (c : Nat) (hk : i64ok k) : Od.off w X ⟨k, none, 0, c, []⟩ := ⟨hk, Nat.zero_le _, rfl, AllB.nil, fun h => absurd h (by show ¬ 0 < 0; omega)⟩
theorem Od.off.new {w w' : World} {t : TypeId} {X : Option Nat} {k : Int} {n c : Nat} {ys : List Int} {g : Nat} (hk : i64ok k) (hn : n ≤ 140737488355328) (hl : ys.length = n) (ha : AllB ys) (hb : Blk w' t g ys) (hg : w.heap.size ≤ g) (hX : ∀ x, X = some x → x < w.heap.size) : Od.off w' X ⟨k, some ⟨g, 0, none⟩, n, c, ys⟩ :=
  ⟨hk, hn, hl, ha, fun _ => ⟨g, 0, rfl, hb.lt, fun e => by have := hX g e.symm; omega, fun i hi => by
    have hi' : i < ys.length := by rw [hl]; exact hi
    rw [Nat.zero_add, hb.cell i, cellsB_get hi']⟩⟩

section
variable {t : TypeId} {w w' : World} {base n c : Nat} {A : Option Addr} {os : List Od}
theorem OwnO.len (h : OwnO t w base A n c os) : os.length = n := by have := h.1; rw [cellsO_length] at this; omega
theorem OwnO.lt (h : OwnO t w base A n c os) : ∀ k, (Value.slice A n c).ownBlock = some k → base ≤ k ∧ k < w.heap.size := World.ownsRow.lt h
theorem OwnO.below (h : OwnO t w base A n c os) (hb : Below w.heap.size w w') : OwnO t w' base A n c os := by
  refine ⟨h.1, ?_⟩
  rcases h.2 with e | ⟨g, cap, cur, e, hbg, hg, r⟩
  · exact .inl e
  · exact .inr ⟨g, cap, cur, e, hbg, by rw [hb.block g (Array.getElem?_eq_some_iff.1 hg).1]; exact hg, r⟩
theorem OwnO.none_ (t : TypeId) (w : World) (base : Nat) : OwnO t w base none 0 0 [] := ⟨rfl, .inl ⟨rfl, rfl⟩⟩
theorem OwnO.one (w : World) (t : TypeId) (o : Od) (hb : base ≤ w.heap.size) : OwnO t (w.alloc (.cells #[.int .i64 o.k, .slice o.A o.n o.c] t)) base (some ⟨w.heap.size, 0, none⟩) 1 1 [o] :=
  ⟨rfl, .inr ⟨w.heap.size, 1, _, rfl, hb, heap_alloc_new w _, Nat.le_refl _, by simp [maxLen], rfl, rfl⟩⟩
theorem OwnO.lies (h : OwnO t w base A n c os) {B : Nat} (hB : w.heap.size ≤ B) (ha : ∀ o ∈ os, o.ok w B) : Os w B A n os := by
  refine ⟨h.len, ha, fun hn => ?_⟩
  obtain ⟨g, cap, hv, _, hlt⟩ := World.ownsRow.form h hn
  have hA : A = some ⟨g, 0, none⟩ := by injection hv
  subst hA
  have hr : Os w B (some ⟨g, 0, none⟩) n os := Os.of_cells h.len ha (by omega) fun j v hv => by
    have := World.ownsRow.cells h (g := g) rfl j v hv
    simpa [Addr.add_lit] using this
  exact hr.mem hn
end

theorem run_append_none_o {P : Program} {w : World} {base : Nat} {t ty e : TypeId} {i : TypeInfo} (ht : P.underlying t = some (.slice e)) (hi : P.info? e = some i)
    {v : Value} {n : Nat} {xs : List Value} (hown : w.ownsRow base e 2 v n xs) (c : Nat) : (Builtin.append_ #[t, t] ty #[v, .slice none 0 c]).run P w = .ok v w := by
  rcases hown.2 with ⟨rfl, rfl⟩ | ⟨g, cap, cur, rfl, _, _, hnc, _⟩
  · simp [Builtin.append_, run_underlying ht, sizeOf, typeInfo, hi, Builtin.lenOf, Builtin.firstCells]
  · simp [Builtin.append_, run_underlying ht, sizeOf, typeInfo, hi, Builtin.lenOf, Builtin.firstCells, hnc, storeCells]

def zeroOV : Value := .agg #[.int .i64 0, .slice none 0 0]
theorem run_append_os {P : Program} (w : World) (base : Nat) (t ty e : TypeId) (i : TypeInfo) (ht : P.underlying t = some (.slice e)) (hi : P.info? e = some i) (hz : i.zero = some zeroOV)
    (hsize : i.size = 2) (hby : i.bytes = 32) (A0 : Option Addr) (n c0 : Nat) (xs : List Od) (hown : OwnO e w base A0 n c0 xs)
    (A : Option Addr) (m c : Nat) (B : Nat) (ys : List Od) (hs : Os w B A m ys) (hb : n + m ≤ 4294967296) (hbase : base ≤ w.heap.size) :
    ∃ A' c' w', (Builtin.append_ #[t, t] ty #[.slice A0 n c0, .slice A m c]).run P w = .ok (.slice A' (n + m) c') w' ∧ OwnO e w' base A' (n + m) c' (xs ++ ys) ∧
      w.grownBy w' (Value.slice A0 n c0).ownBlock ∧ ((Value.slice A' (n + m) c').ownBlock = (Value.slice A0 n c0).ownBlock ∨ (Value.slice A' (n + m) c').ownBlock = some w.heap.size) := by
  have hlen := hs.len
  cases A with
  | none =>
    have hm : m = 0 := by
      rcases Nat.eq_zero_or_pos m with h0 | h0
      · exact h0
      · obtain ⟨b, o, h, _⟩ := hs.mem h0
        cases h
    subst hm
    obtain rfl : ys = [] := List.eq_nil_of_length_eq_zero hlen
    exact ⟨A0, c0, w, run_append_none_o ht hi hown c, by simpa using hown, World.grownBy.refl w _, .inl rfl⟩
  | some ad =>
    have hnews : ∀ j u, (cellsO ys)[j]? = some u → w.cell? (ad.add j) = some u := by
      intro j u hu
      have hpos : 0 < (cellsO ys).length := by have := (List.getElem?_eq_some_iff.1 hu).1; omega
      obtain ⟨ad', e1, h⟩ := hs.src hpos
      injection e1 with e1
      subst e1
      exact h j u hu
    obtain ⟨v', w', hrun, h2, h3, _, h5⟩ := run_append_own_at (P := P) w base t ty e i zeroOV 2 32 ht hi hz hsize hby rfl (by omega) (.slice A0 n c0) n (cellsO xs) hown ad m c (cellsO ys) (by rw [cellsO_length]; omega) hnews (cellsO_one ys) (by simp only [maxLen]; omega) (by omega) hbase
    rw [← cellsO_append] at h2
    have hform : ∃ A' c', v' = .slice A' (n + m) c' := by
      rcases h2.2 with ⟨e1, e2⟩ | ⟨g, cap, cur, e1, _⟩
      · exact ⟨none, 0, by rw [e1, e2]⟩
      · exact ⟨_, _, e1⟩
    obtain ⟨A', c', rfl⟩ := hform
    exact ⟨A', c', w', hrun, h2, h3, h5⟩

/-- as an operation that is carried out -/
theorem wp_append_os {P : Program} {w : World} {o : Oper} {a : Act} {K : Act → World → Prop} {Q : Exit → Act → World → Prop} (s x : Operand) (t : TypeId)
    (ho : o.op = .call { callee := .builtin .append, args := #[s, x], argTypes := #[t, t] })
    (base : Nat) (e : TypeId) (i : TypeInfo) (ht : P.underlying t = some (.slice e)) (hi : P.info? e = some i) (hz : i.zero = some zeroOV) (hsize : i.size = 2) (hby : i.bytes = 32)
    (A0 : Option Addr) (n c0 : Nat) (xs : List Od) (hs : a.eval s = .slice A0 n c0) (hown : OwnO e w base A0 n c0 xs)
    (A : Option Addr) (m c B : Nat) (ys : List Od) (hx : a.eval x = .slice A m c) (hb : Os w B A m ys) (hn : n + m ≤ 4294967296) (hbase : base ≤ w.heap.size)
    (h : ∀ A' c' w', OwnO e w' base A' (n + m) c' (xs ++ ys) → w.grownBy w' (Value.slice A0 n c0).ownBlock → ((Value.slice A' (n + m) c').ownBlock = (Value.slice A0 n c0).ownBlock ∨ (Value.slice A' (n + m) c').ownBlock = some w.heap.size) →
      K (a.put o.dst (.slice A' (n + m) c')) w') : o.wp P a w K Q := by
  obtain ⟨A', c', w', hrun, h2, h3, h4⟩ := run_append_os (P := P) w base t o.type e i ht hi hz hsize hby A0 n c0 xs hown A m c B ys hb hn hbase
  unfold Oper.wp execOp
  simp only [ho, resolve, invoke, builtin, Sem.run_bind, Sem.run_pure, Result.andThen_ok, List.map_toArray, List.map_cons, List.map_nil, hs, hx, hrun]
  exact h A' c' w' h2 h3 h4
theorem wpList_append_os {P : Program} {w : World} {ops : Array Oper} {rest : List Oper} {o : Oper} {a : Act} {Q : Exit → Act → World → Prop} (hgd : o.guard = none) (s x : Operand) (t : TypeId)
    (ho : o.op = .call { callee := .builtin .append, args := #[s, x], argTypes := #[t, t] })
    (base : Nat) (e : TypeId) (i : TypeInfo) (ht : P.underlying t = some (.slice e)) (hi : P.info? e = some i) (hz : i.zero = some zeroOV) (hsize : i.size = 2) (hby : i.bytes = 32)
    (A0 : Option Addr) (n c0 : Nat) (xs : List Od) (hs : a.eval s = .slice A0 n c0) (hown : OwnO e w base A0 n c0 xs)
    (A : Option Addr) (m c B : Nat) (ys : List Od) (hx : a.eval x = .slice A m c) (hb : Os w B A m ys) (hn : n + m ≤ 4294967296) (hbase : base ≤ w.heap.size)
    (h : ∀ A' c' w', OwnO e w' base A' (n + m) c' (xs ++ ys) → w.grownBy w' (Value.slice A0 n c0).ownBlock → ((Value.slice A' (n + m) c').ownBlock = (Value.slice A0 n c0).ownBlock ∨ (Value.slice A' (n + m) c').ownBlock = some w.heap.size) →
      wpList P ops Q rest (a.put o.dst (.slice A' (n + m) c')) w') : wpList P ops Q (o :: rest) a w :=
  wpList_plain hgd fun _ hK => wp_append_os s x t ho base e i ht hi hz hsize hby A0 n c0 xs hs hown A m c B ys hx hb hn hbase fun A' c' w' h2 h3 h4 => hK _ _ (h A' c' w' h2 h3 h4)
end Go.Proofs.Ytpaomhgdpncdoaa

namespace Go.Proofs.Ytpaomhgdpncdoaa
open Go.RowKit
set_option linter.unusedVariables false

/-- how long the data of a kind must be; below 0: any -/
def longR (k : Int) : Int := if k = 1 ∨ k = 4 then 0 else if k = 2 then 2 else if k = 3 then 1 else if k = 8 then 8 else -1
def fitsO (k : Int) (n : Nat) : Bool := decide (longR k < 0) || decide (longR k = n)
theorem longR_range (k : Int) : -1 ≤ longR k ∧ longR k ≤ 8 := by
  unfold longR
  repeat' split
  all_goals omega
/-- option by option -/
def chkO : List Ob → Int
  | [] => 0
  | o :: l => if o.1 < 1 ∨ 255 < o.1 then 2 else if fitsO o.1 o.2.length = false then 5 else chkO l
def sizeO (o : Ob) : Nat := if o.1 = 1 then 1 else 2 + o.2.length
def sumO (l : List Ob) : Nat := (l.map sizeO).sum
def canO (l : List Ob) : Int := if chkO l = 0 then (if 40 < sumO l then 8 else 0) else chkO l
/-- what stands ahead of an option's data -/
def headO (o : Ob) : List Int := if o.1 = 1 then [1] else [o.1 % 256, (2 + (o.2.length : Int)) % 256]
def flatO (l : List Ob) : List Int := l.flatMap fun o => headO o ++ o.2
def padN (n : Nat) : Nat := (4 - n % 4) % 4
def padO (xs : List Int) : List Int := xs ++ List.replicate (padN xs.length) 0
def putO (l : List Ob) : List Int := if canO l = 0 then padO (flatO l) else []

theorem chkO_err : ∀ l : List Ob, chkO l = 0 ∨ chkO l = 2 ∨ chkO l = 5
  | [] => .inl rfl
  | o :: l => by
    unfold chkO
    split
    · exact .inr (.inl rfl)
    · split
      · exact .inr (.inr rfl)
      · exact chkO_err l
theorem canO_err (l : List Ob) : 0 ≤ canO l ∧ canO l ≤ 8 := by
  unfold canO
  rcases chkO_err l with h | h | h <;> rw [h] <;> repeat' split
  all_goals omega
theorem chkO_cons {o : Ob} {l : List Ob} (h : chkO (o :: l) = 0) : 1 ≤ o.1 ∧ o.1 ≤ 255 ∧ fitsO o.1 o.2.length = true ∧ chkO l = 0 := by
  unfold chkO at h
  split at h
  · omega
  · split at h
    · omega
    · rename_i h1 h2
      exact ⟨by omega, by omega, by simpa using h2, h⟩
theorem chkO_mem : ∀ {l : List Ob}, chkO l = 0 → ∀ o ∈ l, 1 ≤ o.1 ∧ o.1 ≤ 255 ∧ fitsO o.1 o.2.length = true
  | [], _, o, h => by cases h
  | a :: l, hl, o, h => by
    have hc := chkO_cons hl
    rcases List.mem_cons.1 h with rfl | h
    · exact ⟨hc.1, hc.2.1, hc.2.2.1⟩
    · exact chkO_mem hc.2.2.2 o h
theorem canO_zero {l : List Ob} (h : canO l = 0) : chkO l = 0 ∧ sumO l ≤ 40 := by
  unfold canO at h
  split at h
  · rename_i h1
    split at h
    · omega
    · exact ⟨h1, by omega⟩
  · rename_i h1
    exact absurd h h1
theorem fits_nop {n : Nat} (h : fitsO 1 n = true) : n = 0 := by
  simp only [fitsO, longR] at h
  simp at h
  omega
theorem head_len (o : Ob) : (headO o).length = if o.1 = 1 then 1 else 2 := by unfold headO; split <;> rfl
theorem part_len {o : Ob} (h : fitsO o.1 o.2.length = true) : (headO o).length + o.2.length = sizeO o := by
  rw [head_len]
  unfold sizeO
  split
  · rename_i e
    rw [e] at h
    have := fits_nop h
    omega
  · rfl
theorem flat_len : ∀ {l : List Ob}, chkO l = 0 → (flatO l).length = sumO l
  | [], _ => rfl
  | o :: l, h => by
    have hc := chkO_cons h
    have ih := flat_len hc.2.2.2
    have hp := part_len hc.2.2.1
    unfold flatO sumO at ih ⊢
    simp only [List.flatMap_cons, List.map_cons, List.sum_cons, List.length_append] at ih ⊢
    omega
theorem pad_mod (n : Nat) : (n + padN n) % 4 = 0 := by unfold padN; omega
theorem pad_lt (n : Nat) : padN n < 4 := by unfold padN; omega
theorem padO_len (xs : List Int) : (padO xs).length = xs.length + padN xs.length := by simp [padO]
theorem head_all (o : Ob) : AllB (headO o) := by
  unfold headO
  split
  · exact .cons (by omega) (by omega) .nil
  · exact .cons (by omega) (by omega) (.cons (by omega) (by omega) .nil)
theorem zeros_all (n : Nat) : AllB (List.replicate n 0) := fun x hx => by
  rw [List.eq_of_mem_replicate hx]; omega

/-- the option, no byte 0, that bytes begin with; how many bytes it has; or why there is none -/
def takeO (xs : List Int) : Ob × Nat × Int :=
  if xs.getD 0 0 = 1 then ((1, []), 1, 0)
  else if xs.length < 2 then (zeroB, 0, 3)
  else if xs.getD 1 0 < 2 then (zeroB, 0, 5)
  else if (xs.length : Int) < xs.getD 1 0 then (zeroB, 0, 3)
  else if fitsO (xs.getD 0 0) ((xs.getD 1 0).toNat - 2) = false then (zeroB, 0, 5)
  else ((xs.getD 0 0, (xs.drop 2).take ((xs.getD 1 0).toNat - 2)), (xs.getD 1 0).toNat, 0)
def joinO (os : List Ob) (r : List Ob × Int) : List Ob × Int := if r.2 = 0 then (os ++ r.1, 0) else ([], r.2)
/-- the options of bytes, at most f - 1 of them -/
def parseO : Nat → List Int → List Ob × Int
  | 0, _ => ([], 0)
  | f + 1, xs =>
    if xs = [] then ([], 0)
    else if xs.getD 0 0 = 0 then (if zerosB xs = true then ([], 0) else ([], 5))
    else if (takeO xs).2.2 = 0 then joinO [(takeO xs).1] (parseO f (xs.drop (takeO xs).2.1))
    else ([], (takeO xs).2.2)
def parseL (xs : List Int) : List Ob × Int := if 40 < xs.length then ([], 4) else parseO 41 xs

theorem joinO_nil (r : List Ob × Int) (h : r.2 ≠ 0 → r.1 = []) : joinO [] r = r := by
  unfold joinO
  split
  · rename_i e; rw [← e]; simp
  · rename_i e; rw [← h e]
theorem joinO_join (a b : List Ob) (r : List Ob × Int) : joinO a (joinO b r) = joinO (a ++ b) r := by
  unfold joinO
  by_cases h : r.2 = 0
  · simp [h]
  · simp [h]
theorem parseO_err_nil : ∀ (f : Nat) (xs : List Int), (parseO f xs).2 ≠ 0 → (parseO f xs).1 = []
  | 0, xs, h => absurd rfl h
  | f + 1, xs, h => by
    unfold parseO at h ⊢
    split
    · rfl
    · split
      · split <;> rfl
      · split
        · unfold joinO
          rename_i h1 h2 h3
          rw [if_neg h1, if_neg h2, if_pos h3] at h
          unfold joinO at h
          split
          · rename_i h4
            rw [if_pos h4] at h
            exact absurd rfl h
          · rfl
        · rfl
theorem takeO_err (xs : List Int) : (takeO xs).2.2 = 0 ∨ (takeO xs).2.2 = 3 ∨ (takeO xs).2.2 = 5 := by
  unfold takeO
  repeat' split
  all_goals simp
theorem takeO_size {xs : List Int} (h : (takeO xs).2.2 = 0) (hn : 0 < xs.length) : 1 ≤ (takeO xs).2.1 ∧ (takeO xs).2.1 ≤ xs.length := by
  unfold takeO at h ⊢
  split
  · exact ⟨Nat.le_refl _, hn⟩
  · rename_i h1
    rw [if_neg h1] at h
    split
    · rename_i h2; rw [if_pos h2] at h; simp at h
    · rename_i h2
      rw [if_neg h2] at h
      split
      · rename_i h3; rw [if_pos h3] at h; simp at h
      · rename_i h3
        rw [if_neg h3] at h
        split
        · rename_i h4; rw [if_pos h4] at h; simp at h
        · rename_i h4
          rw [if_neg h4] at h
          split
          · rename_i h5; rw [if_pos h5] at h; simp at h
          · dsimp only
            omega
theorem parseO_err : ∀ (f : Nat) (xs : List Int), 0 ≤ (parseO f xs).2 ∧ (parseO f xs).2 ≤ 8
  | 0, xs => by simp [parseO]
  | f + 1, xs => by
    have ih := parseO_err f (xs.drop (takeO xs).2.1)
    have ht := takeO_err xs
    unfold parseO
    repeat' split
    all_goals try unfold joinO
    all_goals repeat' split
    all_goals dsimp only
    all_goals omega
theorem parseL_err (xs : List Int) : 0 ≤ (parseL xs).2 ∧ (parseL xs).2 ≤ 8 := by
  unfold parseL
  split
  · simp
  · exact parseO_err 41 xs
theorem parseO_len : ∀ (f : Nat) (xs : List Int), (parseO f xs).1.length ≤ f
  | 0, xs => by simp [parseO]
  | f + 1, xs => by
    have ih := parseO_len f (xs.drop (takeO xs).2.1)
    unfold parseO
    repeat' split
    all_goals try unfold joinO
    all_goals repeat' split
    all_goals simp
    all_goals omega
theorem parseL_len (xs : List Int) : (parseL xs).1.length ≤ 41 := by
  unfold parseL
  split
  · simp
  · exact parseO_len 41 xs

/-! what is parsed can be put again, in no more bytes -/
theorem takeO_fine {xs : List Int} (ha : AllB xs) (h0 : xs.getD 0 0 ≠ 0) (h : (takeO xs).2.2 = 0) : 1 ≤ (takeO xs).1.1 ∧ (takeO xs).1.1 ≤ 255 ∧ fitsO (takeO xs).1.1 (takeO xs).1.2.length = true ∧ sizeO (takeO xs).1 = (takeO xs).2.1 := by
  have hb := ha.getD 0
  have hb1 := ha.getD 1
  unfold takeO at h ⊢
  split
  · simp [fitsO, longR, sizeO]
  · rename_i h1
    rw [if_neg h1] at h
    split
    · rename_i h2; rw [if_pos h2] at h; simp at h
    · rename_i h2
      rw [if_neg h2] at h
      split
      · rename_i h3; rw [if_pos h3] at h; simp at h
      · rename_i h3
        rw [if_neg h3] at h
        split
        · rename_i h4; rw [if_pos h4] at h; simp at h
        · rename_i h4
          rw [if_neg h4] at h
          split
          · rename_i h5; rw [if_pos h5] at h; simp at h
          · rename_i h5
            have hl : ((xs.drop 2).take ((xs.getD 1 0).toNat - 2)).length = (xs.getD 1 0).toNat - 2 := by rw [List.length_take, List.length_drop]; omega
            refine ⟨by show 1 ≤ xs.getD 0 0; omega, by show xs.getD 0 0 ≤ 255; omega, ?_, ?_⟩
            · show fitsO (xs.getD 0 0) _ = true
              rw [hl]; simpa using h5
            · unfold sizeO
              rw [if_neg h1, hl]
              show 2 + ((xs.getD 1 0).toNat - 2) = (xs.getD 1 0).toNat
              omega
theorem parseO_fine : ∀ (f : Nat) (xs : List Int), AllB xs → (parseO f xs).2 = 0 → chkO (parseO f xs).1 = 0 ∧ sumO (parseO f xs).1 ≤ xs.length
  | 0, xs, _, _ => ⟨rfl, Nat.zero_le _⟩
  | f + 1, xs, ha, h => by
    have ih := parseO_fine f (xs.drop (takeO xs).2.1) (ha.drop _)
    unfold parseO at h ⊢
    split
    · exact ⟨rfl, Nat.zero_le _⟩
    · rename_i h1
      rw [if_neg h1] at h
      split
      · split <;> exact ⟨rfl, Nat.zero_le _⟩
      · rename_i h2
        rw [if_neg h2] at h
        split
        · rename_i h3
          rw [if_pos h3] at h
          unfold joinO at h ⊢
          split
          · rename_i h4
            obtain ⟨i1, i2⟩ := ih h4
            obtain ⟨t1, t2, t3, t4⟩ := takeO_fine ha h2 h3
            have hn : 0 < xs.length := List.length_pos_iff.2 h1
            have hs := takeO_size h3 hn
            have e : [(takeO xs).1] ++ (parseO f (xs.drop (takeO xs).2.1)).1 = (takeO xs).1 :: (parseO f (xs.drop (takeO xs).2.1)).1 := rfl
            refine ⟨?_, ?_⟩
            · dsimp only
              rw [e]
              unfold chkO
              rw [if_neg (by omega), if_neg (by rw [t3]; simp)]
              exact i1
            · dsimp only
              rw [e]
              unfold sumO at i2 ⊢
              rw [List.map_cons, List.sum_cons, t4]
              rw [List.length_drop] at i2
              omega
          · rename_i h4
            rw [if_neg h4] at h
            exact absurd h h4
        · rename_i h3
          rw [if_neg h3] at h
          exact absurd h h3
theorem parseL_fine {xs : List Int} (ha : AllB xs) (h : (parseL xs).2 = 0) : canO (parseL xs).1 = 0 ∧ sumO (parseL xs).1 ≤ xs.length := by
  unfold parseL at h ⊢
  split
  · rename_i h1
    rw [if_pos h1] at h
    simp at h
  · rename_i h1
    rw [if_neg h1] at h
    obtain ⟨c1, c2⟩ := parseO_fine 41 xs ha h
    refine ⟨?_, c2⟩
    unfold canO
    rw [if_pos c1, if_neg (by omega)]

/-! what was put is parsed as what it was -/
theorem takeO_put {o : Ob} {rest : List Int} (h1 : 1 ≤ o.1) (h2 : o.1 ≤ 255) (h3 : fitsO o.1 o.2.length = true) (h4 : o.2.length ≤ 253) : takeO (headO o ++ o.2 ++ rest) = (o, sizeO o, 0) := by
  obtain ⟨k, d⟩ := o
  dsimp only at h1 h2 h3 h4 ⊢
  by_cases hk : k = 1
  · subst hk
    have hd := fits_nop h3
    obtain rfl : d = [] := List.eq_nil_of_length_eq_zero hd
    simp [headO, takeO, sizeO]
  · have e1 : k % 256 = k := by omega
    have e2 : (2 + (d.length : Int)) % 256 = 2 + d.length := by omega
    have hh : headO (k, d) ++ d ++ rest = k :: (2 + (d.length : Int)) :: (d ++ rest) := by simp [headO, hk, e1, e2]
    rw [hh]
    unfold takeO
    have et : (2 + (d.length : Int)).toNat - 2 = d.length := by omega
    have el : (k :: (2 + (d.length : Int)) :: (d ++ rest)).length = 2 + d.length + rest.length := by simp; omega
    rw [el]
    simp only [List.getD_cons_zero, List.getD_cons_succ]
    rw [if_neg hk, if_neg (by omega), if_neg (by omega), if_neg (by omega), et, if_neg (by rw [h3]; simp)]
    have e5 : (2 + (d.length : Int)).toNat = 2 + d.length := by omega
    simp [sizeO, hk, e5]
theorem parseO_put : ∀ (l : List Ob) (f z : Nat), chkO l = 0 → sumO l ≤ 40 → sumO l + z < f → parseO f (flatO l ++ List.replicate z 0) = (l, 0)
  | [], 0, z, _, _, h => by omega
  | [], f + 1, z, _, _, h => by
    unfold parseO
    cases z with
    | zero => simp [flatO]
    | succ z =>
      have e : flatO [] ++ List.replicate (z + 1) (0 : Int) = List.replicate (z + 1) 0 := rfl
      rw [e, if_neg (by simp), if_pos (by simp), if_pos (by simp [zerosB])]
  | o :: l, 0, z, _, _, h => by omega
  | o :: l, f + 1, z, hc, hs, h => by
    obtain ⟨c1, c2, c3, c4⟩ := chkO_cons hc
    have hs2 : sumO (o :: l) = sizeO o + sumO l := by simp [sumO]
    have hsz : 1 ≤ sizeO o := by unfold sizeO; split <;> omega
    have hd : o.2.length ≤ 253 := by
      have := part_len c3
      omega
    have hf : flatO (o :: l) ++ List.replicate z 0 = headO o ++ o.2 ++ (flatO l ++ List.replicate z 0) := by simp [flatO]
    have ht := takeO_put (rest := flatO l ++ List.replicate z 0) c1 c2 c3 hd
    have hpl := part_len c3
    have ih := parseO_put l f z c4 (by omega) (by omega)
    rw [hf]
    unfold parseO
    have hne : headO o ++ o.2 ++ (flatO l ++ List.replicate z 0) ≠ [] := by
      intro e
      have := congrArg List.length e
      simp only [List.length_append, List.length_nil] at this
      omega
    have h0 : (headO o ++ o.2 ++ (flatO l ++ List.replicate z 0)).getD 0 0 ≠ 0 := by
      unfold headO
      split
      · simp
      · simp
        omega
    rw [if_neg hne, if_neg h0, ht, if_pos rfl]
    dsimp only
    rw [← hpl, ← List.length_append, List.drop_left, ih]
    simp [joinO]
theorem parse_put {l : List Ob} (h : canO l = 0) : parseL (putO l) = (l, 0) ∧ (putO l).length ≤ 40 ∧ (putO l).length % 4 = 0 := by
  obtain ⟨h1, h2⟩ := canO_zero h
  have hl := flat_len h1
  have hp : (putO l).length = sumO l + padN (sumO l) := by unfold putO; rw [if_pos h, padO_len, hl]
  have h40 : sumO l + padN (sumO l) ≤ 40 := by unfold padN; omega
  refine ⟨?_, by omega, by rw [hp]; exact pad_mod _⟩
  unfold parseL
  rw [if_neg (by omega)]
  unfold putO padO
  rw [if_pos h, hl]
  exact parseO_put l 41 _ h1 h2 (by omega)
theorem putO_all {l : List Ob} (h : ∀ o ∈ l, AllB o.2) : AllB (putO l) := by
  unfold putO
  split
  · unfold padO
    refine AllB.append ?_ (zeros_all _)
    intro x hx
    unfold flatO at hx
    rw [List.mem_flatMap] at hx
    obtain ⟨o, ho, hx⟩ := hx
    exact ((head_all o).append (h o ho)) x hx
  · exact AllB.nil
theorem putO_len {l : List Ob} (h : canO l = 0) : (putO l).length ≤ sumO l + 3 := by
  obtain ⟨h1, h2⟩ := canO_zero h
  have hl := flat_len h1
  have := pad_lt (sumO l)
  unfold putO
  rw [if_pos h, padO_len, hl]
  omega
end Go.Proofs.Ytpaomhgdpncdoaa

namespace Go.Proofs.Ytpaomhgdpncdoaa
open Go.RowKit
set_option linter.unusedVariables false

theorem ofNat_inj {a b : Int} (ha : 0 ≤ a ∧ a < 256) (hb : 0 ≤ b ∧ b < 256) (h : UInt8.ofNat a.toNat = UInt8.ofNat b.toNat) : a = b := by
  have h2 := congrArg UInt8.toNat h
  simp only [UInt8.toNat_ofNat'] at h2
  omega
theorem str_inj : ∀ {xs ys : List Int}, AllB xs → AllB ys → (strOfNums xs).toList = (strOfNums ys).toList → xs = ys := fun {xs ys} hx hy h => by
  rw [Lib.strOfNums_toList, Lib.strOfNums_toList] at h
  unfold Lib.bytesOf at h
  induction xs generalizing ys with
  | nil => cases ys with
    | nil => rfl
    | cons y ys => simp at h
  | cons x xs ih => cases ys with
    | nil => simp at h
    | cons y ys =>
      simp only [List.map_cons, List.cons.injEq] at h
      rw [ofNat_inj (hx x (by simp)) (hy y (by simp)) h.1, ih (fun z hz => hx z (by simp [hz])) (fun z hz => hy z (by simp [hz])) h.2]
theorem str_beq {xs ys : List Int} (hx : AllB xs) (hy : AllB ys) : ((strOfNums xs).toList == (strOfNums ys).toList) = decide (xs = ys) := by
  by_cases h : xs = ys
  · subst h; simp
  · have : ¬ (strOfNums xs).toList = (strOfNums ys).toList := fun e => h (str_inj hx hy e)
    simp [h, this]
theorem getV (os : List Od) (i : Nat) : (os.map Od.v).getD i zeroB = (os.getD i zeroO).v := by
  simp only [List.getD, List.getElem?_map]
  cases os[i]? <;> rfl
theorem same_all {os ps : List Od} (hl : os.length = ps.length) (h : ∀ j, j < os.length → (os.getD j zeroO).v = (ps.getD j zeroO).v) : os.map Od.v = ps.map Od.v := by
  apply List.ext_getElem (by simp [hl])
  intro i h1 h2
  simp only [List.length_map] at h1 h2
  have := h i h1
  simpa [List.getD, h1, h2] using this
theorem same_not {os ps : List Od} {j : Nat} (h : (os.getD j zeroO).v ≠ (ps.getD j zeroO).v) : ¬ os.map Od.v = ps.map Od.v := fun e => h (by rw [← getV, ← getV, e])

end Go.Proofs.Ytpaomhgdpncdoaa

namespace Go.Proofs.Ytpaomhgdpncdoaa
open Go.RowKit Go.MapKept Go.ChangeMaps
set_option linter.unusedVariables false

/-- the map of lengths, as data -/
def ask0 : DataW Unit := .map []
def ask1 := ask0.put (.int .i64 1) (.lit (.int .i64 0))
def ask2 := ask1.put (.int .i64 2) (.lit (.int .i64 2))
def ask3 := ask2.put (.int .i64 3) (.lit (.int .i64 1))
def ask4 := ask3.put (.int .i64 4) (.lit (.int .i64 0))
def ask5 := ask4.put (.int .i64 8) (.lit (.int .i64 8))
theorem ask_eq : ask5 = .map [(.int .i64 1, .lit (.int .i64 0)), (.int .i64 2, .lit (.int .i64 2)), (.int .i64 3, .lit (.int .i64 1)), (.int .i64 4, .lit (.int .i64 0)), (.int .i64 8, .lit (.int .i64 8))] := by rfl
theorem ask_dec (n : Nat) (c : Int) : ((n : Int) == c) = decide (c = n) := by
  by_cases h : c = n
  · simp [h]
  · have h2 : ¬ (n : Int) = c := fun e => h e.symm
    simp [h, h2]
theorem ask_fits {k c : Int} {n : Nat} (h : ask5.atKey (.int .i64 k) (.lit (.int .i64 0)) = .lit (.int .i64 c)) : (!Maps.has ask5 (.int .i64 k) || (n : Int) == c) = fitsO k n := by
  rw [ask_eq] at h ⊢
  simp only [Maps.has, DataW.atKey, List.any_cons, List.any_nil, List.find?_cons, List.find?_nil, Lit.sameKey, true_and] at h ⊢
  unfold fitsO longR
  by_cases h1 : k = 1
  · subst h1; simp at h ⊢; rw [← h]; exact ask_dec _ _
  · by_cases h2 : k = 2
    · subst h2; simp at h ⊢; rw [← h]; exact ask_dec _ _
    · by_cases h3 : k = 3
      · subst h3; simp at h ⊢; rw [← h]; exact ask_dec _ _
      · by_cases h4 : k = 4
        · subst h4; simp at h ⊢; rw [← h]; exact ask_dec _ _
        · by_cases h8 : k = 8
          · subst h8; simp at h ⊢; rw [← h]; exact ask_dec _ _
          · have e1 : ¬ (1 : Int) = k := fun e => h1 e.symm
            have e2 : ¬ (2 : Int) = k := fun e => h2 e.symm
            have e3 : ¬ (3 : Int) = k := fun e => h3 e.symm
            have e4 : ¬ (4 : Int) = k := fun e => h4 e.symm
            have e8 : ¬ (8 : Int) = k := fun e => h8 e.symm
            simp [h1, h2, h3, h4, h8, e1, e2, e3, e4, e8]

theorem i64_wf {a : Int} (h : i64ok a) : (Lit.int .i64 a).wf = true := by
  unfold i64ok at h
  have h1 : IntKind.i64.min ≤ a := h.1
  have h2 : a ≤ IntKind.i64.max := h.2
  simp only [Lit.wf, Bool.and_eq_true, decide_eq_true_eq]
  exact ⟨h1, h2⟩

end Go.Proofs.Ytpaomhgdpncdoaa

namespace Go.Proofs.Ytpaomhgdpncdoaa
open Go.RowKit
set_option linter.unusedVariables false

/-- all blocks of cells of one type stay as they are -/
def KeepsT (t : TypeId) (W W' : World) : Prop := ∀ (k : Nat) (cs : Array Value) (z : Nat × Nat), W.heap[k]? = some (.cells cs t z) → W'.heap[k]? = some (.cells cs t z)
section
variable {t : TypeId} {A B C : World}
theorem KeepsT.refl (t : TypeId) (A : World) : KeepsT t A A := fun _ _ _ h => h
theorem KeepsT.trans (h : KeepsT t A B) (k : KeepsT t B C) : KeepsT t A C := fun i cs z hi => k i cs z (h i cs z hi)
theorem KeepsT.low (h : Low A B) : KeepsT t A B := fun i cs z hi => (Below.block h i (Array.getElem?_eq_some_iff.1 hi).1).trans hi
theorem KeepsT.setCell {p : Addr} {u : Value} {cs : Array Value} {t' : TypeId} {z : Nat × Nat} (hp : A.heap[p.block]? = some (.cells cs t' z)) (ht : t' ≠ t) : KeepsT t A (A.setCell p u) := fun i cs' z' hi => by
  refine (Below.heap_setCell A p u i ?_).trans hi
  rintro rfl
  rw [hp] at hi
  injection hi with hi
  injection hi with _ hi _
  exact ht hi
theorem KeepsT.putObj {l : Nat} {o o' : Obj} (hl : A.heap[l]? = some o) (ho : o.isCells = false) : KeepsT t A (A.putObj l o') := fun i cs z hi => by
  refine (World.putObj_heap_other ?_).trans hi
  rintro rfl
  rw [hl] at hi
  injection hi with hi
  subst hi
  cases ho
theorem KeepsT.grown {row : Option Nat} (hg : A.grownBy B row) (hr : ∀ r, row = some r → ∀ cs z, A.heap[r]? ≠ some (.cells cs t z)) : KeepsT t A B := fun i cs z hi => by
  refine (hg.block i (Array.getElem?_eq_some_iff.1 hi).1 fun e => ?_).trans hi
  exact hr i e.symm cs z hi
theorem grown_of_low (h : Low A B) : A.grownBy B none := ⟨Below.os h, Below.tape h, Below.output h, Below.size h, fun k hk _ => Below.block h k hk⟩
theorem bs_putObj {n : Nat} {X : Option Addr} {xs : List Int} {l : Nat} {o o' : Obj} (h : Bs A A.heap.size X n xs) (hl : A.heap[l]? = some o) (ho : o.isCells = false) : Bs (A.putObj l o') (A.putObj l o').heap.size X n xs :=
  ⟨h.len, h.all, fun hn => by
    obtain ⟨b, p, e, hb, hc⟩ := h.mem hn
    exact ⟨b, p, e, by simpa using hb, fun i hi => cell_kept (hc i hi) (grownBy_putObj' A l o') fun r e => by cases e; exact ⟨o, hl, ho⟩⟩⟩
end

/-- the function, at what it has captured, hands out these lists one by one, each as it lies in memory; between two of them it relies on what lay below block n0, and on the blocks of type t -/
def SeqParts (n : Nat) (P : Program) (gf : Nat) (lb : Array Value) (t : TypeId) (n0 : Nat) (parts : List (List Int)) (w0 : World) : Prop :=
  ∀ (l : Nat) (J : Nat → World → Prop) (Jx : World → Prop) (W : World), Low w0 W → (∀ j A B, J j A → Low A B → J j B) →
    (∀ j A m c W1, J j W1 → j < parts.length → m ≤ 140737488355328 → Bs W1 W1.heap.size A m (parts.getD j []) → YieldAt Fence.wide (n - 1) P l #[.slice A m c] W1 fun e W' =>
      (e = .returned (.bool true) ∧ J (j + 1) W' ∧ Below n0 W1 W' ∧ KeepsT t W1 W') ∨ (e = .returned (.bool false) ∧ Jx W')) →
    J 0 W → CallsIn Fence.wide n P gf (#[.func (.yield l) #[] #[]] ++ lb) W fun e W' => (∃ v, e = .returned v) ∧ (J parts.length W' ∨ Jx W')

/-- how the loop's body may be left -/
def partsPost (t : TypeId) (n0 : Nat) (I : Nat → World → Prop) (Ix : World → Prop) (j : Nat) (W : World) : Exit → Act → World → Prop
  | .normal, _, W' => KeepsOthers W W' ∧ Below n0 W W' ∧ KeepsT t W W' ∧ I (j + 1) W'
  | .ret, _, W' => KeepsOthers W W' ∧ Ix W'
  | _, _, _ => False

/-- where the loop's record and its block for deferred calls stand -/
structure Rec (R : LoopState → Option Code → Loop) (l D : Nat) (st : LoopState) (pe : Option Code) (W : World) : Prop where
  L : W.heap[l]? = some (.loop (R st pe))
  K : W.heap[D]? = some (.deferred (some []))
theorem Rec.low {R : LoopState → Option Code → Loop} {l D : Nat} {st : LoopState} {pe : Option Code} {W W' : World} (h : Rec R l D st pe W) (hl : Low W W') : Rec R l D st pe W' :=
  ⟨(Below.block hl l (Array.getElem?_eq_some_iff.1 h.L).1).trans h.L, (Below.block hl D (Array.getElem?_eq_some_iff.1 h.K).1).trans h.K⟩
theorem Rec.others {R : LoopState → Option Code → Loop} {l D : Nat} {st : LoopState} {pe : Option Code} {W W' : World} (h : Rec R l D st pe W) (hl : KeepsOthers W W') : Rec R l D st pe W' :=
  ⟨hl.same l _ h.L rfl, hl.same D _ h.K rfl⟩
theorem Rec.turn {R : LoopState → Option Code → Loop} {l D : Nat} {st : LoopState} {pe : Option Code} {W : World} (h : Rec R l D st pe W) (hne : D ≠ l) (st' : LoopState) (pe' : Option Code) : Rec R l D st' pe' (W.putObj l (.loop (R st' pe'))) :=
  ⟨World.putObj_heap_same (Array.getElem?_eq_some_iff.1 h.L).1, (World.putObj_heap_other hne).trans h.K⟩

theorem wpIn_parts {P : Program} {n : Nat} {g : Operand} {ps : Array Tmp} {assign body : Code} {Q : Exit → Act → World → Prop} {a : Act} {w w0 : World} {gf : Nat} {lb : Array Value} {t : TypeId} {n0 : Nat} {parts : List (List Int)}
    (hg : a.eval g = .func (.func gf) #[] lb) (eg : ∀ args w, (callFunc gf args).run P w = .ok (.enter gf args) w)
    (hseq : SeqParts (n - 1) P gf lb t n0 parts w0) (hb0 : Low w0 w) (hn : n0 ≤ w.heap.size) (p : Tmp) (hps : ps = #[p])
    (I : Nat → World → Prop) (Ix : World → Prop) (hI : OwnFrom w.heap.size I) (hIx : OwnFrom w.heap.size (fun (_ : Unit) => Ix)) (h0 : I 0 w) (a₁ : Value → Act)
    (hassign : ∀ (l : Nat) (v : Value) (W : World) (K : Act → World → Prop), K (a₁ v) W →
      assign.wpIn (Fence.wide.inRound l) (n - 1 - 1) P (Exit.then K (fun _ _ _ => False)) { tmps := a.tmps.setIfInBounds p v, defers := [] } W)
    (hbody : ∀ (l j : Nat) (A : Option Addr) (m c : Nat) (W : World), I j W → j < parts.length → m ≤ 140737488355328 → Bs W W.heap.size A m (parts.getD j []) →
      body.wpIn (Fence.wide.inRound l) (n - 1 - 1) P (partsPost t n0 I Ix j W) (a₁ (.slice A m c)) W)
    (hdone : ∀ (D : Nat) (W : World), w.heap.size ≤ D → I parts.length W → W.heap[D]? = some (.deferred (some [])) → Q .normal { a with defers := { target := .collected D, args := #[] } :: a.defers } W)
    (hstop : ∀ (D : Nat) (W : World), w.heap.size ≤ D → Ix W → W.heap[D]? = some (.deferred (some [])) → Code.ret.wpIn Fence.wide n P Q { a with defers := { target := .collected D, args := #[] } :: a.defers } W) :
    (Code.rangeFunc g ps assign body).wpIn Fence.wide n P Q a w := by
  subst hps
  refine wpIn_rangeFunc fun fn hfn => ?_
  obtain ⟨R, hR⟩ : ∃ R : LoopState → Option Code → Loop, R = fun st pe => { state := st, pending := pe, fn := fn, tmps := a.tmps, params := #[p], assign := assign, body := body, defers := w.heap.size } := ⟨_, rfl⟩
  have hrun := run_enterLoop_outer (P := P) (w := w) fn a.tmps #[p] assign body
  obtain ⟨W1, hW1⟩ : ∃ W1, W1 = (w.alloc (.deferred (some []))).alloc (.loop (R .ready none)) := ⟨_, rfl⟩
  have hlow : Low w W1 := by rw [hW1]; exact (Low.alloc w _).trans (Low.alloc _ _)
  have hrec : Rec R (w.heap.size + 1) w.heap.size .ready none W1 := by
    rw [hW1]
    refine ⟨?_, (Below.heap_alloc _ _ _ (by simp)).trans (World.alloc_heap_new w _)⟩
    have := World.alloc_heap_new (w.alloc (.deferred (some []))) (.loop (R .ready none))
    rwa [World.size_alloc] at this
  have hne : w.heap.size ≠ w.heap.size + 1 := by omega
  have put : ∀ {j : Nat} {W : World} (o' : Obj) {st : LoopState} {pe : Option Code}, I j W → Rec R (w.heap.size + 1) w.heap.size st pe W → I j (W.putObj (w.heap.size + 1) o') := fun o' _ _ hi hr => hI.putObj o' hi (by omega) hr.L rfl
  have putx : ∀ {W : World} (o' : Obj) {st : LoopState} {pe : Option Code}, Ix W → Rec R (w.heap.size + 1) w.heap.size st pe W → Ix (W.putObj (w.heap.size + 1) o') := fun o' _ _ hi hr => hIx.putObj (s := ()) o' hi (by omega) hr.L rfl
  have pass : ∀ {j : Nat} {A B : World}, I j A → Low A B → I j B := fun hi hl => hI _ _ _ none hi (grown_of_low hl) fun r e => by cases e
  have keep : ∀ {W : World} {st : LoopState} {pe : Option Code} (o' : Obj), Rec R (w.heap.size + 1) w.heap.size st pe W → Below n0 W (W.putObj (w.heap.size + 1) o') ∧ KeepsT t W (W.putObj (w.heap.size + 1) o') := fun o' hr =>
    ⟨belowK_b (w := w) hn _ _ _ o' (by omega) hr.L rfl rfl, KeepsT.putObj hr.L rfl⟩
  refine ⟨w.heap.size + 1, [{ target := .collected w.heap.size, args := #[] }], W1, { target := .fn (.func gf) lb, args := #[.func (.yield (w.heap.size + 1)) #[] #[]] }, W1, gf, #[.func (.yield (w.heap.size + 1)) #[] #[]] ++ lb, W1, ?_, ?_, fun _ _ => trivial, ?_, fun h => (by cases h), ?_⟩
  · rw [hW1, hR]; exact hrun
  · simp only [resolve, hg]
    simp [go_sem]
  · simp [invoke, go_sem, eg]
  · refine (hseq (w.heap.size + 1) (fun j W => I j W ∧ Rec R (w.heap.size + 1) w.heap.size .ready none W) (fun W => Ix W ∧ Rec R (w.heap.size + 1) w.heap.size .done (some .ret) W) W1 (hb0.trans hlow)
      (fun j A B h hl => ⟨pass h.1 hl, h.2.low hl⟩) ?_ ⟨pass h0 hlow, hrec⟩).mono ?_
    · rintro j A m c W ⟨hi, hr⟩ hj hm hb
      have hy : (Instr.yield (w.heap.size + 1) #[.slice A m c]).run P W = .ok (.round (w.heap.size + 1) fn (a.tmps.setIfInBounds p (.slice A m c)) assign body) W := by
        have := run_yield (P := P) (args := #[.slice A m c]) hr.L (by rw [hR]; rfl)
        rw [hR] at this
        simpa using this
      refine ⟨fn, _, assign, body, hy, roundIn_of_wpIn hfn ?_⟩
      refine hassign _ _ W _ ?_
      refine ⟨_, run_beginRound hr.L (by rw [hR]), ?_⟩
      have eb : ({ R .ready none with state := .busy } : Loop) = R .busy none := by rw [hR]
      rw [eb]
      have hr2 := hr.turn hne .busy none
      have hk2 := keep (.loop (R .busy none)) hr
      refine wpIn_mono (hbody _ j A m c _ (put _ hi hr) hj hm (bs_putObj hb hr.L rfl)) ?_
      rintro e a3 W3 hp
      cases e with
      | normal =>
        obtain ⟨h1, h2, h3, h4⟩ := hp
        have hr3 := hr2.others h1
        have he := run_endRound (P := P) none hr3.L
        have ee : ({ R .busy none with state := if (none : Option Code).isNone then .ready else .done, pending := none } : Loop) = R .ready none := by rw [hR]; rfl
        rw [ee] at he
        have hk3 := keep (.loop (R .ready none)) hr3
        exact ⟨_, _, he, .inl ⟨rfl, ⟨put _ h4 hr3, hr3.turn hne _ _⟩, (hk2.1.trans h2).trans hk3.1, (hk2.2.trans h3).trans hk3.2⟩⟩
      | ret =>
        obtain ⟨h1, h2⟩ := hp
        have hr3 := hr2.others h1
        have he := run_endRound (P := P) (some .ret) hr3.L
        have ee : ({ R .busy none with state := if (some Code.ret).isNone then .ready else .done, pending := some .ret } : Loop) = R .done (some .ret) := by rw [hR]; rfl
        rw [ee] at he
        exact ⟨_, _, he, .inr ⟨rfl, putx _ h2 hr3, hr3.turn hne _ _⟩⟩
      | exit id => exact hp.elim
      | goto id => exact hp.elim
      | panic ch => exact hp.elim
      | outgrown => exact hp.elim
    · rintro e W2 ⟨⟨v, rfl⟩, ⟨hi, hr⟩ | ⟨hi, hr⟩⟩
      · have he := run_endLoop (P := P) hr.L (by rw [hR]; simp)
        have ep : (R .ready none).pending = none := by rw [hR]
        rw [ep] at he
        exact ⟨none, _, he, hdone _ _ (Nat.le_refl _) (put _ hi hr) ((World.putObj_heap_other hne).trans hr.K)⟩
      · have he := run_endLoop (P := P) hr.L (by rw [hR]; simp)
        have ep : (R .done (some .ret)).pending = some .ret := by rw [hR]
        rw [ep] at he
        exact ⟨some .ret, _, he, hstop _ _ (Nat.le_refl _) (putx _ hi hr) ((World.putObj_heap_other hne).trans hr.K)⟩

/-- the same where the loop's variable is slot q -/
theorem wpIn_parts_q {P : Program} {n : Nat} {g : Operand} {ps : Array Tmp} {assign body : Code} {Q : Exit → Act → World → Prop} {T : Array Value} {ds : List Deferred} {w w0 : World} {gf : Nat} {lb : Array Value} {t : TypeId} {n0 : Nat} {parts : List (List Int)}
    (hg : Act.eval ⟨T, ds⟩ g = .func (.func gf) #[] lb) (eg : ∀ args w, (callFunc gf args).run P w = .ok (.enter gf args) w)
    (hseq : SeqParts (n - 1) P gf lb t n0 parts w0) (hb0 : Low w0 w) (hn : n0 ≤ w.heap.size) (p q : Tmp) (hps : ps = #[p])
    (I : Nat → World → Prop) (Ix : World → Prop) (hI : OwnFrom w.heap.size I) (hIx : OwnFrom w.heap.size (fun (_ : Unit) => Ix)) (h0 : I 0 w)
    (hassign : ∀ (l : Nat) (v : Value) (W : World) (K : Act → World → Prop), K ⟨(T.setIfInBounds p v).setIfInBounds q v, []⟩ W →
      assign.wpIn (Fence.wide.inRound l) (n - 1 - 1) P (Exit.then K (fun _ _ _ => False)) ⟨T.setIfInBounds p v, []⟩ W)
    (hbody : ∀ (l j : Nat) (A : Option Addr) (m c : Nat) (W : World), I j W → j < parts.length → m ≤ 140737488355328 → Bs W W.heap.size A m (parts.getD j []) →
      body.wpIn (Fence.wide.inRound l) (n - 1 - 1) P (partsPost t n0 I Ix j W) ⟨(T.setIfInBounds p (.slice A m c)).setIfInBounds q (.slice A m c), []⟩ W)
    (hdone : ∀ (D : Nat) (W : World), w.heap.size ≤ D → I parts.length W → W.heap[D]? = some (.deferred (some [])) → Q .normal ⟨T, { target := .collected D, args := #[] } :: ds⟩ W)
    (hstop : ∀ (D : Nat) (W : World), w.heap.size ≤ D → Ix W → W.heap[D]? = some (.deferred (some [])) → Code.ret.wpIn Fence.wide n P Q ⟨T, { target := .collected D, args := #[] } :: ds⟩ W) :
    (Code.rangeFunc g ps assign body).wpIn Fence.wide n P Q ⟨T, ds⟩ w :=
  wpIn_parts hg eg hseq hb0 hn p hps I Ix hI hIx h0 (fun v => ⟨(T.setIfInBounds p v).setIfInBounds q v, []⟩) hassign hbody hdone hstop
end Go.Proofs.Ytpaomhgdpncdoaa

namespace Go.Proofs.Ytpaomhgdpncdoaa
open Go.RowKit
set_option linter.unusedVariables false
attribute [local go_sem] Oper.semAt_some

/-- append of bytes onto a row of the call's own, inside a fence -/
theorem wpListIn_append_bs {F : Fence} {k : Nat} {P : Program} {w : World} {ops : Array Oper} {rest : List Oper} {o : Oper} {a : Act} {Q : Exit → Act → World → Prop} (hgd : o.guard = none) (s x : Operand) (t : TypeId)
    (ho : o.op = .call { callee := .builtin .append, args := #[s, x], argTypes := #[t, t] })
    (base : Nat) (e : TypeId) (i : TypeInfo) (ht : P.underlying t = some (.slice e)) (hi : P.info? e = some i) (hz : i.zero = some (.int .u8 0)) (hsize : i.size = 1) (hby : i.bytes = 1)
    (A0 : Option Addr) (n c0 : Nat) (xs : List Int) (hs : a.eval s = .slice A0 n c0) (hown : OwnB e w base A0 n c0 xs)
    (A : Option Addr) (m c B : Nat) (ys : List Int) (hx : a.eval x = .slice A m c) (hb : Bs w B A m ys) (hn : n + m ≤ 140737488355328) (hbase : base ≤ w.heap.size)
    (h : ∀ A' c' w', OwnB e w' base A' (n + m) c' (xs ++ ys) → w.grownBy w' (Value.slice A0 n c0).ownBlock → ((Value.slice A' (n + m) c').ownBlock = (Value.slice A0 n c0).ownBlock ∨ (Value.slice A' (n + m) c').ownBlock = some w.heap.size) →
      wpListIn F k P ops Q rest (a.put o.dst (.slice A' (n + m) c')) w') : wpListIn F k P ops Q (o :: rest) a w := by
  refine wpListIn_plain hgd fun K hK => ?_
  obtain ⟨A', c', w', hrun, h2, h3, h4⟩ := run_append_bs (P := P) w base t o.type e i ht hi hz hsize hby A0 n c0 xs hown A m c B ys hb hn hbase
  unfold Oper.wpIn
  refine ⟨?_, ?_⟩
  · simp [Oper.about, ho, resolve, Target.leads, Sem.run_pure]
  · rw [Oper.semAt_plain F _ _ (by rw [ho]; intro c hc; cases hc)]
    simp only [execOp, ho, resolve, invoke, builtin, Sem.run_bind, Sem.run_pure, Result.andThen_ok, List.map_toArray, List.map_cons, List.map_nil, hs, hx, hrun]
    exact hK _ _ (h A' c' w' h2 h3 h4)

/-- the parts: what stands ahead of an option's data, then its data -/
def partsO (l : List Ob) : List (List Int) := l.flatMap fun o => [headO o, o.2]
theorem partsO_length : ∀ l : List Ob, (partsO l).length = l.length * 2
  | [] => rfl
  | o :: l => by
    have := partsO_length l
    unfold partsO at this ⊢
    simp only [List.flatMap_cons, List.cons_append, List.nil_append, List.length_cons]
    omega
theorem partsO_get : ∀ (l : List Ob) (i : Nat), i < l.length → (partsO l).getD (i * 2) [] = headO (l.getD i zeroB) ∧ (partsO l).getD (i * 2 + 1) [] = (l.getD i zeroB).2
  | [], i, h => by simp at h
  | o :: l, 0, _ => ⟨rfl, rfl⟩
  | o :: l, i + 1, h => by
    have ih := partsO_get l i (by simpa using h)
    have e : partsO (o :: l) = headO o :: o.2 :: partsO l := rfl
    rw [e, show (i + 1) * 2 = i * 2 + 1 + 1 by omega]
    simp only [List.getD_cons_succ]
    exact ih
theorem partsO_flat (l : List Ob) : (partsO l).flatten = flatO l := by
  induction l with
  | nil => rfl
  | cons o l ih =>
    have e : partsO (o :: l) = headO o :: o.2 :: partsO l := rfl
    rw [e, List.flatten_cons, List.flatten_cons, ih]
    simp [flatO]
theorem getD_v (os : List Od) (i : Nat) : (os.map Od.v).getD i zeroB = (os.getD i zeroO).v := by
  simp only [List.getD, List.getElem?_map]
  cases os[i]? <;> rfl

end Go.Proofs.Ytpaomhgdpncdoaa

namespace Go.Proofs.Ytpaomhgdpncdoaa
open Go.RowKit
set_option linter.unusedVariables false
attribute [local go_sem] Oper.semAt_some

theorem BlkV.kept {W W' : World} {t : TypeId} {g B : Nat} {vs : List Value} {row : Option Nat} (h : BlkV W t g vs) (hg : W.grownBy W' row) (hr : ∀ r, row = some r → B ≤ r ∧ ∃ o : Obj, W.heap[r]? = some o ∧ o.isCells = false) : BlkV W' t g vs :=
  (grownBy_keeps_cells hg (fun r e => (hr r e).2) h rfl).trans h
theorem chk_drop {l : List Ob} {i : Nat} (h : i < l.length) : chkO (l.drop i) = if (l.getD i zeroB).1 < 1 ∨ 255 < (l.getD i zeroB).1 then 2 else if fitsO (l.getD i zeroB).1 (l.getD i zeroB).2.length = false then 5 else chkO (l.drop (i + 1)) := by
  have e : l.drop i = l.getD i zeroB :: l.drop (i + 1) := by
    rw [List.drop_eq_getElem_cons h]
    simp [List.getD, h]
  rw [e]
  rfl

/-- between two parts: how much room is left -/
def CanI (w : World) (q : Nat) (ps : List (List Int)) (j : Nat) (W : World) : Prop :=
  (BlkV W 3 q [.int .i64 (40 - ((upto ps j).length : Int))] ∧ BlkV W 27 w.heap.size [.int .i64 0] ∧ (upto ps j).length ≤ 40) ∧ Below w.heap.size w W
/-- there is no room left -/
def CanX (w : World) (ps : List (List Int)) (W : World) : Prop := (BlkV W 27 w.heap.size [.int .i64 8] ∧ 40 < ps.flatten.length) ∧ Below w.heap.size w W
end Go.Proofs.Ytpaomhgdpncdoaa

namespace Go.Proofs.Ytpaomhgdpncdoaa
open Go.RowKit
set_option linter.unusedVariables false
attribute [local go_sem] Oper.semAt_some

section
variable {t : TypeId} {w w' : World} {base n c : Nat} {A : Option Addr} {ys : List Int}
theorem OwnB.far (h : OwnB t w base A n c ys) {p : Addr} (hp : p.block < base) (u : Value) : OwnB t (w.setCell p u) base A n c ys := by
  refine ⟨⟨h.1.1, ?_⟩, h.2⟩
  rcases h.1.2 with e | ⟨g, cap, cur, e, hbg, hg, r⟩
  · exact .inl e
  · exact .inr ⟨g, cap, cur, e, hbg, (Below.heap_setCell w p u g (by omega)).trans hg, r⟩
theorem OwnB.kept {row : Option Nat} (h : OwnB t w base A n c ys) (hg : w.grownBy w' row) (hr : ∀ r, row = some r → ∃ o : Obj, w.heap[r]? = some o ∧ o.isCells = false) : OwnB t w' base A n c ys := by
  refine ⟨⟨h.1.1, ?_⟩, h.2⟩
  rcases h.1.2 with e | ⟨g, cap, cur, e, hbg, hgg, r⟩
  · exact .inl e
  · exact .inr ⟨g, cap, cur, e, hbg, (grownBy_keeps_cells hg hr hgg rfl).trans hgg, r⟩
theorem OwnB.row (h : OwnB t w base A n c ys) : ∀ k, (Value.slice A n c).ownBlock = some k → ∃ cs z, w.heap[k]? = some (.cells cs t z) := fun k hk => by
  rcases h.1.2 with ⟨e, _⟩ | ⟨g, cap, cur, e, hbg, hg, r⟩
  · injection e with e1
    subst e1
    cases hk
  · injection e with e1
    subst e1
    have : g = k := by simpa [Value.ownBlock] using hk
    subst this
    exact ⟨_, _, hg⟩
end

/-- a list of bytes is handed back, and a number -/
def GivesBE (w : World) (ys : List Int) (x : Int) (e : Ending) (w' : World) : Prop :=
  ∃ A c, e = .returned (.tuple #[.slice A ys.length c, .int .i64 x]) ∧ Bs w' w'.heap.size A ys.length ys ∧ (ys.length ≤ c ∧ c ≤ 9223372036854775807) ∧ Below w.heap.size w w'
/-- between two parts: the bytes so far -/
def PutI (w : World) (q : Nat) (ps : List (List Int)) (j : Nat) (W : World) : Prop :=
  (∃ A c, BlkV W 22 q [.slice A (upto ps j).length c] ∧ OwnB 5 W (q + 1) A (upto ps j).length c (upto ps j)) ∧ Below w.heap.size w W
/-- how long the slice in a variable is -/
def lenAt (q : Nat) (w : World) : Nat := match w.cell? ⟨q, 0, none⟩ with
  | some (.slice _ n _) => n
  | _ => 0
theorem lenAt_eq {w : World} {q n c : Nat} {A : Option Addr} (h : w.cell? ⟨q, 0, none⟩ = some (.slice A n c)) : lenAt q w = n := by unfold lenAt; rw [h]

end Go.Proofs.Ytpaomhgdpncdoaa

namespace Go.Proofs.Ytpaomhgdpncdoaa
open Go.RowKit
set_option linter.unusedVariables false

theorem results_cell_tmp2 {P : Program} {fn : Func} {p q r : Tmp} {ty : TypeId} (h : fn.results = #[.cell p ty, .tmp q, .tmp r]) (tmps : Array Value) (w : World) (g : Nat) (t : TypeId) (cs : Array Value) (fr : Nat × Nat) (d : TypeDesc) (u v : Value)
    (hp : tmps.getD p undef = .pointer (some ⟨g, 0, none⟩)) (hq : tmps.getD q undef = u) (hr : tmps.getD r undef = v) (hg : w.heap[g]? = some (.cells cs t fr))
    (hu : P.underlying ty = some d) (hd : (match d with | .struct _ | .array _ _ => true | _ => false) = true) (hi : (P.info? ty).map (·.size) = some cs.size) :
    (results fn tmps).run P w = .ok (.tuple #[.agg cs, u, v]) w := by
  have hp' : tmps[p]?.getD undef = .pointer (some ⟨g, 0, none⟩) := by simpa using hp
  have hq' : tmps[q]?.getD undef = u := by simpa using hq
  have hr' : tmps[r]?.getD undef = v := by simpa using hr
  simp [results, h, hp', hq', hr', asAddr, run_loadVar_row w g t ty cs fr d hg hu hd hi]

/-- an option, two numbers -/
def GivesT (w : World) (r : Ob × Nat × Int) (e : Ending) (w' : World) : Prop :=
  ∃ o : Od, e = .returned (.tuple #[.agg #[.int .i64 o.k, .slice o.A o.n o.c], .int .i64 (r.2.1 : Nat), .int .i64 r.2.2]) ∧ o.v = r.1 ∧ (∀ X : Option Nat, (∀ x, X = some x → x < w.heap.size) → o.off w' X) ∧ Below w.heap.size w w'
end Go.Proofs.Ytpaomhgdpncdoaa

namespace Go.Proofs.Ytpaomhgdpncdoaa
open Go.RowKit
set_option linter.unusedVariables false

/-- data, and options, that lie from block lo on -/
def Od.from_ (lo : Nat) (o : Od) : Prop := 0 < o.n → ∃ b p, o.A = some ⟨b, p, none⟩ ∧ lo ≤ b
def OFrom (lo : Nat) (A : Option Addr) (n : Nat) (os : List Od) : Prop := (0 < n → ∃ b p, A = some ⟨b, p, none⟩ ∧ lo ≤ b) ∧ ∀ o ∈ os, o.from_ lo
theorem Od.from_.less {lo lo' : Nat} {o : Od} (h : o.from_ lo) (hl : lo' ≤ lo) : o.from_ lo' := fun hn => by
  obtain ⟨b, p, e, hb⟩ := h hn
  exact ⟨b, p, e, by omega⟩
theorem Od.from_.nul (lo : Nat) (k : Int) (A : Option Addr) (c : Nat) (d : List Int) : Od.from_ lo ⟨k, A, 0, c, d⟩ := fun h => absurd h (by show ¬ 0 < 0; omega)
theorem Od.from_.of_off {w : World} {lo : Nat} {o : Od} (h : ∀ X : Option Nat, (∀ x, X = some x → x < lo) → o.off w X) : o.from_ lo := fun hn => by
  obtain ⟨b, p, e, hb, -, -⟩ := (h none (fun x e => by cases e)).2.2.2.2 hn
  refine ⟨b, p, e, ?_⟩
  rcases Nat.lt_or_ge b lo with hlt | hge
  · obtain ⟨b', p', e', -, hne, -⟩ := (h (some b) (fun x e => by injection e with e; omega)).2.2.2.2 hn
    rw [e] at e'
    injection e' with e'
    injection e' with e1 _ _
    exact absurd (by rw [e1]) hne
  · exact hge
theorem OFrom.nil (lo : Nat) (A : Option Addr) : OFrom lo A 0 [] := ⟨fun h => absurd h (by omega), fun o h => by cases h⟩
theorem OFrom.own {t : TypeId} {w : World} {base lo n c : Nat} {A : Option Addr} {os : List Od} (h : OwnO t w base A n c os) (hl : lo ≤ base) (ho : ∀ o ∈ os, o.from_ lo) : OFrom lo A n os :=
  ⟨fun hn => by
    obtain ⟨g, cap, hv, hb, _⟩ := World.ownsRow.form h hn
    have hA : A = some ⟨g, 0, none⟩ := by injection hv
    exact ⟨g, 0, hA, by omega⟩, ho⟩

/-- options and a number are handed back -/
def GivesO (w : World) (r : List Ob × Int) (e : Ending) (w' : World) : Prop :=
  ∃ A c os, e = .returned (.tuple #[.slice A r.1.length c, .int .i64 r.2]) ∧ os.map Od.v = r.1 ∧ Os w' w'.heap.size A r.1.length os ∧ Below w.heap.size w w' ∧ OFrom w.heap.size A r.1.length os
theorem GivesO.err {w w' : World} {r : List Ob × Int} (k : Int) (h : r = ([], k)) (hB : Below w.heap.size w w') : GivesO w r (.returned (.tuple #[.slice none 0 0, .int .i64 k])) w' := by
  subst h
  exact ⟨none, 0, [], rfl, rfl, Os.nil _ _ _, hB, OFrom.nil _ _⟩
theorem Bs.behind {w : World} {B b o n s : Nat} {xs : List Int} (h : Bs w B (some ⟨b, o, none⟩) n xs) (hs : s ≤ n) : Bs w B (some ⟨b, o + s, none⟩) (n - s) (xs.drop s) :=
  ⟨by rw [List.length_drop, h.len], h.all.drop s, fun hn => by
    obtain ⟨b', o', e, hb, hc⟩ := h.mem (by omega)
    injection e with e
    injection e with e1 e2 _
    subst e1 e2
    refine ⟨_, _, rfl, hb, fun i hi => ?_⟩
    have := hc (s + i) (by omega)
    rw [← Nat.add_assoc] at this
    rw [this]
    simp [List.getD, List.getElem?_drop]⟩
theorem parseO_stop {f : Nat} {xs : List Int} (h : xs ≠ []) (h0 : xs.getD 0 0 = 0) : parseO (f + 1) xs = if zerosB xs = true then ([], 0) else ([], 5) := by rw [parseO, if_neg h, if_pos h0]
theorem parseO_next {f : Nat} {xs : List Int} (h : xs ≠ []) (h0 : xs.getD 0 0 ≠ 0) : parseO (f + 1) xs = if (takeO xs).2.2 = 0 then joinO [(takeO xs).1] (parseO f (xs.drop (takeO xs).2.1)) else ([], (takeO xs).2.2) := by rw [parseO, if_neg h, if_neg h0]
def valLen : Value → Nat
  | .slice _ n _ => n
  | _ => 0
end Go.Proofs.Ytpaomhgdpncdoaa

namespace Go.Proofs.Ytpaomhgdpncdoaa
open Go.RowKit
set_option linter.unusedVariables false

section
variable {P : Program} {ops : Array Oper} {Q : Exit → Act → World → Prop} {S : World → Prop}
/-- an operation that comes up alone, by its run -/
theorem walkS_run {i : Nat} {r : Plan} {d : Option Tmp} {op : Op} {t : TypeId} {pos : String} {aft : Array Edge} {g : Option (Nat × Bool)} {v : Value} {a : Act} {w w' : World} (hi : ops[i]? = some ⟨d, op, t, pos, aft, g⟩)
    (hw : Region.wanted ⟨d, op, t, pos, #[], g⟩ (yielded ops a.tmps) = true)
    (hv : (execOp a.eval ⟨d, op, t, pos, #[], g⟩).run P w = .ok (.value v) w') (hS : S w') (h : walkS P ops Q S r (a.put d v) w') : walkS P ops Q S (.act i r) a w :=
  walkS_act hi hw fun K hK => by
    unfold Oper.wp
    rw [hv]
    exact hK _ _ hS h
/-- one that stores -/
theorem walkS_put {i : Nat} {r : Plan} {d : Option Tmp} {op : Op} {t : TypeId} {pos : String} {aft : Array Edge} {g : Option (Nat × Bool)} {a : Act} {w w' : World} (hi : ops[i]? = some ⟨d, op, t, pos, aft, g⟩)
    (hw : Region.wanted ⟨d, op, t, pos, #[], g⟩ (yielded ops a.tmps) = true)
    (hv : (execOp a.eval ⟨d, op, t, pos, #[], g⟩).run P w = .ok .skip w') (hS : S w') (h : walkS P ops Q S r (a.put d undef) w') : walkS P ops Q S (.act i r) a w :=
  walkS_act hi hw fun K hK => by
    unfold Oper.wp
    rw [hv]
    exact hK _ _ hS h
end
theorem getD_drop (xs : List Int) (p i : Nat) : (xs.drop p).getD i 0 = xs.getD (p + i) 0 := by simp [List.getD, List.getElem?_drop]
theorem zeros_drop_false {xs : List Int} {p k : Nat} (hp : p ≤ k) (hk : k < xs.length) (h : xs.getD k 0 ≠ 0) : zerosB (xs.drop p) = false :=
  zerosB_false (k := k - p) (by rw [List.length_drop]; omega) (by rw [getD_drop, show p + (k - p) = k by omega]; exact h)
theorem zeros_drop_true {xs : List Int} {p : Nat} (h : ∀ k, p ≤ k → k < xs.length → xs.getD k 0 = 0) : zerosB (xs.drop p) = true :=
  zerosB_true fun j hj => by rw [getD_drop]; rw [List.length_drop] at hj; exact h _ (by omega) (by omega)

section
variable (A : Option Addr) (n c : Nat) (xs : List Int) (w : World)

/-- what takeO says of the bytes from a place on -/
theorem take_at (p : Nat) (hl : xs.length = n) (hp : p < n) : takeO (xs.drop p) =
    if xs.getD p 0 = 1 then ((1, []), 1, 0)
    else if p = n - 1 then (zeroB, 0, 3)
    else if xs.getD (p + 1) 0 < 2 then (zeroB, 0, 5)
    else if (n : Int) - p < xs.getD (p + 1) 0 then (zeroB, 0, 3)
    else if fitsO (xs.getD p 0) ((xs.getD (p + 1) 0).toNat - 2) = false then (zeroB, 0, 5)
    else ((xs.getD p 0, (xs.drop (p + 2)).take ((xs.getD (p + 1) 0).toNat - 2)), (xs.getD (p + 1) 0).toNat, 0) := by
  unfold takeO
  rw [getD_drop, getD_drop, List.length_drop, hl, List.drop_drop]
  by_cases h1 : xs.getD p 0 = 1
  · rw [if_pos h1, if_pos (by simpa using h1)]
  · rw [if_neg h1, if_neg (by simpa using h1)]
    by_cases h2 : p = n - 1
    · rw [if_pos h2, if_pos (by omega)]
    · rw [if_neg h2, if_neg (by omega)]
      by_cases h3 : xs.getD (p + 1) 0 < 2
      · rw [if_pos h3, if_pos h3]
      · rw [if_neg h3, if_neg h3]
        by_cases h4 : (n : Int) - p < xs.getD (p + 1) 0
        · rw [if_pos h4, if_pos (by omega)]
        · rw [if_neg h4, if_neg (by omega), Nat.add_zero]

end
end Go.Proofs.Ytpaomhgdpncdoaa

namespace Go.Proofs.Ytpaomhgdpncdoaa
open Go.RowKit
set_option linter.unusedVariables false

def findO : List Ob → Int → List Int × Bool
  | [], _ => ([], false)
  | o :: l, k => if o.1 = k then (o.2, true) else findO l k
theorem find_drop {os : List Od} {i : Nat} (k : Int) (h : i < os.length) : findO ((os.map Od.v).drop i) k = if (os.getD i zeroO).k = k then ((os.getD i zeroO).d, true) else findO ((os.map Od.v).drop (i + 1)) k := by
  have e : (os.map Od.v).drop i = (os.getD i zeroO).v :: (os.map Od.v).drop (i + 1) := by
    rw [List.drop_eq_getElem_cons (by simpa using h)]
    simp [List.getD, h]
  rw [e]
  rfl

end Go.Proofs.Ytpaomhgdpncdoaa
