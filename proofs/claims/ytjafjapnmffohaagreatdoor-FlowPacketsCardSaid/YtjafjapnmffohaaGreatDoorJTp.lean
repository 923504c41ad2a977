/- Texts joined.
  Plain words for slices of options (an int and a slice of bytes) in memory: what such a slice reads as, how that is kept while memory grows; append onto a row of the call's own. No condition.
  The page's words on options, as functions of lists: whether they can be, their bytes, the options of bytes; what was put is parsed as what it was. No program here.
  What the document's own Same answers: are two lists of options the same? Condition: at most 2^47 options.
  How long the data of a kind must be: what topt.fits and the document's own Long answer. Condition: the kind is an int.
  A range over a function that hands out lists of bytes which lie in memory: a law for the caller whose body may read each of them. No condition.
  topt.laid: the function that it hands back goes over the bytes of options, part by part. Condition: at most 2^47 options.
  What topt.Can answers: whether options can be. Condition: at most 2^47 options.
  What the document's own Can answers: whether options can be. Condition: at most 2^47 options.
  What topt.Put answers: the bytes of options. Condition: at most 2^47 options.
  What the document's own Put answers: the bytes of options. Condition: at most 2^47 options.
  What topt.take and topt.Parse answer: the options of bytes. Condition: at most 2^47 bytes.
  What topt.Parse answers: the options of bytes. Condition: at most 2^47 bytes.
  What the document's own Parse answers: the options of bytes. Condition: at most 40 bytes where they are gone over.
  What the document's own Parse answers: the options of bytes. Condition: at most 2^47 bytes.
  What Find answers, topt's and the document's: the data of the first option of a kind. Condition: at most 2^47 options.
  What Segment answers, topt's and the document's: how long segments may be. Condition: at most 2^47 options.
-/
import Derived.Test.YtjafjapnmffohaaGreatDoorJOct
import Derived.Test.YtjafjapnmffohaaGreatDoorApp
import Derived.Test.YtjafjapnmffohaaGreatDoorJReg
import Derived.WalkMore
import Derived.Lib.Bytes
import Derived.Maps.OwnSet
import Derived.Test.YtjafjapnmffohaaGreatDoorBytes
import Derived.RangeFuncNested
import Derived.RangeFuncCalls
import Derived.RangeFuncLeaves
import Derived.WalkKit
import Derived.OwnWalkIn
import Derived.TacticsInMore
import Derived.LoopNIn
import Derived.LoopIn
import Derived.Test.YtjafjapnmffohaaGreatDoorVals
set_option maxRecDepth 100000
namespace Go.Proofs.YtjafjapnmffohaaGreatDoor
open Go.RowKit
set_option linter.unusedVariables false

/-- an option as it lies: its kind; where its data is, how long, with how much room; the data -/
structure Od where
  k : Int
  A : Option Addr
  n : Nat
  c : Nat
  d : List Int
/-- what an option says -/
abbrev Ob := Int × List Int
def Od.v (o : Od) : Ob := (o.k, o.d)
def zeroO : Od := ⟨0, none, 0, 0, []⟩
def zeroB : Ob := (0, [])
/-- its data lies below block B -/
def Od.ok (w : World) (B : Nat) (o : Od) : Prop := i64ok o.k ∧ o.n ≤ 140737488355328 ∧ Bs w B o.A o.n o.d
theorem zeroO_ok (w : World) (B : Nat) : zeroO.ok w B := ⟨by simp [zeroO, i64ok], by simp [zeroO], Bs.nil w B none⟩
theorem Od.ok.keep {w w' : World} {B : Nat} {o : Od} (h : o.ok w B) (hk : ∀ p : Addr, p.block < B → w'.cell? p = w.cell? p) : o.ok w' B := ⟨h.1, h.2.1, h.2.2.keep hk⟩
theorem Od.ok.more {w : World} {B B' : Nat} {o : Od} (h : o.ok w B) (hB : B ≤ B') : o.ok w B' := ⟨h.1, h.2.1, h.2.2.more hB⟩

/-- the cells of a list of such -/
def odC (o : Od) : List Value := [.int .i64 o.k, .slice o.A o.n o.c]
def cellsO (os : List Od) : List Value := os.flatMap odC
theorem cellsO_nil : cellsO [] = [] := rfl
theorem cellsO_cons (o : Od) (os : List Od) : cellsO (o :: os) = .int .i64 o.k :: .slice o.A o.n o.c :: cellsO os := rfl
theorem cellsO_append (xs ys : List Od) : cellsO (xs ++ ys) = cellsO xs ++ cellsO ys := by simp [cellsO]
theorem cellsO_length : ∀ os : List Od, (cellsO os).length = os.length * 2
  | [] => rfl
  | o :: os => by rw [cellsO_cons]; simp only [List.length_cons, cellsO_length os]; omega
theorem cellsO_one : ∀ (os : List Od), ∀ u ∈ cellsO os, u.oneCell' = true
  | [], u, h => by cases h
  | o :: os, u, h => by
    rw [cellsO_cons] at h
    simp only [List.mem_cons] at h
    rcases h with rfl | rfl | h
    · rfl
    · rfl
    · exact cellsO_one os u h
theorem cellsO_get : ∀ (os : List Od) (i : Nat), i < os.length → (cellsO os)[i * 2]? = some (.int .i64 (os.getD i zeroO).k) ∧ (cellsO os)[i * 2 + 1]? = some (.slice (os.getD i zeroO).A (os.getD i zeroO).n (os.getD i zeroO).c)
  | [], i, h => by simp at h
  | o :: os, 0, _ => ⟨rfl, rfl⟩
  | o :: os, i + 1, h => by
    have ih := cellsO_get os i (by simpa using h)
    rw [cellsO_cons, show (i + 1) * 2 = i * 2 + 1 + 1 by omega]
    simp only [List.getElem?_cons_succ, List.getD_cons_succ]
    exact ih

/-- the slice at A, n long, holds os, below block B -/
structure Os (w : World) (B : Nat) (A : Option Addr) (n : Nat) (os : List Od) : Prop where
  len : os.length = n
  all : ∀ o ∈ os, o.ok w B
  mem : 0 < n → ∃ b o, A = some ⟨b, o, none⟩ ∧ b < B ∧ ∀ i, i < n → w.cell? ⟨b, o + i * 2, none⟩ = some (.int .i64 (os.getD i zeroO).k) ∧ w.cell? ⟨b, o + i * 2 + 1, none⟩ = some (.slice (os.getD i zeroO).A (os.getD i zeroO).n (os.getD i zeroO).c)

theorem getD_mem {os : List Od} {i : Nat} (h : i < os.length) : os.getD i zeroO ∈ os := by
  have e : os.getD i zeroO = os[i] := by simp [List.getD, h]
  rw [e]; exact List.getElem_mem h

section
variable {w w' : World} {B B' n : Nat} {A : Option Addr} {os : List Od}
theorem Os.nil (w : World) (B : Nat) (A : Option Addr) : Os w B A 0 [] := ⟨rfl, fun _ h => (by cases h), fun h => absurd h (by omega)⟩
theorem Os.keep (h : Os w B A n os) (hk : ∀ p : Addr, p.block < B → w'.cell? p = w.cell? p) : Os w' B A n os :=
  ⟨h.len, fun o ho => (h.all o ho).keep hk, fun hn => by
    obtain ⟨b, o, e, hb, hc⟩ := h.mem hn
    exact ⟨b, o, e, hb, fun i hi => ⟨(hk _ hb).trans (hc i hi).1, (hk _ hb).trans (hc i hi).2⟩⟩⟩
theorem Os.more (h : Os w B A n os) (hB : B ≤ B') : Os w B' A n os :=
  ⟨h.len, fun o ho => (h.all o ho).more hB, fun hn => by
    obtain ⟨b, o, e, hb, hc⟩ := h.mem hn
    exact ⟨b, o, e, by omega, hc⟩⟩
theorem Os.below (h : Os w B A n os) (hb : Below B w w') : Os w' B A n os := h.keep fun _ hp => hb.cell hp
theorem Os.below' (h : Os w B A n os) (hb : Below B w w') (hB : B ≤ B') : Os w' B' A n os := (h.below hb).more hB
theorem Os.at_ (h : Os w B A n os) {i : Nat} (hi : i < n) : (os.getD i zeroO).ok w B := h.all _ (getD_mem (by rw [h.len]; exact hi))
theorem Os.src (h : Os w B A n os) (hp : 0 < (cellsO os).length) : ∃ ad, A = some ad ∧ ∀ j v, (cellsO os)[j]? = some v → w.cell? (ad.add j) = some v := by
  rw [cellsO_length, h.len] at hp
  obtain ⟨b, o, rfl, _, hc⟩ := h.mem (by omega)
  refine ⟨_, rfl, fun j v hv => ?_⟩
  have hl := h.len
  have hj : j < os.length * 2 := by have := (List.getElem?_eq_some_iff.1 hv).1; rwa [cellsO_length] at this
  have hq : j / 2 < os.length := by omega
  have hg := cellsO_get os (j / 2) hq
  have hk := hc (j / 2) (by omega)
  rw [Addr.add_lit]
  have h3 : j = j / 2 * 2 ∨ j = j / 2 * 2 + 1 := by omega
  rcases h3 with e | e
  · rw [← e] at hg hk
    rw [hg.1] at hv
    rw [hk.1]; exact hv
  · have e2 : o + j = o + j / 2 * 2 + 1 := by omega
    rw [e2, hk.2]
    rw [e, hg.2] at hv
    exact hv
theorem Os.of_cells (hl : os.length = n) (ha : ∀ o ∈ os, o.ok w B) {b o : Nat} (hb : b < B) (hc : ∀ j v, (cellsO os)[j]? = some v → w.cell? ⟨b, o + j, none⟩ = some v) : Os w B (some ⟨b, o, none⟩) n os :=
  ⟨hl, ha, fun _ => ⟨b, o, rfl, hb, fun i hi => by
    have hg := cellsO_get os i (by omega)
    have h1 := hc _ _ hg.1
    have h2 := hc _ _ hg.2
    rw [← Nat.add_assoc] at h2
    exact ⟨h1, h2⟩⟩⟩
theorem Os.one (w : World) (t : TypeId) (o : Od) {B : Nat} (ho : o.ok w w.heap.size) (hB : w.heap.size < B) : Os (w.alloc (.cells #[.int .i64 o.k, .slice o.A o.n o.c] t)) B (some ⟨w.heap.size, 0, none⟩) 1 [o] :=
  Os.of_cells (os := [o]) rfl (fun p hp => by
    obtain rfl : p = o := by simpa using hp
    exact (ho.keep fun q hq => World.cell?_alloc_lt w _ q hq).more (by omega)) hB fun j v hv => by
    have hj : j < 2 := by have := (List.getElem?_eq_some_iff.1 hv).1; rwa [cellsO_length] at this
    rw [Nat.zero_add, cell_of_row _ w.heap.size j _ t (0, 0) (heap_alloc_new w _)]
    have e : (#[.int .i64 o.k, .slice o.A o.n o.c] : Array Value)[j]? = (cellsO [o])[j]? := by
      rw [cellsO_cons, cellsO_nil, ← List.getElem?_toArray]
    rw [e]; exact hv
end

/-- the slice (A, n, c) is a row of the call's own, from block 'base' on, and its cells are those of os -/
def OwnO (t : TypeId) (w : World) (base : Nat) (A : Option Addr) (n c : Nat) (os : List Od) : Prop := w.ownsRow base t 2 (.slice A n c) n (cellsO os)
/-- the data of an option lies in another block than X -/
def Od.off (w : World) (X : Option Nat) (o : Od) : Prop := i64ok o.k ∧ o.n ≤ 140737488355328 ∧ o.d.length = o.n ∧ AllB o.d ∧ (0 < o.n → ∃ b p, o.A = some ⟨b, p, none⟩ ∧ b < w.heap.size ∧ some b ≠ X ∧ ∀ i, i < o.n → w.cell? ⟨b, p + i, none⟩ = some (.int .u8 (o.d.getD i 0)))
theorem Od.off.ok {w : World} {X : Option Nat} {o : Od} (h : o.off w X) : o.ok w w.heap.size := ⟨h.1, h.2.1, h.2.2.1, h.2.2.2.1, fun hn => by
  obtain ⟨b, p, e, hb, _, hc⟩ := h.2.2.2.2 hn
  exact ⟨b, p, e, hb, hc⟩⟩
theorem Od.off.grown {w w' : World} {X X' : Option Nat} {o : Od} (h : o.off w X) (hg : w.grownBy w' X) (hX : X' = X ∨ X' = some w.heap.size) : o.off w' X' := ⟨h.1, h.2.1, h.2.2.1, h.2.2.2.1, fun hn => by
  obtain ⟨b, p, e, hb, hx, hc⟩ := h.2.2.2.2 hn
  refine ⟨b, p, e, Nat.lt_of_lt_of_le hb hg.size, ?_, fun i hi => (World.cell?_of_block (hg.block b hb hx)).trans (hc i hi)⟩
  rcases hX with rfl | rfl
  · exact hx
  · intro e; injection e with e; omega⟩
theorem Od.off.below {w w' : World} {X : Option Nat} {o : Od} (h : o.off w X) (hb : Below w.heap.size w w') : o.off w' X := ⟨h.1, h.2.1, h.2.2.1, h.2.2.2.1, fun hn => by
  obtain ⟨b, p, e, hlt, hx, hc⟩ := h.2.2.2.2 hn
  exact ⟨b, p, e, Nat.lt_of_lt_of_le hlt hb.size, hx, fun i hi => (hb.cell (p := ⟨b, p + i, none⟩) hlt).trans (hc i hi)⟩⟩
theorem Od.off.nul (w : World) (X : Option Nat) (k : Int) (c : Nat) (hk : i64ok k) : Od.off w X ⟨k, none, 0, c, []⟩ := ⟨hk, Nat.zero_le _, rfl, AllB.nil, fun h => absurd h (by show ¬ 0 < 0; omega)⟩
theorem Od.off.new {w w' : World} {t : TypeId} {X : Option Nat} {k : Int} {n c : Nat} {ys : List Int} {g : Nat} (hk : i64ok k) (hn : n ≤ 140737488355328) (hl : ys.length = n) (ha : AllB ys) (hb : Blk w' t g ys) (hg : w.heap.size ≤ g) (hX : ∀ x, X = some x → x < w.heap.size) : Od.off w' X ⟨k, some ⟨g, 0, none⟩, n, c, ys⟩ :=
  ⟨hk, hn, hl, ha, fun _ => ⟨g, 0, rfl, hb.lt, fun e => by have := hX g e.symm; omega, fun i hi => by
    have hi' : i < ys.length := by rw [hl]; exact hi
    rw [Nat.zero_add, hb.cell i, cellsB_get hi']⟩⟩

section
variable {t : TypeId} {w w' : World} {base n c : Nat} {A : Option Addr} {os : List Od}
theorem OwnO.len (h : OwnO t w base A n c os) : os.length = n := by have := h.1; rw [cellsO_length] at this; omega
theorem OwnO.lt (h : OwnO t w base A n c os) : ∀ k, (Value.slice A n c).ownBlock = some k → base ≤ k ∧ k < w.heap.size := World.ownsRow.lt h
theorem OwnO.below (h : OwnO t w base A n c os) (hb : Below w.heap.size w w') : OwnO t w' base A n c os := by
  refine ⟨h.1, ?_⟩
  rcases h.2 with e | ⟨g, cap, cur, e, hbg, hg, r⟩
  · exact .inl e
  · exact .inr ⟨g, cap, cur, e, hbg, by rw [hb.block g (Array.getElem?_eq_some_iff.1 hg).1]; exact hg, r⟩
theorem OwnO.none_ (t : TypeId) (w : World) (base : Nat) : OwnO t w base none 0 0 [] := ⟨rfl, .inl ⟨rfl, rfl⟩⟩
theorem OwnO.one (w : World) (t : TypeId) (o : Od) (hb : base ≤ w.heap.size) : OwnO t (w.alloc (.cells #[.int .i64 o.k, .slice o.A o.n o.c] t)) base (some ⟨w.heap.size, 0, none⟩) 1 1 [o] :=
  ⟨rfl, .inr ⟨w.heap.size, 1, _, rfl, hb, heap_alloc_new w _, Nat.le_refl _, by simp [maxLen], rfl, rfl⟩⟩
theorem OwnO.lies (h : OwnO t w base A n c os) {B : Nat} (hB : w.heap.size ≤ B) (ha : ∀ o ∈ os, o.ok w B) : Os w B A n os := by
  refine ⟨h.len, ha, fun hn => ?_⟩
  obtain ⟨g, cap, hv, _, hlt⟩ := World.ownsRow.form h hn
  have hA : A = some ⟨g, 0, none⟩ := by injection hv
  subst hA
  have hr : Os w B (some ⟨g, 0, none⟩) n os := Os.of_cells h.len ha (by omega) fun j v hv => by
    have := World.ownsRow.cells h (g := g) rfl j v hv
    simpa [Addr.add_lit] using this
  exact hr.mem hn
end

theorem run_append_none_o {P : Program} {w : World} {base : Nat} {t ty e : TypeId} {i : TypeInfo} (ht : P.underlying t = some (.slice e)) (hi : P.info? e = some i)
    {v : Value} {n : Nat} {xs : List Value} (hown : w.ownsRow base e 2 v n xs) (c : Nat) : (Builtin.append_ #[t, t] ty #[v, .slice none 0 c]).run P w = .ok v w := by
  rcases hown.2 with ⟨rfl, rfl⟩ | ⟨g, cap, cur, rfl, _, _, hnc, _⟩
  · simp [Builtin.append_, run_underlying ht, sizeOf, typeInfo, hi, Builtin.lenOf, Builtin.firstCells]
  · simp [Builtin.append_, run_underlying ht, sizeOf, typeInfo, hi, Builtin.lenOf, Builtin.firstCells, hnc, storeCells]

def zeroOV : Value := .agg #[.int .i64 0, .slice none 0 0]
theorem run_append_os {P : Program} (w : World) (base : Nat) (t ty e : TypeId) (i : TypeInfo) (ht : P.underlying t = some (.slice e)) (hi : P.info? e = some i) (hz : i.zero = some zeroOV)
    (hsize : i.size = 2) (hby : i.bytes = 32) (A0 : Option Addr) (n c0 : Nat) (xs : List Od) (hown : OwnO e w base A0 n c0 xs)
    (A : Option Addr) (m c : Nat) (B : Nat) (ys : List Od) (hs : Os w B A m ys) (hb : n + m ≤ 4294967296) (hbase : base ≤ w.heap.size) :
    ∃ A' c' w', (Builtin.append_ #[t, t] ty #[.slice A0 n c0, .slice A m c]).run P w = .ok (.slice A' (n + m) c') w' ∧ OwnO e w' base A' (n + m) c' (xs ++ ys) ∧
      w.grownBy w' (Value.slice A0 n c0).ownBlock ∧ ((Value.slice A' (n + m) c').ownBlock = (Value.slice A0 n c0).ownBlock ∨ (Value.slice A' (n + m) c').ownBlock = some w.heap.size) := by
  have hlen := hs.len
  cases A with
  | none =>
    have hm : m = 0 := by
      rcases Nat.eq_zero_or_pos m with h0 | h0
      · exact h0
      · obtain ⟨b, o, h, _⟩ := hs.mem h0
        cases h
    subst hm
    obtain rfl : ys = [] := List.eq_nil_of_length_eq_zero hlen
    exact ⟨A0, c0, w, run_append_none_o ht hi hown c, by simpa using hown, World.grownBy.refl w _, .inl rfl⟩
  | some ad =>
    have hnews : ∀ j u, (cellsO ys)[j]? = some u → w.cell? (ad.add j) = some u := by
      intro j u hu
      have hpos : 0 < (cellsO ys).length := by have := (List.getElem?_eq_some_iff.1 hu).1; omega
      obtain ⟨ad', e1, h⟩ := hs.src hpos
      injection e1 with e1
      subst e1
      exact h j u hu
    obtain ⟨v', w', hrun, h2, h3, _, h5⟩ := run_append_own_at (P := P) w base t ty e i zeroOV 2 32 ht hi hz hsize hby rfl (by omega) (.slice A0 n c0) n (cellsO xs) hown ad m c (cellsO ys) (by rw [cellsO_length]; omega) hnews (cellsO_one ys) (by simp only [maxLen]; omega) (by omega) hbase
    rw [← cellsO_append] at h2
    have hform : ∃ A' c', v' = .slice A' (n + m) c' := by
      rcases h2.2 with ⟨e1, e2⟩ | ⟨g, cap, cur, e1, _⟩
      · exact ⟨none, 0, by rw [e1, e2]⟩
      · exact ⟨_, _, e1⟩
    obtain ⟨A', c', rfl⟩ := hform
    exact ⟨A', c', w', hrun, h2, h3, h5⟩

/-- as an operation that is carried out -/
theorem wp_append_os {P : Program} {w : World} {o : Oper} {a : Act} {K : Act → World → Prop} {Q : Exit → Act → World → Prop} (s x : Operand) (t : TypeId)
    (ho : o.op = .call { callee := .builtin .append, args := #[s, x], argTypes := #[t, t] })
    (base : Nat) (e : TypeId) (i : TypeInfo) (ht : P.underlying t = some (.slice e)) (hi : P.info? e = some i) (hz : i.zero = some zeroOV) (hsize : i.size = 2) (hby : i.bytes = 32)
    (A0 : Option Addr) (n c0 : Nat) (xs : List Od) (hs : a.eval s = .slice A0 n c0) (hown : OwnO e w base A0 n c0 xs)
    (A : Option Addr) (m c B : Nat) (ys : List Od) (hx : a.eval x = .slice A m c) (hb : Os w B A m ys) (hn : n + m ≤ 4294967296) (hbase : base ≤ w.heap.size)
    (h : ∀ A' c' w', OwnO e w' base A' (n + m) c' (xs ++ ys) → w.grownBy w' (Value.slice A0 n c0).ownBlock → ((Value.slice A' (n + m) c').ownBlock = (Value.slice A0 n c0).ownBlock ∨ (Value.slice A' (n + m) c').ownBlock = some w.heap.size) →
      K (a.put o.dst (.slice A' (n + m) c')) w') : o.wp P a w K Q := by
  obtain ⟨A', c', w', hrun, h2, h3, h4⟩ := run_append_os (P := P) w base t o.type e i ht hi hz hsize hby A0 n c0 xs hown A m c B ys hb hn hbase
  unfold Oper.wp execOp
  simp only [ho, resolve, invoke, builtin, Sem.run_bind, Sem.run_pure, Result.andThen_ok, List.map_toArray, List.map_cons, List.map_nil, hs, hx, hrun]
  exact h A' c' w' h2 h3 h4
theorem wpList_append_os {P : Program} {w : World} {ops : Array Oper} {rest : List Oper} {o : Oper} {a : Act} {Q : Exit → Act → World → Prop} (hgd : o.guard = none) (s x : Operand) (t : TypeId)
    (ho : o.op = .call { callee := .builtin .append, args := #[s, x], argTypes := #[t, t] })
    (base : Nat) (e : TypeId) (i : TypeInfo) (ht : P.underlying t = some (.slice e)) (hi : P.info? e = some i) (hz : i.zero = some zeroOV) (hsize : i.size = 2) (hby : i.bytes = 32)
    (A0 : Option Addr) (n c0 : Nat) (xs : List Od) (hs : a.eval s = .slice A0 n c0) (hown : OwnO e w base A0 n c0 xs)
    (A : Option Addr) (m c B : Nat) (ys : List Od) (hx : a.eval x = .slice A m c) (hb : Os w B A m ys) (hn : n + m ≤ 4294967296) (hbase : base ≤ w.heap.size)
    (h : ∀ A' c' w', OwnO e w' base A' (n + m) c' (xs ++ ys) → w.grownBy w' (Value.slice A0 n c0).ownBlock → ((Value.slice A' (n + m) c').ownBlock = (Value.slice A0 n c0).ownBlock ∨ (Value.slice A' (n + m) c').ownBlock = some w.heap.size) →
      wpList P ops Q rest (a.put o.dst (.slice A' (n + m) c')) w') : wpList P ops Q (o :: rest) a w :=
  wpList_plain hgd fun _ hK => wp_append_os s x t ho base e i ht hi hz hsize hby A0 n c0 xs hs hown A m c B ys hx hb hn hbase fun A' c' w' h2 h3 h4 => hK _ _ (h A' c' w' h2 h3 h4)
end Go.Proofs.YtjafjapnmffohaaGreatDoor

namespace Go.Proofs.YtjafjapnmffohaaGreatDoor
open Go.RowKit
set_option linter.unusedVariables false

/-- how long the data of a kind must be; below 0: any -/
def longR (k : Int) : Int := if k = 1 ∨ k = 4 then 0 else if k = 2 then 2 else if k = 3 then 1 else if k = 8 then 8 else -1
def fitsO (k : Int) (n : Nat) : Bool := decide (longR k < 0) || decide (longR k = n)
theorem longR_range (k : Int) : -1 ≤ longR k ∧ longR k ≤ 8 := by
  unfold longR
  repeat' split
  all_goals omega
/-- option by option -/
def chkO : List Ob → Int
  | [] => 0
  | o :: l => if o.1 < 1 ∨ 255 < o.1 then 2 else if fitsO o.1 o.2.length = false then 5 else chkO l
def sizeO (o : Ob) : Nat := if o.1 = 1 then 1 else 2 + o.2.length
def sumO (l : List Ob) : Nat := (l.map sizeO).sum
def canO (l : List Ob) : Int := if chkO l = 0 then (if 40 < sumO l then 8 else 0) else chkO l
/-- what stands ahead of an option's data -/
def headO (o : Ob) : List Int := if o.1 = 1 then [1] else [o.1 % 256, (2 + (o.2.length : Int)) % 256]
def flatO (l : List Ob) : List Int := l.flatMap fun o => headO o ++ o.2
def padN (n : Nat) : Nat := (4 - n % 4) % 4
def padO (xs : List Int) : List Int := xs ++ List.replicate (padN xs.length) 0
def putO (l : List Ob) : List Int := if canO l = 0 then padO (flatO l) else []

theorem chkO_err : ∀ l : List Ob, chkO l = 0 ∨ chkO l = 2 ∨ chkO l = 5
  | [] => .inl rfl
  | o :: l => by
    unfold chkO
    split
    · exact .inr (.inl rfl)
    · split
      · exact .inr (.inr rfl)
      · exact chkO_err l
theorem canO_err (l : List Ob) : 0 ≤ canO l ∧ canO l ≤ 8 := by
  unfold canO
  rcases chkO_err l with h | h | h <;> rw [h] <;> repeat' split
  all_goals omega
theorem chkO_cons {o : Ob} {l : List Ob} (h : chkO (o :: l) = 0) : 1 ≤ o.1 ∧ o.1 ≤ 255 ∧ fitsO o.1 o.2.length = true ∧ chkO l = 0 := by
  unfold chkO at h
  split at h
  · omega
  · split at h
    · omega
    · rename_i h1 h2
      exact ⟨by omega, by omega, by simpa using h2, h⟩
theorem chkO_mem : ∀ {l : List Ob}, chkO l = 0 → ∀ o ∈ l, 1 ≤ o.1 ∧ o.1 ≤ 255 ∧ fitsO o.1 o.2.length = true
  | [], _, o, h => by cases h
  | a :: l, hl, o, h => by
    have hc := chkO_cons hl
    rcases List.mem_cons.1 h with rfl | h
    · exact ⟨hc.1, hc.2.1, hc.2.2.1⟩
    · exact chkO_mem hc.2.2.2 o h
theorem canO_zero {l : List Ob} (h : canO l = 0) : chkO l = 0 ∧ sumO l ≤ 40 := by
  unfold canO at h
  split at h
  · rename_i h1
    split at h
    · omega
    · exact ⟨h1, by omega⟩
  · rename_i h1
    exact absurd h h1
theorem fits_nop {n : Nat} (h : fitsO 1 n = true) : n = 0 := by
  simp only [fitsO, longR] at h
  simp at h
  omega
theorem head_len (o : Ob) : (headO o).length = if o.1 = 1 then 1 else 2 := by unfold headO; split <;> rfl
theorem part_len {o : Ob} (h : fitsO o.1 o.2.length = true) : (headO o).length + o.2.length = sizeO o := by
  rw [head_len]
  unfold sizeO
  split
  · rename_i e
    rw [e] at h
    have := fits_nop h
    omega
  · rfl
theorem flat_len : ∀ {l : List Ob}, chkO l = 0 → (flatO l).length = sumO l
  | [], _ => rfl
  | o :: l, h => by
    have hc := chkO_cons h
    have ih := flat_len hc.2.2.2
    have hp := part_len hc.2.2.1
    unfold flatO sumO at ih ⊢
    simp only [List.flatMap_cons, List.map_cons, List.sum_cons, List.length_append] at ih ⊢
    omega
theorem pad_mod (n : Nat) : (n + padN n) % 4 = 0 := by unfold padN; omega
theorem pad_lt (n : Nat) : padN n < 4 := by unfold padN; omega
theorem padO_len (xs : List Int) : (padO xs).length = xs.length + padN xs.length := by simp [padO]
theorem head_all (o : Ob) : AllB (headO o) := by
  unfold headO
  split
  · exact .cons (by omega) (by omega) .nil
  · exact .cons (by omega) (by omega) (.cons (by omega) (by omega) .nil)
theorem zeros_all (n : Nat) : AllB (List.replicate n 0) := fun x hx => by
  rw [List.eq_of_mem_replicate hx]; omega

/-- the option, no byte 0, that bytes begin with; how many bytes it has; or why there is none -/
def takeO (xs : List Int) : Ob × Nat × Int :=
  if xs.getD 0 0 = 1 then ((1, []), 1, 0)
  else if xs.length < 2 then (zeroB, 0, 3)
  else if xs.getD 1 0 < 2 then (zeroB, 0, 5)
  else if (xs.length : Int) < xs.getD 1 0 then (zeroB, 0, 3)
  else if fitsO (xs.getD 0 0) ((xs.getD 1 0).toNat - 2) = false then (zeroB, 0, 5)
  else ((xs.getD 0 0, (xs.drop 2).take ((xs.getD 1 0).toNat - 2)), (xs.getD 1 0).toNat, 0)
def joinO (os : List Ob) (r : List Ob × Int) : List Ob × Int := if r.2 = 0 then (os ++ r.1, 0) else ([], r.2)
/-- the options of bytes, at most f - 1 of them -/
def parseO : Nat → List Int → List Ob × Int
  | 0, _ => ([], 0)
  | f + 1, xs =>
    if xs = [] then ([], 0)
    else if xs.getD 0 0 = 0 then (if zerosB xs = true then ([], 0) else ([], 5))
    else if (takeO xs).2.2 = 0 then joinO [(takeO xs).1] (parseO f (xs.drop (takeO xs).2.1))
    else ([], (takeO xs).2.2)
def parseL (xs : List Int) : List Ob × Int := if 40 < xs.length then ([], 4) else parseO 41 xs

theorem joinO_nil (r : List Ob × Int) (h : r.2 ≠ 0 → r.1 = []) : joinO [] r = r := by
  unfold joinO
  split
  · rename_i e; rw [← e]; simp
  · rename_i e; rw [← h e]
theorem joinO_join (a b : List Ob) (r : List Ob × Int) : joinO a (joinO b r) = joinO (a ++ b) r := by
  unfold joinO
  by_cases h : r.2 = 0
  · simp [h]
  · simp [h]
theorem parseO_err_nil : ∀ (f : Nat) (xs : List Int), (parseO f xs).2 ≠ 0 → (parseO f xs).1 = []
  | 0, xs, h => absurd rfl h
  | f + 1, xs, h => by
    unfold parseO at h ⊢
    split
    · rfl
    · split
      · split <;> rfl
      · split
        · unfold joinO
          rename_i h1 h2 h3
          rw [if_neg h1, if_neg h2, if_pos h3] at h
          unfold joinO at h
          split
          · rename_i h4
            rw [if_pos h4] at h
            exact absurd rfl h
          · rfl
        · rfl
theorem takeO_err (xs : List Int) : (takeO xs).2.2 = 0 ∨ (takeO xs).2.2 = 3 ∨ (takeO xs).2.2 = 5 := by
  unfold takeO
  repeat' split
  all_goals simp
theorem takeO_size {xs : List Int} (h : (takeO xs).2.2 = 0) (hn : 0 < xs.length) : 1 ≤ (takeO xs).2.1 ∧ (takeO xs).2.1 ≤ xs.length := by
  unfold takeO at h ⊢
  split
  · exact ⟨Nat.le_refl _, hn⟩
  · rename_i h1
    rw [if_neg h1] at h
    split
    · rename_i h2; rw [if_pos h2] at h; simp at h
    · rename_i h2
      rw [if_neg h2] at h
      split
      · rename_i h3; rw [if_pos h3] at h; simp at h
      · rename_i h3
        rw [if_neg h3] at h
        split
        · rename_i h4; rw [if_pos h4] at h; simp at h
        · rename_i h4
          rw [if_neg h4] at h
          split
          · rename_i h5; rw [if_pos h5] at h; simp at h
          · dsimp only
            omega
theorem parseO_err : ∀ (f : Nat) (xs : List Int), 0 ≤ (parseO f xs).2 ∧ (parseO f xs).2 ≤ 8
  | 0, xs => by simp [parseO]
  | f + 1, xs => by
    have ih := parseO_err f (xs.drop (takeO xs).2.1)
    have ht := takeO_err xs
    unfold parseO
    repeat' split
    all_goals try unfold joinO
    all_goals repeat' split
    all_goals dsimp only
    all_goals omega
theorem parseL_err (xs : List Int) : 0 ≤ (parseL xs).2 ∧ (parseL xs).2 ≤ 8 := by
  unfold parseL
  split
  · simp
  · exact parseO_err 41 xs
theorem parseO_len : ∀ (f : Nat) (xs : List Int), (parseO f xs).1.length ≤ f
  | 0, xs => by simp [parseO]
  | f + 1, xs => by
    have ih := parseO_len f (xs.drop (takeO xs).2.1)
    unfold parseO
    repeat' split
    all_goals try unfold joinO
    all_goals repeat' split
    all_goals simp
    all_goals omega
theorem parseL_len (xs : List Int) : (parseL xs).1.length ≤ 41 := by
  unfold parseL
  split
  · simp
  · exact parseO_len 41 xs

/-! what is parsed can be put again, in no more bytes -/
theorem takeO_fine {xs : List Int} (ha : AllB xs) (h0 : xs.getD 0 0 ≠ 0) (h : (takeO xs).2.2 = 0) : 1 ≤ (takeO xs).1.1 ∧ (takeO xs).1.1 ≤ 255 ∧ fitsO (takeO xs).1.1 (takeO xs).1.2.length = true ∧ sizeO (takeO xs).1 = (takeO xs).2.1 := by
  have hb := ha.getD 0
  have hb1 := ha.getD 1
  unfold takeO at h ⊢
  split
  · simp [fitsO, longR, sizeO]
  · rename_i h1
    rw [if_neg h1] at h
    split
    · rename_i h2; rw [if_pos h2] at h; simp at h
    · rename_i h2
      rw [if_neg h2] at h
      split
      · rename_i h3; rw [if_pos h3] at h; simp at h
      · rename_i h3
        rw [if_neg h3] at h
        split
        · rename_i h4; rw [if_pos h4] at h; simp at h
        · rename_i h4
          rw [if_neg h4] at h
          split
          · rename_i h5; rw [if_pos h5] at h; simp at h
          · rename_i h5
            have hl : ((xs.drop 2).take ((xs.getD 1 0).toNat - 2)).length = (xs.getD 1 0).toNat - 2 := by rw [List.length_take, List.length_drop]; omega
            refine ⟨by show 1 ≤ xs.getD 0 0; omega, by show xs.getD 0 0 ≤ 255; omega, ?_, ?_⟩
            · show fitsO (xs.getD 0 0) _ = true
              rw [hl]; simpa using h5
            · unfold sizeO
              rw [if_neg h1, hl]
              show 2 + ((xs.getD 1 0).toNat - 2) = (xs.getD 1 0).toNat
              omega
theorem parseO_fine : ∀ (f : Nat) (xs : List Int), AllB xs → (parseO f xs).2 = 0 → chkO (parseO f xs).1 = 0 ∧ sumO (parseO f xs).1 ≤ xs.length
  | 0, xs, _, _ => ⟨rfl, Nat.zero_le _⟩
  | f + 1, xs, ha, h => by
    have ih := parseO_fine f (xs.drop (takeO xs).2.1) (ha.drop _)
    unfold parseO at h ⊢
    split
    · exact ⟨rfl, Nat.zero_le _⟩
    · rename_i h1
      rw [if_neg h1] at h
      split
      · split <;> exact ⟨rfl, Nat.zero_le _⟩
      · rename_i h2
        rw [if_neg h2] at h
        split
        · rename_i h3
          rw [if_pos h3] at h
          unfold joinO at h ⊢
          split
          · rename_i h4
            obtain ⟨i1, i2⟩ := ih h4
            obtain ⟨t1, t2, t3, t4⟩ := takeO_fine ha h2 h3
            have hn : 0 < xs.length := List.length_pos_iff.2 h1
            have hs := takeO_size h3 hn
            have e : [(takeO xs).1] ++ (parseO f (xs.drop (takeO xs).2.1)).1 = (takeO xs).1 :: (parseO f (xs.drop (takeO xs).2.1)).1 := rfl
            refine ⟨?_, ?_⟩
            · dsimp only
              rw [e]
              unfold chkO
              rw [if_neg (by omega), if_neg (by rw [t3]; simp)]
              exact i1
            · dsimp only
              rw [e]
              unfold sumO at i2 ⊢
              rw [List.map_cons, List.sum_cons, t4]
              rw [List.length_drop] at i2
              omega
          · rename_i h4
            rw [if_neg h4] at h
            exact absurd h h4
        · rename_i h3
          rw [if_neg h3] at h
          exact absurd h h3
theorem parseL_fine {xs : List Int} (ha : AllB xs) (h : (parseL xs).2 = 0) : canO (parseL xs).1 = 0 ∧ sumO (parseL xs).1 ≤ xs.length := by
  unfold parseL at h ⊢
  split
  · rename_i h1
    rw [if_pos h1] at h
    simp at h
  · rename_i h1
    rw [if_neg h1] at h
    obtain ⟨c1, c2⟩ := parseO_fine 41 xs ha h
    refine ⟨?_, c2⟩
    unfold canO
    rw [if_pos c1, if_neg (by omega)]

/-! what was put is parsed as what it was -/
theorem takeO_put {o : Ob} {rest : List Int} (h1 : 1 ≤ o.1) (h2 : o.1 ≤ 255) (h3 : fitsO o.1 o.2.length = true) (h4 : o.2.length ≤ 253) : takeO (headO o ++ o.2 ++ rest) = (o, sizeO o, 0) := by
  obtain ⟨k, d⟩ := o
  dsimp only at h1 h2 h3 h4 ⊢
  by_cases hk : k = 1
  · subst hk
    have hd := fits_nop h3
    obtain rfl : d = [] := List.eq_nil_of_length_eq_zero hd
    simp [headO, takeO, sizeO]
  · have e1 : k % 256 = k := by omega
    have e2 : (2 + (d.length : Int)) % 256 = 2 + d.length := by omega
    have hh : headO (k, d) ++ d ++ rest = k :: (2 + (d.length : Int)) :: (d ++ rest) := by simp [headO, hk, e1, e2]
    rw [hh]
    unfold takeO
    have et : (2 + (d.length : Int)).toNat - 2 = d.length := by omega
    have el : (k :: (2 + (d.length : Int)) :: (d ++ rest)).length = 2 + d.length + rest.length := by simp; omega
    rw [el]
    simp only [List.getD_cons_zero, List.getD_cons_succ]
    rw [if_neg hk, if_neg (by omega), if_neg (by omega), if_neg (by omega), et, if_neg (by rw [h3]; simp)]
    have e5 : (2 + (d.length : Int)).toNat = 2 + d.length := by omega
    simp [sizeO, hk, e5]
theorem parseO_put : ∀ (l : List Ob) (f z : Nat), chkO l = 0 → sumO l ≤ 40 → sumO l + z < f → parseO f (flatO l ++ List.replicate z 0) = (l, 0)
  | [], 0, z, _, _, h => by omega
  | [], f + 1, z, _, _, h => by
    unfold parseO
    cases z with
    | zero => simp [flatO]
    | succ z =>
      have e : flatO [] ++ List.replicate (z + 1) (0 : Int) = List.replicate (z + 1) 0 := rfl
      rw [e, if_neg (by simp), if_pos (by simp), if_pos (by simp [zerosB])]
  | o :: l, 0, z, _, _, h => by omega
  | o :: l, f + 1, z, hc, hs, h => by
    obtain ⟨c1, c2, c3, c4⟩ := chkO_cons hc
    have hs2 : sumO (o :: l) = sizeO o + sumO l := by simp [sumO]
    have hsz : 1 ≤ sizeO o := by unfold sizeO; split <;> omega
    have hd : o.2.length ≤ 253 := by
      have := part_len c3
      omega
    have hf : flatO (o :: l) ++ List.replicate z 0 = headO o ++ o.2 ++ (flatO l ++ List.replicate z 0) := by simp [flatO]
    have ht := takeO_put (rest := flatO l ++ List.replicate z 0) c1 c2 c3 hd
    have hpl := part_len c3
    have ih := parseO_put l f z c4 (by omega) (by omega)
    rw [hf]
    unfold parseO
    have hne : headO o ++ o.2 ++ (flatO l ++ List.replicate z 0) ≠ [] := by
      intro e
      have := congrArg List.length e
      simp only [List.length_append, List.length_nil] at this
      omega
    have h0 : (headO o ++ o.2 ++ (flatO l ++ List.replicate z 0)).getD 0 0 ≠ 0 := by
      unfold headO
      split
      · simp
      · simp
        omega
    rw [if_neg hne, if_neg h0, ht, if_pos rfl]
    dsimp only
    rw [← hpl, ← List.length_append, List.drop_left, ih]
    simp [joinO]
theorem parse_put {l : List Ob} (h : canO l = 0) : parseL (putO l) = (l, 0) ∧ (putO l).length ≤ 40 ∧ (putO l).length % 4 = 0 := by
  obtain ⟨h1, h2⟩ := canO_zero h
  have hl := flat_len h1
  have hp : (putO l).length = sumO l + padN (sumO l) := by unfold putO; rw [if_pos h, padO_len, hl]
  have h40 : sumO l + padN (sumO l) ≤ 40 := by unfold padN; omega
  refine ⟨?_, by omega, by rw [hp]; exact pad_mod _⟩
  unfold parseL
  rw [if_neg (by omega)]
  unfold putO padO
  rw [if_pos h, hl]
  exact parseO_put l 41 _ h1 h2 (by omega)
theorem putO_all {l : List Ob} (h : ∀ o ∈ l, AllB o.2) : AllB (putO l) := by
  unfold putO
  split
  · unfold padO
    refine AllB.append ?_ (zeros_all _)
    intro x hx
    unfold flatO at hx
    rw [List.mem_flatMap] at hx
    obtain ⟨o, ho, hx⟩ := hx
    exact ((head_all o).append (h o ho)) x hx
  · exact AllB.nil
theorem putO_len {l : List Ob} (h : canO l = 0) : (putO l).length ≤ sumO l + 3 := by
  obtain ⟨h1, h2⟩ := canO_zero h
  have hl := flat_len h1
  have := pad_lt (sumO l)
  unfold putO
  rw [if_pos h, padO_len, hl]
  omega
end Go.Proofs.YtjafjapnmffohaaGreatDoor

namespace Go.Proofs.YtjafjapnmffohaaGreatDoor
open Go.RowKit
set_option linter.unusedVariables false

theorem ofNat_inj {a b : Int} (ha : 0 ≤ a ∧ a < 256) (hb : 0 ≤ b ∧ b < 256) (h : UInt8.ofNat a.toNat = UInt8.ofNat b.toNat) : a = b := by
  have h2 := congrArg UInt8.toNat h
  simp only [UInt8.toNat_ofNat'] at h2
  omega
theorem str_inj : ∀ {xs ys : List Int}, AllB xs → AllB ys → (strOfNums xs).toList = (strOfNums ys).toList → xs = ys := fun {xs ys} hx hy h => by
  rw [Lib.strOfNums_toList, Lib.strOfNums_toList] at h
  unfold Lib.bytesOf at h
  induction xs generalizing ys with
  | nil => cases ys with
    | nil => rfl
    | cons y ys => simp at h
  | cons x xs ih => cases ys with
    | nil => simp at h
    | cons y ys =>
      simp only [List.map_cons, List.cons.injEq] at h
      rw [ofNat_inj (hx x (by simp)) (hy y (by simp)) h.1, ih (fun z hz => hx z (by simp [hz])) (fun z hz => hy z (by simp [hz])) h.2]
theorem str_beq {xs ys : List Int} (hx : AllB xs) (hy : AllB ys) : ((strOfNums xs).toList == (strOfNums ys).toList) = decide (xs = ys) := by
  by_cases h : xs = ys
  · subst h; simp
  · have : ¬ (strOfNums xs).toList = (strOfNums ys).toList := fun e => h (str_inj hx hy e)
    simp [h, this]
theorem getV (os : List Od) (i : Nat) : (os.map Od.v).getD i zeroB = (os.getD i zeroO).v := by
  simp only [List.getD, List.getElem?_map]
  cases os[i]? <;> rfl
theorem same_all {os ps : List Od} (hl : os.length = ps.length) (h : ∀ j, j < os.length → (os.getD j zeroO).v = (ps.getD j zeroO).v) : os.map Od.v = ps.map Od.v := by
  apply List.ext_getElem (by simp [hl])
  intro i h1 h2
  simp only [List.length_map] at h1 h2
  have := h i h1
  simpa [List.getD, h1, h2] using this
theorem same_not {os ps : List Od} {j : Nat} (h : (os.getD j zeroO).v ≠ (ps.getD j zeroO).v) : ¬ os.map Od.v = ps.map Od.v := fun e => h (by rw [← getV, ← getV, e])

end Go.Proofs.YtjafjapnmffohaaGreatDoor

namespace Go.Proofs.YtjafjapnmffohaaGreatDoor
open Go.RowKit Go.MapKept Go.ChangeMaps
set_option linter.unusedVariables false

/-- the map of lengths, as data -/
def ask0 : DataW Unit := .map []
def ask1 := ask0.put (.int .i64 1) (.lit (.int .i64 0))
def ask2 := ask1.put (.int .i64 2) (.lit (.int .i64 2))
def ask3 := ask2.put (.int .i64 3) (.lit (.int .i64 1))
def ask4 := ask3.put (.int .i64 4) (.lit (.int .i64 0))
def ask5 := ask4.put (.int .i64 8) (.lit (.int .i64 8))
theorem ask_eq : ask5 = .map [(.int .i64 1, .lit (.int .i64 0)), (.int .i64 2, .lit (.int .i64 2)), (.int .i64 3, .lit (.int .i64 1)), (.int .i64 4, .lit (.int .i64 0)), (.int .i64 8, .lit (.int .i64 8))] := by rfl
theorem ask_dec (n : Nat) (c : Int) : ((n : Int) == c) = decide (c = n) := by
  by_cases h : c = n
  · simp [h]
  · have h2 : ¬ (n : Int) = c := fun e => h e.symm
    simp [h, h2]
theorem ask_fits {k c : Int} {n : Nat} (h : ask5.atKey (.int .i64 k) (.lit (.int .i64 0)) = .lit (.int .i64 c)) : (!Maps.has ask5 (.int .i64 k) || (n : Int) == c) = fitsO k n := by
  rw [ask_eq] at h ⊢
  simp only [Maps.has, DataW.atKey, List.any_cons, List.any_nil, List.find?_cons, List.find?_nil, Lit.sameKey, true_and] at h ⊢
  unfold fitsO longR
  by_cases h1 : k = 1
  · subst h1; simp at h ⊢; rw [← h]; exact ask_dec _ _
  · by_cases h2 : k = 2
    · subst h2; simp at h ⊢; rw [← h]; exact ask_dec _ _
    · by_cases h3 : k = 3
      · subst h3; simp at h ⊢; rw [← h]; exact ask_dec _ _
      · by_cases h4 : k = 4
        · subst h4; simp at h ⊢; rw [← h]; exact ask_dec _ _
        · by_cases h8 : k = 8
          · subst h8; simp at h ⊢; rw [← h]; exact ask_dec _ _
          · have e1 : ¬ (1 : Int) = k := fun e => h1 e.symm
            have e2 : ¬ (2 : Int) = k := fun e => h2 e.symm
            have e3 : ¬ (3 : Int) = k := fun e => h3 e.symm
            have e4 : ¬ (4 : Int) = k := fun e => h4 e.symm
            have e8 : ¬ (8 : Int) = k := fun e => h8 e.symm
            simp [h1, h2, h3, h4, h8, e1, e2, e3, e4, e8]

theorem i64_wf {a : Int} (h : i64ok a) : (Lit.int .i64 a).wf = true := by
  unfold i64ok at h
  have h1 : IntKind.i64.min ≤ a := h.1
  have h2 : a ≤ IntKind.i64.max := h.2
  simp only [Lit.wf, Bool.and_eq_true, decide_eq_true_eq]
  exact ⟨h1, h2⟩

set_option maxHeartbeats 800000 in
theorem fits_any (k : Int) (n : Nat) (w : World) (hk : i64ok k) (hn : n ≤ 140737488355330) :
    Calls Tryz.prog 127 #[.int .i64 k, .int .i64 n] w fun e w' => e = .returned (.bool (fitsO k n)) ∧ Below w.heap.size w w' := by
  have K : Maps.Keyed Tryz.prog 3 := Maps.int_keyed Tryz.underlying3
  have key : ∀ a : Int, i64ok a → keyOf Tryz.prog 3 (.int .i64 a) = some (.int .i64 a) := fun a ha => Maps.keyOf_int_mk Tryz.underlying3 (i64_wf ha)
  have val : ∀ a : Int, i64ok a → plainElem (H := Unit) Tryz.prog 3 (.int .i64 a) = some (.lit (.int .i64 a), []) := fun a ha => plainElem_int Tryz.underlying3 (i64_wf ha)
  have ht := Tryz.underlying195
  have ok : ∀ a : Int, 0 ≤ a → a ≤ 8 → i64ok a := fun a h1 h2 => by unfold i64ok; omega
  have m0 := World.ownsMap_made w Tryz.prog 3 (plainElem (H := Unit) Tryz.prog 3)
  have hB0 := Low.alloc w (.map #[] 0)
  have hsz : w.heap.size ≤ (w.alloc (.map #[] 0)).heap.size := hB0.size
  generalize hw1 : w.alloc (.map #[] 0) = w1 at *
  have hmm : (Instr.makeMap 195 none).run Tryz.prog w = .ok (.map (some w.heap.size)) w1 := hw1 ▸ run_makeMap 195 w
  obtain ⟨w2, r1, m1, g1⟩ := m0.update K ht (by simp [maxLen]) (key 1 (ok 1 (by omega) (by omega))) (val 0 (ok 0 (by omega) (by omega)))
  obtain ⟨w3, r2, m2, g2⟩ := m1.update K ht (by simp [maxLen]) (key 2 (ok 2 (by omega) (by omega))) (val 2 (ok 2 (by omega) (by omega)))
  obtain ⟨w4, r3, m3, g3⟩ := m2.update K ht (by simp [maxLen]) (key 3 (ok 3 (by omega) (by omega))) (val 1 (ok 1 (by omega) (by omega)))
  obtain ⟨w5, r4, m4, g4⟩ := m3.update K ht (by simp [maxLen]) (key 4 (ok 4 (by omega) (by omega))) (val 0 (ok 0 (by omega) (by omega)))
  obtain ⟨w6, r5, m5, g5⟩ := m4.update K ht (by simp [maxLen]) (key 8 (ok 8 (by omega) (by omega))) (val 8 (ok 8 (by omega) (by omega)))
  obtain ⟨v, ps, rl, hv⟩ := m5.look_ok K ht (Tryz.zeroValue3 _) (val 0 (ok 0 (by omega) (by omega))) (key k hk)
  obtain ⟨c, rfl, hc, _⟩ := plainElem_int_inv Tryz.underlying3 hv
  have h1 : ∀ x, some w.heap.size = some x → w.heap.size ≤ x := fun x e => by injection e with e; omega
  have hB : Below w.heap.size w w6 := ((((((hB0.grown g1 hB0.size h1).grown g2 (Nat.le_trans hsz g1.size) h1)).grown g3 (Nat.le_trans hsz (Nat.le_trans g1.size g2.size)) h1).grown g4 (Nat.le_trans hsz (Nat.le_trans g1.size (Nat.le_trans g2.size g3.size))) h1).grown g5 (Nat.le_trans hsz (Nat.le_trans g1.size (Nat.le_trans g2.size (Nat.le_trans g3.size g4.size)))) h1)
  have HF := Lib.hid (ask_fits (n := n) (congrArg Prod.fst hc))
  have HB := Lib.hid hB
  generalize hh : Maps.has ask5 (.int .i64 k) = h at *
  replace rl : (Instr.lookup 195 (.map (some w.heap.size)) (.int .i64 k) true).run Tryz.prog w6 = .ok (.tuple #[.int .i64 c, .bool h]) w6 := by rw [← hh]; exact rl
  clear hh hv hc m0 m1 m2 m3 m4 m5 g1 g2 g3 g4 g5 hB hB0 hsz hw1 K key val ok h1 ht hk
  go_enter Tryz.func127, Tryz.ntmps127
  cases h
  · go_wp2_with fail
    go_ret
    exact ⟨ret_bool HF.out, HB.out⟩
  · go_wp2_with fail
    go_ret
    exact ⟨ret_bool HF.out, HB.out⟩

set_option maxHeartbeats 800000 in
theorem rlong_any (k : Int) (w : World) : Calls Tryz.prog 64 #[.int .i64 k] w fun e w' => e = .returned (.int .i64 (longR k)) ∧ w' = w := by
  by_cases h1 : k = 1
  · subst h1
    go_enter Tryz.func64, Tryz.ntmps64
    go_wp2_with fail
    go_ret
    exact ⟨rfl, rfl⟩
  · by_cases h4 : k = 4
    · subst h4
      go_enter Tryz.func64, Tryz.ntmps64
      go_wp2_with fail
      go_ret
      exact ⟨rfl, rfl⟩
    · by_cases h2 : k = 2
      · subst h2
        go_enter Tryz.func64, Tryz.ntmps64
        go_wp2_with fail
        go_ret
        exact ⟨rfl, rfl⟩
      · by_cases h3 : k = 3
        · subst h3
          go_enter Tryz.func64, Tryz.ntmps64
          go_wp2_with fail
          go_ret
          exact ⟨rfl, rfl⟩
        · by_cases h8 : k = 8
          · subst h8
            go_enter Tryz.func64, Tryz.ntmps64
            go_wp2_with fail
            go_ret
            exact ⟨rfl, rfl⟩
          · have HL := Lib.hid (show longR k = -1 by unfold longR; rw [if_neg (by omega), if_neg h2, if_neg h3, if_neg h8])
            go_enter Tryz.func64, Tryz.ntmps64
            go_wp2_with fail
            go_ret
            exact ⟨by rw [HL.out]; rfl, rfl⟩
end Go.Proofs.YtjafjapnmffohaaGreatDoor

namespace Go.Proofs.YtjafjapnmffohaaGreatDoor
open Go.RowKit
set_option linter.unusedVariables false

/-- all blocks of cells of one type stay as they are -/
def KeepsT (t : TypeId) (W W' : World) : Prop := ∀ (k : Nat) (cs : Array Value) (z : Nat × Nat), W.heap[k]? = some (.cells cs t z) → W'.heap[k]? = some (.cells cs t z)
section
variable {t : TypeId} {A B C : World}
theorem KeepsT.refl (t : TypeId) (A : World) : KeepsT t A A := fun _ _ _ h => h
theorem KeepsT.trans (h : KeepsT t A B) (k : KeepsT t B C) : KeepsT t A C := fun i cs z hi => k i cs z (h i cs z hi)
theorem KeepsT.low (h : Low A B) : KeepsT t A B := fun i cs z hi => (Below.block h i (Array.getElem?_eq_some_iff.1 hi).1).trans hi
theorem KeepsT.setCell {p : Addr} {u : Value} {cs : Array Value} {t' : TypeId} {z : Nat × Nat} (hp : A.heap[p.block]? = some (.cells cs t' z)) (ht : t' ≠ t) : KeepsT t A (A.setCell p u) := fun i cs' z' hi => by
  refine (Below.heap_setCell A p u i ?_).trans hi
  rintro rfl
  rw [hp] at hi
  injection hi with hi
  injection hi with _ hi _
  exact ht hi
theorem KeepsT.putObj {l : Nat} {o o' : Obj} (hl : A.heap[l]? = some o) (ho : o.isCells = false) : KeepsT t A (A.putObj l o') := fun i cs z hi => by
  refine (World.putObj_heap_other ?_).trans hi
  rintro rfl
  rw [hl] at hi
  injection hi with hi
  subst hi
  cases ho
theorem KeepsT.grown {row : Option Nat} (hg : A.grownBy B row) (hr : ∀ r, row = some r → ∀ cs z, A.heap[r]? ≠ some (.cells cs t z)) : KeepsT t A B := fun i cs z hi => by
  refine (hg.block i (Array.getElem?_eq_some_iff.1 hi).1 fun e => ?_).trans hi
  exact hr i e.symm cs z hi
theorem grown_of_low (h : Low A B) : A.grownBy B none := ⟨Below.os h, Below.tape h, Below.output h, Below.size h, fun k hk _ => Below.block h k hk⟩
theorem bs_putObj {n : Nat} {X : Option Addr} {xs : List Int} {l : Nat} {o o' : Obj} (h : Bs A A.heap.size X n xs) (hl : A.heap[l]? = some o) (ho : o.isCells = false) : Bs (A.putObj l o') (A.putObj l o').heap.size X n xs :=
  ⟨h.len, h.all, fun hn => by
    obtain ⟨b, p, e, hb, hc⟩ := h.mem hn
    exact ⟨b, p, e, by simpa using hb, fun i hi => cell_kept (hc i hi) (grownBy_putObj' A l o') fun r e => by cases e; exact ⟨o, hl, ho⟩⟩⟩
end

/-- the function, at what it has captured, hands out these lists one by one, each as it lies in memory; between two of them it relies on what lay below block n0, and on the blocks of type t -/
def SeqParts (n : Nat) (P : Program) (gf : Nat) (lb : Array Value) (t : TypeId) (n0 : Nat) (parts : List (List Int)) (w0 : World) : Prop :=
  ∀ (l : Nat) (J : Nat → World → Prop) (Jx : World → Prop) (W : World), Low w0 W → (∀ j A B, J j A → Low A B → J j B) →
    (∀ j A m c W1, J j W1 → j < parts.length → m ≤ 140737488355328 → Bs W1 W1.heap.size A m (parts.getD j []) → YieldAt Fence.wide (n - 1) P l #[.slice A m c] W1 fun e W' =>
      (e = .returned (.bool true) ∧ J (j + 1) W' ∧ Below n0 W1 W' ∧ KeepsT t W1 W') ∨ (e = .returned (.bool false) ∧ Jx W')) →
    J 0 W → CallsIn Fence.wide n P gf (#[.func (.yield l) #[] #[]] ++ lb) W fun e W' => (∃ v, e = .returned v) ∧ (J parts.length W' ∨ Jx W')

/-- how the loop's body may be left -/
def partsPost (t : TypeId) (n0 : Nat) (I : Nat → World → Prop) (Ix : World → Prop) (j : Nat) (W : World) : Exit → Act → World → Prop
  | .normal, _, W' => KeepsOthers W W' ∧ Below n0 W W' ∧ KeepsT t W W' ∧ I (j + 1) W'
  | .ret, _, W' => KeepsOthers W W' ∧ Ix W'
  | _, _, _ => False

/-- where the loop's record and its block for deferred calls stand -/
structure Rec (R : LoopState → Option Code → Loop) (l D : Nat) (st : LoopState) (pe : Option Code) (W : World) : Prop where
  L : W.heap[l]? = some (.loop (R st pe))
  K : W.heap[D]? = some (.deferred (some []))
theorem Rec.low {R : LoopState → Option Code → Loop} {l D : Nat} {st : LoopState} {pe : Option Code} {W W' : World} (h : Rec R l D st pe W) (hl : Low W W') : Rec R l D st pe W' :=
  ⟨(Below.block hl l (Array.getElem?_eq_some_iff.1 h.L).1).trans h.L, (Below.block hl D (Array.getElem?_eq_some_iff.1 h.K).1).trans h.K⟩
theorem Rec.others {R : LoopState → Option Code → Loop} {l D : Nat} {st : LoopState} {pe : Option Code} {W W' : World} (h : Rec R l D st pe W) (hl : KeepsOthers W W') : Rec R l D st pe W' :=
  ⟨hl.same l _ h.L rfl, hl.same D _ h.K rfl⟩
theorem Rec.turn {R : LoopState → Option Code → Loop} {l D : Nat} {st : LoopState} {pe : Option Code} {W : World} (h : Rec R l D st pe W) (hne : D ≠ l) (st' : LoopState) (pe' : Option Code) : Rec R l D st' pe' (W.putObj l (.loop (R st' pe'))) :=
  ⟨World.putObj_heap_same (Array.getElem?_eq_some_iff.1 h.L).1, (World.putObj_heap_other hne).trans h.K⟩

theorem wpIn_parts {P : Program} {n : Nat} {g : Operand} {ps : Array Tmp} {assign body : Code} {Q : Exit → Act → World → Prop} {a : Act} {w w0 : World} {gf : Nat} {lb : Array Value} {t : TypeId} {n0 : Nat} {parts : List (List Int)}
    (hg : a.eval g = .func (.func gf) #[] lb) (eg : ∀ args w, (callFunc gf args).run P w = .ok (.enter gf args) w)
    (hseq : SeqParts (n - 1) P gf lb t n0 parts w0) (hb0 : Low w0 w) (hn : n0 ≤ w.heap.size) (p : Tmp) (hps : ps = #[p])
    (I : Nat → World → Prop) (Ix : World → Prop) (hI : OwnFrom w.heap.size I) (hIx : OwnFrom w.heap.size (fun (_ : Unit) => Ix)) (h0 : I 0 w) (a₁ : Value → Act)
    (hassign : ∀ (l : Nat) (v : Value) (W : World) (K : Act → World → Prop), K (a₁ v) W →
      assign.wpIn (Fence.wide.inRound l) (n - 1 - 1) P (Exit.then K (fun _ _ _ => False)) { tmps := a.tmps.setIfInBounds p v, defers := [] } W)
    (hbody : ∀ (l j : Nat) (A : Option Addr) (m c : Nat) (W : World), I j W → j < parts.length → m ≤ 140737488355328 → Bs W W.heap.size A m (parts.getD j []) →
      body.wpIn (Fence.wide.inRound l) (n - 1 - 1) P (partsPost t n0 I Ix j W) (a₁ (.slice A m c)) W)
    (hdone : ∀ (D : Nat) (W : World), w.heap.size ≤ D → I parts.length W → W.heap[D]? = some (.deferred (some [])) → Q .normal { a with defers := { target := .collected D, args := #[] } :: a.defers } W)
    (hstop : ∀ (D : Nat) (W : World), w.heap.size ≤ D → Ix W → W.heap[D]? = some (.deferred (some [])) → Code.ret.wpIn Fence.wide n P Q { a with defers := { target := .collected D, args := #[] } :: a.defers } W) :
    (Code.rangeFunc g ps assign body).wpIn Fence.wide n P Q a w := by
  subst hps
  refine wpIn_rangeFunc fun fn hfn => ?_
  obtain ⟨R, hR⟩ : ∃ R : LoopState → Option Code → Loop, R = fun st pe => { state := st, pending := pe, fn := fn, tmps := a.tmps, params := #[p], assign := assign, body := body, defers := w.heap.size } := ⟨_, rfl⟩
  have hrun := run_enterLoop_outer (P := P) (w := w) fn a.tmps #[p] assign body
  obtain ⟨W1, hW1⟩ : ∃ W1, W1 = (w.alloc (.deferred (some []))).alloc (.loop (R .ready none)) := ⟨_, rfl⟩
  have hlow : Low w W1 := by rw [hW1]; exact (Low.alloc w _).trans (Low.alloc _ _)
  have hrec : Rec R (w.heap.size + 1) w.heap.size .ready none W1 := by
    rw [hW1]
    refine ⟨?_, (Below.heap_alloc _ _ _ (by simp)).trans (World.alloc_heap_new w _)⟩
    have := World.alloc_heap_new (w.alloc (.deferred (some []))) (.loop (R .ready none))
    rwa [World.size_alloc] at this
  have hne : w.heap.size ≠ w.heap.size + 1 := by omega
  have put : ∀ {j : Nat} {W : World} (o' : Obj) {st : LoopState} {pe : Option Code}, I j W → Rec R (w.heap.size + 1) w.heap.size st pe W → I j (W.putObj (w.heap.size + 1) o') := fun o' _ _ hi hr => hI.putObj o' hi (by omega) hr.L rfl
  have putx : ∀ {W : World} (o' : Obj) {st : LoopState} {pe : Option Code}, Ix W → Rec R (w.heap.size + 1) w.heap.size st pe W → Ix (W.putObj (w.heap.size + 1) o') := fun o' _ _ hi hr => hIx.putObj (s := ()) o' hi (by omega) hr.L rfl
  have pass : ∀ {j : Nat} {A B : World}, I j A → Low A B → I j B := fun hi hl => hI _ _ _ none hi (grown_of_low hl) fun r e => by cases e
  have keep : ∀ {W : World} {st : LoopState} {pe : Option Code} (o' : Obj), Rec R (w.heap.size + 1) w.heap.size st pe W → Below n0 W (W.putObj (w.heap.size + 1) o') ∧ KeepsT t W (W.putObj (w.heap.size + 1) o') := fun o' hr =>
    ⟨belowK_b (w := w) hn _ _ _ o' (by omega) hr.L rfl rfl, KeepsT.putObj hr.L rfl⟩
  refine ⟨w.heap.size + 1, [{ target := .collected w.heap.size, args := #[] }], W1, { target := .fn (.func gf) lb, args := #[.func (.yield (w.heap.size + 1)) #[] #[]] }, W1, gf, #[.func (.yield (w.heap.size + 1)) #[] #[]] ++ lb, W1, ?_, ?_, fun _ _ => trivial, ?_, fun h => (by cases h), ?_⟩
  · rw [hW1, hR]; exact hrun
  · simp only [resolve, hg]
    simp [go_sem]
  · simp [invoke, go_sem, eg]
  · refine (hseq (w.heap.size + 1) (fun j W => I j W ∧ Rec R (w.heap.size + 1) w.heap.size .ready none W) (fun W => Ix W ∧ Rec R (w.heap.size + 1) w.heap.size .done (some .ret) W) W1 (hb0.trans hlow)
      (fun j A B h hl => ⟨pass h.1 hl, h.2.low hl⟩) ?_ ⟨pass h0 hlow, hrec⟩).mono ?_
    · rintro j A m c W ⟨hi, hr⟩ hj hm hb
      have hy : (Instr.yield (w.heap.size + 1) #[.slice A m c]).run P W = .ok (.round (w.heap.size + 1) fn (a.tmps.setIfInBounds p (.slice A m c)) assign body) W := by
        have := run_yield (P := P) (args := #[.slice A m c]) hr.L (by rw [hR]; rfl)
        rw [hR] at this
        simpa using this
      refine ⟨fn, _, assign, body, hy, roundIn_of_wpIn hfn ?_⟩
      refine hassign _ _ W _ ?_
      refine ⟨_, run_beginRound hr.L (by rw [hR]), ?_⟩
      have eb : ({ R .ready none with state := .busy } : Loop) = R .busy none := by rw [hR]
      rw [eb]
      have hr2 := hr.turn hne .busy none
      have hk2 := keep (.loop (R .busy none)) hr
      refine wpIn_mono (hbody _ j A m c _ (put _ hi hr) hj hm (bs_putObj hb hr.L rfl)) ?_
      rintro e a3 W3 hp
      cases e with
      | normal =>
        obtain ⟨h1, h2, h3, h4⟩ := hp
        have hr3 := hr2.others h1
        have he := run_endRound (P := P) none hr3.L
        have ee : ({ R .busy none with state := if (none : Option Code).isNone then .ready else .done, pending := none } : Loop) = R .ready none := by rw [hR]; rfl
        rw [ee] at he
        have hk3 := keep (.loop (R .ready none)) hr3
        exact ⟨_, _, he, .inl ⟨rfl, ⟨put _ h4 hr3, hr3.turn hne _ _⟩, (hk2.1.trans h2).trans hk3.1, (hk2.2.trans h3).trans hk3.2⟩⟩
      | ret =>
        obtain ⟨h1, h2⟩ := hp
        have hr3 := hr2.others h1
        have he := run_endRound (P := P) (some .ret) hr3.L
        have ee : ({ R .busy none with state := if (some Code.ret).isNone then .ready else .done, pending := some .ret } : Loop) = R .done (some .ret) := by rw [hR]; rfl
        rw [ee] at he
        exact ⟨_, _, he, .inr ⟨rfl, putx _ h2 hr3, hr3.turn hne _ _⟩⟩
      | exit id => exact hp.elim
      | goto id => exact hp.elim
      | panic ch => exact hp.elim
      | outgrown => exact hp.elim
    · rintro e W2 ⟨⟨v, rfl⟩, ⟨hi, hr⟩ | ⟨hi, hr⟩⟩
      · have he := run_endLoop (P := P) hr.L (by rw [hR]; simp)
        have ep : (R .ready none).pending = none := by rw [hR]
        rw [ep] at he
        exact ⟨none, _, he, hdone _ _ (Nat.le_refl _) (put _ hi hr) ((World.putObj_heap_other hne).trans hr.K)⟩
      · have he := run_endLoop (P := P) hr.L (by rw [hR]; simp)
        have ep : (R .done (some .ret)).pending = some .ret := by rw [hR]
        rw [ep] at he
        exact ⟨some .ret, _, he, hstop _ _ (Nat.le_refl _) (putx _ hi hr) ((World.putObj_heap_other hne).trans hr.K)⟩

/-- the same where the loop's variable is slot q -/
theorem wpIn_parts_q {P : Program} {n : Nat} {g : Operand} {ps : Array Tmp} {assign body : Code} {Q : Exit → Act → World → Prop} {T : Array Value} {ds : List Deferred} {w w0 : World} {gf : Nat} {lb : Array Value} {t : TypeId} {n0 : Nat} {parts : List (List Int)}
    (hg : Act.eval ⟨T, ds⟩ g = .func (.func gf) #[] lb) (eg : ∀ args w, (callFunc gf args).run P w = .ok (.enter gf args) w)
    (hseq : SeqParts (n - 1) P gf lb t n0 parts w0) (hb0 : Low w0 w) (hn : n0 ≤ w.heap.size) (p q : Tmp) (hps : ps = #[p])
    (I : Nat → World → Prop) (Ix : World → Prop) (hI : OwnFrom w.heap.size I) (hIx : OwnFrom w.heap.size (fun (_ : Unit) => Ix)) (h0 : I 0 w)
    (hassign : ∀ (l : Nat) (v : Value) (W : World) (K : Act → World → Prop), K ⟨(T.setIfInBounds p v).setIfInBounds q v, []⟩ W →
      assign.wpIn (Fence.wide.inRound l) (n - 1 - 1) P (Exit.then K (fun _ _ _ => False)) ⟨T.setIfInBounds p v, []⟩ W)
    (hbody : ∀ (l j : Nat) (A : Option Addr) (m c : Nat) (W : World), I j W → j < parts.length → m ≤ 140737488355328 → Bs W W.heap.size A m (parts.getD j []) →
      body.wpIn (Fence.wide.inRound l) (n - 1 - 1) P (partsPost t n0 I Ix j W) ⟨(T.setIfInBounds p (.slice A m c)).setIfInBounds q (.slice A m c), []⟩ W)
    (hdone : ∀ (D : Nat) (W : World), w.heap.size ≤ D → I parts.length W → W.heap[D]? = some (.deferred (some [])) → Q .normal ⟨T, { target := .collected D, args := #[] } :: ds⟩ W)
    (hstop : ∀ (D : Nat) (W : World), w.heap.size ≤ D → Ix W → W.heap[D]? = some (.deferred (some [])) → Code.ret.wpIn Fence.wide n P Q ⟨T, { target := .collected D, args := #[] } :: ds⟩ W) :
    (Code.rangeFunc g ps assign body).wpIn Fence.wide n P Q ⟨T, ds⟩ w :=
  wpIn_parts hg eg hseq hb0 hn p hps I Ix hI hIx h0 (fun v => ⟨(T.setIfInBounds p v).setIfInBounds q v, []⟩) hassign hbody hdone hstop
end Go.Proofs.YtjafjapnmffohaaGreatDoor

namespace Go.Proofs.YtjafjapnmffohaaGreatDoor
open Go.RowKit
set_option linter.unusedVariables false
attribute [local go_sem] Oper.semAt_some

/-- append of bytes onto a row of the call's own, inside a fence -/
theorem wpListIn_append_bs {F : Fence} {k : Nat} {P : Program} {w : World} {ops : Array Oper} {rest : List Oper} {o : Oper} {a : Act} {Q : Exit → Act → World → Prop} (hgd : o.guard = none) (s x : Operand) (t : TypeId)
    (ho : o.op = .call { callee := .builtin .append, args := #[s, x], argTypes := #[t, t] })
    (base : Nat) (e : TypeId) (i : TypeInfo) (ht : P.underlying t = some (.slice e)) (hi : P.info? e = some i) (hz : i.zero = some (.int .u8 0)) (hsize : i.size = 1) (hby : i.bytes = 1)
    (A0 : Option Addr) (n c0 : Nat) (xs : List Int) (hs : a.eval s = .slice A0 n c0) (hown : OwnB e w base A0 n c0 xs)
    (A : Option Addr) (m c B : Nat) (ys : List Int) (hx : a.eval x = .slice A m c) (hb : Bs w B A m ys) (hn : n + m ≤ 140737488355328) (hbase : base ≤ w.heap.size)
    (h : ∀ A' c' w', OwnB e w' base A' (n + m) c' (xs ++ ys) → w.grownBy w' (Value.slice A0 n c0).ownBlock → ((Value.slice A' (n + m) c').ownBlock = (Value.slice A0 n c0).ownBlock ∨ (Value.slice A' (n + m) c').ownBlock = some w.heap.size) →
      wpListIn F k P ops Q rest (a.put o.dst (.slice A' (n + m) c')) w') : wpListIn F k P ops Q (o :: rest) a w := by
  refine wpListIn_plain hgd fun K hK => ?_
  obtain ⟨A', c', w', hrun, h2, h3, h4⟩ := run_append_bs (P := P) w base t o.type e i ht hi hz hsize hby A0 n c0 xs hown A m c B ys hb hn hbase
  unfold Oper.wpIn
  refine ⟨?_, ?_⟩
  · simp [Oper.about, ho, resolve, Target.leads, Sem.run_pure]
  · rw [Oper.semAt_plain F _ _ (by rw [ho]; intro c hc; cases hc)]
    simp only [execOp, ho, resolve, invoke, builtin, Sem.run_bind, Sem.run_pure, Result.andThen_ok, List.map_toArray, List.map_cons, List.map_nil, hs, hx, hrun]
    exact hK _ _ (h A' c' w' h2 h3 h4)

/-- the parts: what stands ahead of an option's data, then its data -/
def partsO (l : List Ob) : List (List Int) := l.flatMap fun o => [headO o, o.2]
theorem partsO_length : ∀ l : List Ob, (partsO l).length = l.length * 2
  | [] => rfl
  | o :: l => by
    have := partsO_length l
    unfold partsO at this ⊢
    simp only [List.flatMap_cons, List.cons_append, List.nil_append, List.length_cons]
    omega
theorem partsO_get : ∀ (l : List Ob) (i : Nat), i < l.length → (partsO l).getD (i * 2) [] = headO (l.getD i zeroB) ∧ (partsO l).getD (i * 2 + 1) [] = (l.getD i zeroB).2
  | [], i, h => by simp at h
  | o :: l, 0, _ => ⟨rfl, rfl⟩
  | o :: l, i + 1, h => by
    have ih := partsO_get l i (by simpa using h)
    have e : partsO (o :: l) = headO o :: o.2 :: partsO l := rfl
    rw [e, show (i + 1) * 2 = i * 2 + 1 + 1 by omega]
    simp only [List.getD_cons_succ]
    exact ih
theorem partsO_flat (l : List Ob) : (partsO l).flatten = flatO l := by
  induction l with
  | nil => rfl
  | cons o l ih =>
    have e : partsO (o :: l) = headO o :: o.2 :: partsO l := rfl
    rw [e, List.flatten_cons, List.flatten_cons, ih]
    simp [flatO]
theorem getD_v (os : List Od) (i : Nat) : (os.map Od.v).getD i zeroB = (os.getD i zeroO).v := by
  simp only [List.getD, List.getElem?_map]
  cases os[i]? <;> rfl

end Go.Proofs.YtjafjapnmffohaaGreatDoor

namespace Go.Proofs.YtjafjapnmffohaaGreatDoor
open Go.RowKit
set_option linter.unusedVariables false
attribute [local go_sem] Oper.semAt_some

theorem BlkV.kept {W W' : World} {t : TypeId} {g B : Nat} {vs : List Value} {row : Option Nat} (h : BlkV W t g vs) (hg : W.grownBy W' row) (hr : ∀ r, row = some r → B ≤ r ∧ ∃ o : Obj, W.heap[r]? = some o ∧ o.isCells = false) : BlkV W' t g vs :=
  (grownBy_keeps_cells hg (fun r e => (hr r e).2) h rfl).trans h
theorem chk_drop {l : List Ob} {i : Nat} (h : i < l.length) : chkO (l.drop i) = if (l.getD i zeroB).1 < 1 ∨ 255 < (l.getD i zeroB).1 then 2 else if fitsO (l.getD i zeroB).1 (l.getD i zeroB).2.length = false then 5 else chkO (l.drop (i + 1)) := by
  have e : l.drop i = l.getD i zeroB :: l.drop (i + 1) := by
    rw [List.drop_eq_getElem_cons h]
    simp [List.getD, h]
  rw [e]
  rfl

/-- between two parts: how much room is left -/
def CanI (w : World) (q : Nat) (ps : List (List Int)) (j : Nat) (W : World) : Prop :=
  (BlkV W 3 q [.int .i64 (40 - ((upto ps j).length : Int))] ∧ BlkV W 39 w.heap.size [.int .i64 0] ∧ (upto ps j).length ≤ 40) ∧ Below w.heap.size w W
/-- there is no room left -/
def CanX (w : World) (ps : List (List Int)) (W : World) : Prop := (BlkV W 39 w.heap.size [.int .i64 8] ∧ 40 < ps.flatten.length) ∧ Below w.heap.size w W
end Go.Proofs.YtjafjapnmffohaaGreatDoor

namespace Go.Proofs.YtjafjapnmffohaaGreatDoor
open Go.RowKit
set_option linter.unusedVariables false

theorem sum_take {l : List Ob} {i : Nat} (h : i < l.length) : sumO (l.take (i + 1)) = sumO (l.take i) + sizeO (l.getD i zeroB) := by
  unfold sumO
  rw [List.take_succ_eq_append_getElem h, List.map_append, List.sum_append]
  simp [List.getD, h]

theorem cap_full {S' : Nat} (h : 41 ≤ S') : (41 : Int) = ((min S' 41 : Nat) : Int) := by omega
/-- a sum that stops at 41 -/
theorem cap_step {t S S' : Nat} {x : Int} (h : t = min S 41) (hx : ((t : Int) + (S' - S) = x ∧ S ≤ S') ∨ (41 < S' ∧ 41 < x)) : (if 41 < x then 41 else x) = ((min S' 41 : Nat) : Int) := by
  split <;> omega

end Go.Proofs.YtjafjapnmffohaaGreatDoor

namespace Go.Proofs.YtjafjapnmffohaaGreatDoor
open Go.RowKit
set_option linter.unusedVariables false
attribute [local go_sem] Oper.semAt_some

section
variable {t : TypeId} {w w' : World} {base n c : Nat} {A : Option Addr} {ys : List Int}
theorem OwnB.far (h : OwnB t w base A n c ys) {p : Addr} (hp : p.block < base) (u : Value) : OwnB t (w.setCell p u) base A n c ys := by
  refine ⟨⟨h.1.1, ?_⟩, h.2⟩
  rcases h.1.2 with e | ⟨g, cap, cur, e, hbg, hg, r⟩
  · exact .inl e
  · exact .inr ⟨g, cap, cur, e, hbg, (Below.heap_setCell w p u g (by omega)).trans hg, r⟩
theorem OwnB.kept {row : Option Nat} (h : OwnB t w base A n c ys) (hg : w.grownBy w' row) (hr : ∀ r, row = some r → ∃ o : Obj, w.heap[r]? = some o ∧ o.isCells = false) : OwnB t w' base A n c ys := by
  refine ⟨⟨h.1.1, ?_⟩, h.2⟩
  rcases h.1.2 with e | ⟨g, cap, cur, e, hbg, hgg, r⟩
  · exact .inl e
  · exact .inr ⟨g, cap, cur, e, hbg, (grownBy_keeps_cells hg hr hgg rfl).trans hgg, r⟩
theorem OwnB.row (h : OwnB t w base A n c ys) : ∀ k, (Value.slice A n c).ownBlock = some k → ∃ cs z, w.heap[k]? = some (.cells cs t z) := fun k hk => by
  rcases h.1.2 with ⟨e, _⟩ | ⟨g, cap, cur, e, hbg, hg, r⟩
  · injection e with e1
    subst e1
    cases hk
  · injection e with e1
    subst e1
    have : g = k := by simpa [Value.ownBlock] using hk
    subst this
    exact ⟨_, _, hg⟩
end

/-- a list of bytes is handed back, and a number -/
def GivesBE (w : World) (ys : List Int) (x : Int) (e : Ending) (w' : World) : Prop :=
  ∃ A c, e = .returned (.tuple #[.slice A ys.length c, .int .i64 x]) ∧ Bs w' w'.heap.size A ys.length ys ∧ (ys.length ≤ c ∧ c ≤ 9223372036854775807) ∧ Below w.heap.size w w'
/-- between two parts: the bytes so far -/
def PutI (w : World) (q : Nat) (ps : List (List Int)) (j : Nat) (W : World) : Prop :=
  (∃ A c, BlkV W 22 q [.slice A (upto ps j).length c] ∧ OwnB 5 W (q + 1) A (upto ps j).length c (upto ps j)) ∧ Below w.heap.size w W
/-- how long the slice in a variable is -/
def lenAt (q : Nat) (w : World) : Nat := match w.cell? ⟨q, 0, none⟩ with
  | some (.slice _ n _) => n
  | _ => 0
theorem lenAt_eq {w : World} {q n c : Nat} {A : Option Addr} (h : w.cell? ⟨q, 0, none⟩ = some (.slice A n c)) : lenAt q w = n := by unfold lenAt; rw [h]

end Go.Proofs.YtjafjapnmffohaaGreatDoor

namespace Go.Proofs.YtjafjapnmffohaaGreatDoor
open Go.RowKit
set_option linter.unusedVariables false

theorem flat_take {l : List Ob} {i : Nat} (h : i < l.length) : flatO (l.take (i + 1)) = flatO (l.take i) ++ (headO (l.getD i zeroB) ++ (l.getD i zeroB).2) := by
  unfold flatO
  rw [List.take_succ_eq_append_getElem h, List.flatMap_append]
  simp [List.getD, h]
theorem flat_take_le (l : List Ob) (i : Nat) : (flatO (l.take i)).length ≤ (flatO l).length := by
  have h : flatO l = flatO (l.take i) ++ flatO (l.drop i) := by unfold flatO; rw [← List.flatMap_append, List.take_append_drop]
  rw [h, List.length_append]; omega

theorem below_app {base : Nat} {w wr w1 : World} {o : Obj} {X : Option Nat} (hB : Below base w wr) (hsz : base ≤ wr.heap.size) (hgr : (wr.alloc o).grownBy w1 X) (hX : ∀ x, X = some x → base ≤ x) : Below base w w1 :=
  (hB.alloc hsz o).grown hgr (by simp only [World.size_alloc]; omega) hX
def sliceLen : Value → Nat
  | .slice _ n _ => n
  | _ => 0
theorem one_src (wr : World) (x : Int) (h0 : 0 ≤ x) (h1 : x < 256) : Bs (wr.alloc (.cells #[.int .u8 x] 5)) (wr.heap.size + 1) (some ⟨wr.heap.size, 0, none⟩) 1 [x] :=
  (Blk.new wr 5 [x]).bs (.cons h0 h1 .nil) (by omega) rfl

end Go.Proofs.YtjafjapnmffohaaGreatDoor

namespace Go.Proofs.YtjafjapnmffohaaGreatDoor
open Go.RowKit
set_option linter.unusedVariables false

theorem opt_size : (Tryz.prog.info? 132).map (·.size) = some 2 := by kernel_rfl
theorem info_opt : (Tryz.prog.info? 132).map (fun i => (i.zero, i.size, i.bytes)) = some (some zeroOV, 2, 32) := by kernel_rfl
theorem results_cell_tmp2 {P : Program} {fn : Func} {p q r : Tmp} {ty : TypeId} (h : fn.results = #[.cell p ty, .tmp q, .tmp r]) (tmps : Array Value) (w : World) (g : Nat) (t : TypeId) (cs : Array Value) (fr : Nat × Nat) (d : TypeDesc) (u v : Value)
    (hp : tmps.getD p undef = .pointer (some ⟨g, 0, none⟩)) (hq : tmps.getD q undef = u) (hr : tmps.getD r undef = v) (hg : w.heap[g]? = some (.cells cs t fr))
    (hu : P.underlying ty = some d) (hd : (match d with | .struct _ | .array _ _ => true | _ => false) = true) (hi : (P.info? ty).map (·.size) = some cs.size) :
    (results fn tmps).run P w = .ok (.tuple #[.agg cs, u, v]) w := by
  have hp' : tmps[p]?.getD undef = .pointer (some ⟨g, 0, none⟩) := by simpa using hp
  have hq' : tmps[q]?.getD undef = u := by simpa using hq
  have hr' : tmps[r]?.getD undef = v := by simpa using hr
  simp [results, h, hp', hq', hr', asAddr, run_loadVar_row w g t ty cs fr d hg hu hd hi]

/-- an option, two numbers -/
def GivesT (w : World) (r : Ob × Nat × Int) (e : Ending) (w' : World) : Prop :=
  ∃ o : Od, e = .returned (.tuple #[.agg #[.int .i64 o.k, .slice o.A o.n o.c], .int .i64 (r.2.1 : Nat), .int .i64 r.2.2]) ∧ o.v = r.1 ∧ (∀ X : Option Nat, (∀ x, X = some x → x < w.heap.size) → o.off w' X) ∧ Below w.heap.size w w'
theorem ret_take {w w' : World} {tmps : Array Value} {df : List Deferred} {g : Nat} {o : Od} {r : Ob × Nat × Int} (hp : tmps.getD 2 undef = .pointer (some ⟨g, 0, none⟩)) (hq : tmps.getD 3 undef = .int .i64 (r.2.1 : Nat)) (hr : tmps.getD 4 undef = .int .i64 r.2.2)
    (hb : BlkV w' 132 g [.int .i64 o.k, .slice o.A o.n o.c]) (hv : o.v = r.1) (ho : ∀ X : Option Nat, (∀ x, X = some x → x < w.heap.size) → o.off w' X) (hB : Below w.heap.size w w') (hdf : df = []) : bodyPost Tryz.prog Tryz.f117 (GivesT w r) .ret ⟨tmps, df⟩ w' := by
  subst hdf
  exact bodyPost_ret (results_cell_tmp2 Tryz.results117 _ _ g _ _ _ _ _ _ hp hq hr hb Tryz.underlying132 rfl (by rw [opt_size]; rfl)) rfl ⟨o, rfl, hv, ho, hB⟩

set_option maxHeartbeats 800000 in
theorem take_any (A : Option Addr) (n c : Nat) (xs : List Int) (w : World) (hn : n ≤ 140737488355328) (h0 : 0 < n) (hc : n ≤ c) (hc2 : c ≤ 9223372036854775807) (hb : Bs w w.heap.size A n xs) :
    Calls Tryz.prog 117 #[.slice A n c] w (GivesT w (takeO xs)) := by
  obtain ⟨b, o, rfl, hbl, hcc⟩ := hb.mem h0
  have q1 := hcc 0 h0
  have hn1 := hb.nonneg 0
  have hn2 := hb.nonneg 1
  have hl := Low.alloc w (.cells #[.int .i64 0, .slice none 0 0] 132)
  have c1 : (w.alloc (.cells #[.int .i64 0, .slice none 0 0] 132)).cell? ⟨b, o, none⟩ = some (.int .u8 (xs.getD 0 0)) := (Below.cell hl (p := ⟨b, o, none⟩) hbl).trans q1
  have hlen := hb.len
  have HB := Lib.hid hb
  have HL := Lib.hid hl
  clear q1 hl
  by_cases hk : xs.getD 0 0 = 1
  · have HT := Lib.hid (show takeO xs = ((1, []), 1, 0) by unfold takeO; rw [if_pos hk])
    rw [hk] at c1
    clear hcc hb hn1 hn2 hk
    go_enter Tryz.func117, Tryz.ntmps117
    go_wp2_with fail
    rw [HT.out]
    exact ret_take (o := ⟨1, none, 0, 0, []⟩) rfl rfl rfl (BlkV.new w _ [.int .i64 1, .slice none 0 0]) rfl (fun X _ => Od.off.nul _ _ _ _ (by unfold i64ok; omega)) (Low.alloc _ _) rfl
  · by_cases h2 : n < 2
    · have HT := Lib.hid (show takeO xs = (zeroB, 0, 3) by unfold takeO; rw [if_neg hk, if_pos (by omega)])
      have hkb : (xs.getD 0 0 == 1) = false := by simpa using hk
      generalize xs.getD 0 0 = x0 at *
      clear hcc hb hn2 hk
      go_enter Tryz.func117, Tryz.ntmps117
      go_wp2_with fail
      rw [HT.out]
      exact ret_take (o := zeroO) rfl rfl rfl (BlkV.new w _ [.int .i64 0, .slice none 0 0]) rfl (fun X _ => Od.off.nul _ _ _ _ (by unfold i64ok; omega)) (Low.alloc _ _) rfl
    · have d1 : (w.alloc (.cells #[.int .i64 0, .slice none 0 0] 132)).cell? ⟨b, o + 1, none⟩ = some (.int .u8 (xs.getD 1 0)) := (Below.cell HL.out (p := ⟨b, o + 1, none⟩) hbl).trans (hcc 1 (by omega))
      have hkb : (xs.getD 0 0 == 1) = false := by simpa using hk
      by_cases h3 : xs.getD 1 0 < 2
      · have HT := Lib.hid (show takeO xs = (zeroB, 0, 5) by unfold takeO; rw [if_neg hk, if_neg (by omega), if_pos h3])
        generalize xs.getD 0 0 = x0 at *
        generalize xs.getD 1 0 = x1 at *
        clear hcc hb hk
        go_enter Tryz.func117, Tryz.ntmps117
        go_wp2_with fail
        rw [HT.out]
        exact ret_take (o := zeroO) rfl rfl rfl (BlkV.new w _ [.int .i64 0, .slice none 0 0]) rfl (fun X _ => Od.off.nul _ _ _ _ (by unfold i64ok; omega)) (Low.alloc _ _) rfl
      · have hb2 := hb.below' HL.out HL.out.size
        have hr0 := BlkV.new w 132 [.int .i64 0, .slice none 0 0]
        by_cases h4 : (n : Int) < xs.getD 1 0
        · have HT := Lib.hid (show takeO xs = (zeroB, 0, 3) by unfold takeO; rw [if_neg hk, if_neg (by omega), if_neg h3, if_pos (by omega)])
          generalize xs.getD 0 0 = x0 at *
          generalize xs.getD 1 0 = x1 at *
          have HR := Lib.hid hr0
          have HB2 := Lib.hid hb2
          clear hcc hb hk hb2 hr0
          go_enter Tryz.func117, Tryz.ntmps117
          go_wp2_with fail
          refine (cut_no _ n c 2 (x1 - 2) _ hn (by omega) (by omega)).mono ?_
          rintro e w1 ⟨rfl, rfl⟩
          go_wp2_with fail
          rw [HT.out]
          exact ret_take (o := zeroO) rfl rfl rfl (BlkV.new w _ [.int .i64 0, .slice none 0 0]) rfl (fun X _ => Od.off.nul _ _ _ _ (by unfold i64ok; omega)) (Low.alloc _ _) rfl
        · obtain ⟨s, hs⟩ : ∃ s : Nat, xs.getD 1 0 = ((s + 2 : Nat) : Int) := ⟨(xs.getD 1 0).toNat - 2, by omega⟩
          have hs2 : (xs.getD 1 0).toNat - 2 = s := by omega
          have hs3 : (xs.getD 1 0).toNat = s + 2 := by omega
          have hsb : s + 2 ≤ 255 := by omega
          have hsn : s + 2 ≤ n := by omega
          cases hf : fitsO (xs.getD 0 0) s
          · have HT := Lib.hid (show takeO xs = (zeroB, 0, 5) by unfold takeO; rw [if_neg hk, if_neg (by omega), if_neg h3, if_neg (by omega), hs2, if_pos hf])
            generalize hx0 : xs.getD 0 0 = x0 at *
            rw [hs] at d1
            have HR := Lib.hid hr0
            have HB2 := Lib.hid hb2
            clear hcc hb hk hb2 hr0 hs hs2 hs3 h3 h4 hn2 hx0
            go_enter Tryz.func117, Tryz.ntmps117
            go_wp2_with fail
            refine (cut_yes _ n c 2 _ 2 s xs _ hn hc hc2 HB2.out rfl (by omega) (by omega)).mono ?_
            rintro e w1 ⟨v, rfl, g, rfl, hg, hblk, hl1, ha1, hB1⟩
            have HK := Lib.hid hblk
            have HG := Lib.hid hg
            have HA := Lib.hid (And.intro hl1 ha1)
            clear hblk hg hl1 ha1 c1 d1
            go_wp2_with fail
            refine (fits_any x0 s _ (by unfold i64ok; omega) (by omega)).mono ?_
            rintro e w2 ⟨rfl, hB2⟩
            rw [hf]
            have hr2 : BlkV w2 132 w.heap.size [.int .i64 0, .slice none 0 0] := BlkV.below (HR.out.below hB1 (by simp)) hB2 (Nat.lt_of_lt_of_le (by simp) hB1.size)
            have r0 : w2.cell? ⟨w.heap.size, 0, none⟩ = some (.int .i64 0) := by rw [hr2.cell 0]; rfl
            have r1 : w2.cell? ⟨w.heap.size, 1, none⟩ = some (.slice none 0 0) := by rw [hr2.cell 1]; rfl
            have f0 := hr2.frozen 0
            have f1 := hr2.frozen 1
            have HLW := Lib.hid (HL.out.trans (Low.trans hB1 hB2))
            have HR2 := Lib.hid hr2
            have HBB := Lib.hid (And.intro hB1 hB2)
            clear hr2 hB1 hB2
            go_wp2_with fail
            rw [HT.out]
            exact ret_take (o := zeroO) rfl rfl rfl ((HR2.out.set_ 0 _).set_ 1 _) rfl (fun X _ => Od.off.nul _ _ _ _ (by unfold i64ok; omega)) ((HLW.out.setCell (p := ⟨w.heap.size, 0, none⟩) (Nat.le_refl _) _).setCell (p := ⟨w.heap.size, 1, none⟩) (Nat.le_refl _) _) rfl
          · have HT := Lib.hid (show takeO xs = ((xs.getD 0 0, (xs.drop 2).take s), s + 2, 0) by unfold takeO; rw [if_neg hk, if_neg (by omega), if_neg h3, if_neg (by omega), hs2, if_neg (by rw [hf]; simp), hs3])
            generalize hx0 : xs.getD 0 0 = x0 at *
            rw [hs] at d1
            have HR := Lib.hid hr0
            have HB2 := Lib.hid hb2
            clear hcc hb hk hb2 hr0 hs hs2 hs3 h3 h4 hn2 hx0
            go_enter Tryz.func117, Tryz.ntmps117
            go_wp2_with fail
            refine (cut_yes _ n c 2 _ 2 s xs _ hn hc hc2 HB2.out rfl (by omega) (by omega)).mono ?_
            rintro e w1 ⟨v, rfl, g, rfl, hg, hblk, hl1, ha1, hB1⟩
            have HK := Lib.hid hblk
            have HG := Lib.hid hg
            have HA := Lib.hid (And.intro hl1 ha1)
            clear hblk hg hl1 ha1 c1 d1
            go_wp2_with fail
            refine (fits_any x0 s _ (by unfold i64ok; omega) (by omega)).mono ?_
            rintro e w2 ⟨rfl, hB2⟩
            rw [hf]
            have hr2 : BlkV w2 132 w.heap.size [.int .i64 0, .slice none 0 0] := BlkV.below (HR.out.below hB1 (by simp)) hB2 (Nat.lt_of_lt_of_le (by simp) hB1.size)
            have r0 : w2.cell? ⟨w.heap.size, 0, none⟩ = some (.int .i64 0) := by rw [hr2.cell 0]; rfl
            have r1 : w2.cell? ⟨w.heap.size, 1, none⟩ = some (.slice none 0 0) := by rw [hr2.cell 1]; rfl
            have f0 := hr2.frozen 0
            have f1 := hr2.frozen 1
            have HLW := Lib.hid (HL.out.trans (Low.trans hB1 hB2))
            have HR2 := Lib.hid hr2
            have HBB := Lib.hid (And.intro hB1 hB2)
            clear hr2 hB1 hB2
            go_wp2_with fail
            rw [HT.out]
            have hgw : w.heap.size < g := by have := HG.out; simp at this; omega
            have hk2 : Blk w2 5 g ((xs.drop 2).take s) := HK.out.below HBB.out.2 HK.out.lt
            have hk3 := (hk2.far (p := ⟨w.heap.size, 0, none⟩) (by show g ≠ w.heap.size; omega) (.int .i64 x0)).far (p := ⟨w.heap.size, 1, none⟩) (by show g ≠ w.heap.size; omega) (.slice (some ⟨g, 0, none⟩) s s)
            exact ret_take (o := ⟨x0, some ⟨g, 0, none⟩, s, s, (xs.drop 2).take s⟩) rfl rfl rfl ((HR2.out.set_ 0 _).set_ 1 _) rfl (fun X hX => Od.off.new (w := w) (by unfold i64ok; omega) (by omega) HA.out.1 HA.out.2 hk3 (Nat.le_of_lt hgw) hX) ((HLW.out.setCell (p := ⟨w.heap.size, 0, none⟩) (Nat.le_refl _) _).setCell (p := ⟨w.heap.size, 1, none⟩) (Nat.le_refl _) _) rfl
end Go.Proofs.YtjafjapnmffohaaGreatDoor

namespace Go.Proofs.YtjafjapnmffohaaGreatDoor
open Go.RowKit
set_option linter.unusedVariables false

/-- data, and options, that lie from block lo on -/
def Od.from_ (lo : Nat) (o : Od) : Prop := 0 < o.n → ∃ b p, o.A = some ⟨b, p, none⟩ ∧ lo ≤ b
def OFrom (lo : Nat) (A : Option Addr) (n : Nat) (os : List Od) : Prop := (0 < n → ∃ b p, A = some ⟨b, p, none⟩ ∧ lo ≤ b) ∧ ∀ o ∈ os, o.from_ lo
theorem Od.from_.less {lo lo' : Nat} {o : Od} (h : o.from_ lo) (hl : lo' ≤ lo) : o.from_ lo' := fun hn => by
  obtain ⟨b, p, e, hb⟩ := h hn
  exact ⟨b, p, e, by omega⟩
theorem Od.from_.nul (lo : Nat) (k : Int) (A : Option Addr) (c : Nat) (d : List Int) : Od.from_ lo ⟨k, A, 0, c, d⟩ := fun h => absurd h (by show ¬ 0 < 0; omega)
theorem Od.from_.of_off {w : World} {lo : Nat} {o : Od} (h : ∀ X : Option Nat, (∀ x, X = some x → x < lo) → o.off w X) : o.from_ lo := fun hn => by
  obtain ⟨b, p, e, hb, -, -⟩ := (h none (fun x e => by cases e)).2.2.2.2 hn
  refine ⟨b, p, e, ?_⟩
  rcases Nat.lt_or_ge b lo with hlt | hge
  · obtain ⟨b', p', e', -, hne, -⟩ := (h (some b) (fun x e => by injection e with e; omega)).2.2.2.2 hn
    rw [e] at e'
    injection e' with e'
    injection e' with e1 _ _
    exact absurd (by rw [e1]) hne
  · exact hge
theorem OFrom.nil (lo : Nat) (A : Option Addr) : OFrom lo A 0 [] := ⟨fun h => absurd h (by omega), fun o h => by cases h⟩
theorem OFrom.own {t : TypeId} {w : World} {base lo n c : Nat} {A : Option Addr} {os : List Od} (h : OwnO t w base A n c os) (hl : lo ≤ base) (ho : ∀ o ∈ os, o.from_ lo) : OFrom lo A n os :=
  ⟨fun hn => by
    obtain ⟨g, cap, hv, hb, _⟩ := World.ownsRow.form h hn
    have hA : A = some ⟨g, 0, none⟩ := by injection hv
    exact ⟨g, 0, hA, by omega⟩, ho⟩

/-- options and a number are handed back -/
def GivesO (w : World) (r : List Ob × Int) (e : Ending) (w' : World) : Prop :=
  ∃ A c os, e = .returned (.tuple #[.slice A r.1.length c, .int .i64 r.2]) ∧ os.map Od.v = r.1 ∧ Os w' w'.heap.size A r.1.length os ∧ Below w.heap.size w w' ∧ OFrom w.heap.size A r.1.length os
theorem GivesO.err {w w' : World} {r : List Ob × Int} (k : Int) (h : r = ([], k)) (hB : Below w.heap.size w w') : GivesO w r (.returned (.tuple #[.slice none 0 0, .int .i64 k])) w' := by
  subst h
  exact ⟨none, 0, [], rfl, rfl, Os.nil _ _ _, hB, OFrom.nil _ _⟩
theorem Bs.behind {w : World} {B b o n s : Nat} {xs : List Int} (h : Bs w B (some ⟨b, o, none⟩) n xs) (hs : s ≤ n) : Bs w B (some ⟨b, o + s, none⟩) (n - s) (xs.drop s) :=
  ⟨by rw [List.length_drop, h.len], h.all.drop s, fun hn => by
    obtain ⟨b', o', e, hb, hc⟩ := h.mem (by omega)
    injection e with e
    injection e with e1 e2 _
    subst e1 e2
    refine ⟨_, _, rfl, hb, fun i hi => ?_⟩
    have := hc (s + i) (by omega)
    rw [← Nat.add_assoc] at this
    rw [this]
    simp [List.getD, List.getElem?_drop]⟩
theorem parseO_stop {f : Nat} {xs : List Int} (h : xs ≠ []) (h0 : xs.getD 0 0 = 0) : parseO (f + 1) xs = if zerosB xs = true then ([], 0) else ([], 5) := by rw [parseO, if_neg h, if_pos h0]
theorem parseO_next {f : Nat} {xs : List Int} (h : xs ≠ []) (h0 : xs.getD 0 0 ≠ 0) : parseO (f + 1) xs = if (takeO xs).2.2 = 0 then joinO [(takeO xs).1] (parseO f (xs.drop (takeO xs).2.1)) else ([], (takeO xs).2.2) := by rw [parseO, if_neg h, if_neg h0]
def valLen : Value → Nat
  | .slice _ n _ => n
  | _ => 0
/-- where the parsing stands -/
def ParRel (w : World) (R : List Ob × Int) (v0 v4 : Value) (wr : World) : Prop :=
  ∃ A n c xs f LA q lc os, v0 = .slice A n c ∧ v4 = .slice LA q lc ∧ Bs wr w.heap.size A n xs ∧ n ≤ c ∧ c ≤ 9223372036854775807 ∧ q + n ≤ 40 ∧ n < f ∧ OwnO 132 wr w.heap.size LA q lc os ∧ (∀ o ∈ os, o.off wr (Value.slice LA q lc).ownBlock) ∧ Hid (R = joinO (os.map Od.v) (parseO f xs)) ∧ Below w.heap.size w wr ∧ Hid (∀ o ∈ os, o.from_ w.heap.size)

set_option maxRecDepth 100000 in
set_option maxHeartbeats 2000000 in
theorem tparse_any (A : Option Addr) (n c : Nat) (xs : List Int) (w : World) (hn : n ≤ 140737488355328) (hc : n ≤ c) (hc2 : c ≤ 9223372036854775807) (hb : Bs w w.heap.size A n xs) :
    Calls Tryz.prog 112 #[.slice A n c] w (GivesO w (parseL xs)) := by
  obtain ⟨i0, hi, hz0, hz1, hz2⟩ := info_parts info_opt
  by_cases h40 : 40 < n
  · have HX := Lib.hid (show parseL xs = ([], 4) by unfold parseL; rw [if_pos (by rw [hb.len]; exact h40)])
    clear hb
    go_enter Tryz.func112, Tryz.ntmps112
    go_wp2_with fail
    go_ret2
    exact GivesO.err 4 HX.out (Below.refl _ _)
  · have HX := Lib.hid (show parseL xs = joinO (List.map Od.v []) (parseO 41 xs) by
      unfold parseL
      rw [if_neg (by rw [hb.len]; exact h40)]
      exact (joinO_nil _ (parseO_err_nil 41 xs)).symm)
    generalize parseL xs = R at *
    have hrel0 : ParRel w R (.slice A n c) (.slice none 0 0) w := ⟨A, n, c, xs, 41, none, 0, 0, [], rfl, rfl, hb, hc, hc2, by omega, by omega, OwnO.none_ _ _ _, (fun o h => by cases h), HX, Below.refl _ _, Lib.hid (fun o h => by cases h)⟩
    clear hb HX
    go_enter Tryz.func112, Tryz.ntmps112
    go_wp2_with fail
    go_loopw [0, 4] (fun v0 v4 wr => ParRel w R v0 v4 wr) (fun v0 _ _ => valLen v0)
    case atStart => exact hrel0
    case round =>
      clear hrel0
      obtain ⟨A, n, c, xs, f, LA, q, lc, os, rfl, rfl, hb, hc, hc2, hq, hf, hown, hoff, HR, hB, HF⟩ := hrel
      by_cases h0 : 0 < n
      · obtain ⟨f, rfl⟩ : ∃ f', f = f' + 1 := ⟨f - 1, by omega⟩
        have hsz := hB.size
        have hxne : xs ≠ [] := fun e => by have := hb.len; rw [e] at this; simp at this; omega
        have hbm := hb.more hsz
        obtain ⟨b, o, rfl, hbl, hcc⟩ := hb.mem h0
        have c1 : wr.cell? ⟨b, o, none⟩ = some (.int .u8 (xs.getD 0 0)) := hcc 0 h0
        have hn1 := hb.nonneg 0
        by_cases hz : xs.getD 0 0 = 0
        · rw [hz] at c1
          have hR : R = if zerosB xs = true then (os.map Od.v, 0) else ([], 5) := by
            rw [HR.out, parseO_stop hxne hz]
            split <;> simp [joinO]
          have HRR := Lib.hid hR
          have HOWN := Lib.hid hown
          have HOFF := Lib.hid hoff
          have hlen := hown.len
          clear hR HR hown hoff hb hcc hn1 hz
          go_wp2_with fail
          refine (zeros_any _ n c xs wr (by omega) hbm).mono ?_
          rintro e w1 ⟨rfl, rfl⟩
          have hR := HRR.out
          cases hzz : zerosB xs
          · rw [hzz, if_neg (by simp)] at hR
            have HR2 := Lib.hid hR
            clear hR hzz HRR hbm c1
            go_wp2_with fail
            go_ret2
            exact GivesO.err 5 HR2.out hB
          · rw [hzz, if_pos rfl] at hR
            have HR2 := Lib.hid hR
            clear hR hzz HRR hbm c1
            go_wp2_with fail
            go_ret2
            rw [HR2.out]
            refine ⟨LA, lc, os, ?_, rfl, ?_, hB, by simpa [hlen] using OFrom.own HOWN.out (Nat.le_refl _) HF.out⟩
            · simp [hlen]
            · simpa [hlen] using HOWN.out.lies (Nat.le_refl _) fun o h => (HOFF.out o h).ok
        · have hR : R = if (takeO xs).2.2 = 0 then joinO (os.map Od.v ++ [(takeO xs).1]) (parseO f (xs.drop (takeO xs).2.1)) else ([], (takeO xs).2.2) := by
            rw [HR.out, parseO_next hxne hz]
            split
            · rw [joinO_join]
            · rename_i h; simp [joinO, h]
          have hts := takeO_size (xs := xs)
          have hte := takeO_err xs
          have HLEN := Lib.hid hb.len
          have htake := take_any (some ⟨b, o, none⟩) n c xs wr (by omega) h0 hc hc2 hbm
          have hzb : (xs.getD 0 0 == 0) = false := by simpa using hz
          rw [hb.len] at hts
          generalize takeO xs = T at *
          generalize xs.getD 0 0 = x0 at *
          obtain ⟨ob, sz, er⟩ := T
          dsimp only at hR hts hte
          have HRR := Lib.hid hR
          have HOWN := Lib.hid hown
          have HOFF := Lib.hid hoff
          have hlen := hown.len
          have HB := Lib.hid hb
          have HT := Lib.hid htake
          have hltO := hown.lt
          clear hR HR hown hoff hcc hz hb hbm htake hxne
          go_wp2_with fail
          refine HT.out.mono ?_
          rintro e w1 ⟨od, rfl, hv, hoff1, hB1⟩
          have hR := HRR.out
          by_cases he : er = 0
          · subst he
            rw [if_pos rfl] at hR
            obtain ⟨hs1, hs2⟩ := hts rfl h0
            obtain ⟨kk, DA, dn, dc, d⟩ := od
            have hok := (hoff1 none (fun x e => by cases e)).ok
            have HF2 := Lib.hid ((Od.from_.of_off hoff1).less hsz)
            have hoff2 := hoff1 (Value.slice LA q lc).ownBlock (fun x e => (hltO x e).2)
            have hl1 := Low.alloc w1 (.cells #[.int .i64 kk, .slice DA dn dc] 132)
            have hl2 := hl1.trans (Low.alloc _ (.cells #[.int .i64 kk, .slice DA dn dc] 132))
            have hlw := Low.trans hB1 hl2
            have hown1 := HOWN.out.below hlw
            have hsrc := Os.one (w1.alloc (.cells #[.int .i64 kk, .slice DA dn dc] 132)) 132 ⟨kk, DA, dn, dc, d⟩ (B := w1.heap.size + 2) ((hok.keep fun p hp => hl1.cell hp).more hl1.size) (by simp)
            simp only [World.size_alloc] at hsrc
            have hoff3 : ∀ o ∈ os, o.off _ (Value.slice LA q lc).ownBlock := fun o h => (HOFF.out o h).below hlw
            have hoff4 := hoff2.below hl2
            have hB3 := hB.trans (hlw.mono hsz)
            have HLR := Lib.hid (hlw.mono hsz)
            have HO3 := Lib.hid hoff3
            have HO4 := Lib.hid hoff4
            have HB3 := Lib.hid hB3
            have HR2 := Lib.hid hR
            have HV := Lib.hid hv
            clear hR HRR c1 hoff1 hoff2 hts hok hl1 hl2 hlw hoff3 hoff4 hB3 hB1 hv
            go_wp2_with (at_builtin; refine wpList_append_os rfl _ _ 32 rfl w.heap.size 132 i0 Tryz.underlying32 hi hz0 hz1 hz2 LA q lc os rfl hown1 _ 1 1 (w1.heap.size + 2) [⟨kk, DA, dn, dc, d⟩] rfl hsrc (by omega) HB3.out.size ?_; intro A2 c2 w2 hown2 hgr hob; refine Hid.out ?_)
            refine Lib.hid ?_
            have hB4 : Below w.heap.size w w2 := HB3.out.grown hgr HB3.out.size fun x e => (hltO x e).1
            have hBr : Below w.heap.size wr w2 := HLR.out.grown hgr HB3.out.size fun x e => (hltO x e).1
            have HBB := Lib.hid ((HB.out.below hBr).behind hs2)
            have hoff5 : ∀ o ∈ os ++ [⟨kk, DA, dn, dc, d⟩], Od.off w2 (Value.slice A2 (q + 1) c2).ownBlock o := fun o h => by
              rcases List.mem_append.1 h with h | h
              · exact (HO3.out o h).grown hgr hob
              · obtain rfl : o = ⟨kk, DA, dn, dc, d⟩ := by simpa using h
                exact HO4.out.grown hgr hob
            have HO5 := Lib.hid hoff5
            have HF3 : Hid (∀ o ∈ os ++ [⟨kk, DA, dn, dc, d⟩], Od.from_ w.heap.size o) := Lib.hid fun o h => by
              rcases List.mem_append.1 h with h | h
              · exact HF.out o h
              · obtain rfl : o = ⟨kk, DA, dn, dc, d⟩ := by simpa using h
                exact HF2.out
            have HOWN2 := Lib.hid hown2
            clear hown2 hgr hob hoff5 hsrc hown1 hBr
            go_wp2_with fail
            refine ⟨⟨_, n - sz, c - sz, xs.drop sz, f, A2, q + 1, c2, os ++ [⟨kk, DA, dn, dc, d⟩], rfl, rfl, ?_, by omega, by omega, by omega, by omega, HOWN2.out, HO5.out, Lib.hid ?_, hB4, HF3⟩, by simp only [valLen]; omega⟩
            · split
              · exact ⟨HBB.out.len, HBB.out.all, fun h => by omega⟩
              · exact HBB.out
            · have hv2 : Od.v ⟨kk, DA, dn, dc, d⟩ = ob := HV.out
              rw [HR2.out, List.map_append, List.map_cons, List.map_nil, hv2]
          · rw [if_neg he] at hR
            have HR2 := Lib.hid hR
            have hB2 := hB.trans (hB1.mono hsz)
            have heb : (er != 0) = true := by simpa using he
            obtain ⟨kk, DA, dn, dc, d⟩ := od
            clear hR HRR c1 hoff1 hB1 hts
            go_wp2_with fail
            go_ret2
            exact GivesO.err er HR2.out (hB2.alloc hB2.size _)
      · obtain rfl : n = 0 := by omega
        obtain rfl : xs = [] := List.eq_nil_of_length_eq_zero hb.len
        have hR : R = (os.map Od.v, 0) := by
          rw [HR.out]
          cases f with
          | zero => omega
          | succ f => simp [parseO, joinO]
        have HRR := Lib.hid hR
        have hlen := hown.len
        clear hR HR
        go_wp2_with fail
        go_ret2
        rw [HRR.out]
        refine ⟨LA, lc, os, ?_, rfl, ?_, hB, by simpa [hlen] using OFrom.own hown (Nat.le_refl _) HF.out⟩
        · simp [hlen]
        · simpa [hlen] using hown.lies (Nat.le_refl _) fun o h => (hoff o h).ok
end Go.Proofs.YtjafjapnmffohaaGreatDoor

namespace Go.Proofs.YtjafjapnmffohaaGreatDoor
open Go.RowKit
set_option linter.unusedVariables false

section
variable {P : Program} {ops : Array Oper} {Q : Exit → Act → World → Prop} {S : World → Prop}
/-- an operation that comes up alone, by its run -/
theorem walkS_run {i : Nat} {r : Plan} {d : Option Tmp} {op : Op} {t : TypeId} {pos : String} {aft : Array Edge} {g : Option (Nat × Bool)} {v : Value} {a : Act} {w w' : World} (hi : ops[i]? = some ⟨d, op, t, pos, aft, g⟩)
    (hw : Region.wanted ⟨d, op, t, pos, #[], g⟩ (yielded ops a.tmps) = true)
    (hv : (execOp a.eval ⟨d, op, t, pos, #[], g⟩).run P w = .ok (.value v) w') (hS : S w') (h : walkS P ops Q S r (a.put d v) w') : walkS P ops Q S (.act i r) a w :=
  walkS_act hi hw fun K hK => by
    unfold Oper.wp
    rw [hv]
    exact hK _ _ hS h
/-- one that stores -/
theorem walkS_put {i : Nat} {r : Plan} {d : Option Tmp} {op : Op} {t : TypeId} {pos : String} {aft : Array Edge} {g : Option (Nat × Bool)} {a : Act} {w w' : World} (hi : ops[i]? = some ⟨d, op, t, pos, aft, g⟩)
    (hw : Region.wanted ⟨d, op, t, pos, #[], g⟩ (yielded ops a.tmps) = true)
    (hv : (execOp a.eval ⟨d, op, t, pos, #[], g⟩).run P w = .ok .skip w') (hS : S w') (h : walkS P ops Q S r (a.put d undef) w') : walkS P ops Q S (.act i r) a w :=
  walkS_act hi hw fun K hK => by
    unfold Oper.wp
    rw [hv]
    exact hK _ _ hS h
end
theorem getD_drop (xs : List Int) (p i : Nat) : (xs.drop p).getD i 0 = xs.getD (p + i) 0 := by simp [List.getD, List.getElem?_drop]
theorem zeros_drop_false {xs : List Int} {p k : Nat} (hp : p ≤ k) (hk : k < xs.length) (h : xs.getD k 0 ≠ 0) : zerosB (xs.drop p) = false :=
  zerosB_false (k := k - p) (by rw [List.length_drop]; omega) (by rw [getD_drop, show p + (k - p) = k by omega]; exact h)
theorem zeros_drop_true {xs : List Int} {p : Nat} (h : ∀ k, p ≤ k → k < xs.length → xs.getD k 0 = 0) : zerosB (xs.drop p) = true :=
  zerosB_true fun j hj => by rw [getD_drop]; rw [List.length_drop] at hj; exact h _ (by omega) (by omega)

section
variable (A : Option Addr) (n c : Nat) (xs : List Int) (w : World)

set_option maxHeartbeats 800000 in
theorem rest_end (f p : Nat) (hn : n ≤ 140737488355328) (hb : Bs w w.heap.size A n xs) (hp : n ≤ p) (hp2 : p ≤ 140737488355328) : Calls Tryz.prog 55 #[.slice A n c, .int .i64 p] w (GivesO w (parseO f (xs.drop p))) := by
  have HX := Lib.hid (show parseO f (xs.drop p) = ([], 0) by
    rw [List.drop_of_length_le (by rw [hb.len]; exact hp)]
    cases f <;> simp [parseO])
  clear hb
  go_enter Tryz.func55, Tryz.ntmps55
  go_wp2_with fail
  go_ret2
  exact GivesO.err 0 HX.out (Below.refl _ _)

set_option maxHeartbeats 800000 in
theorem rest_zero (f p : Nat) (hn : n ≤ 140737488355328) (hb : Bs w w.heap.size A n xs) (hp : p < n) (hz : xs.getD p 0 = 0) : Calls Tryz.prog 55 #[.slice A n c, .int .i64 p] w (GivesO w (parseO (f + 1) (xs.drop p))) := by
  have hne : xs.drop p ≠ [] := fun e => by have := congrArg List.length e; rw [List.length_drop, hb.len] at this; simp at this; omega
  have HX := Lib.hid (parseO_stop (f := f) hne (by rw [getD_drop]; exact hz))
  have hlen := hb.len
  obtain ⟨b, o, rfl, hbl, hcc⟩ := hb.mem (by omega)
  have c1 := hcc p hp
  rw [hz] at c1
  have HCC := Lib.hid hcc
  have hdp : decide (n ≤ p) = false := by simp; omega
  clear hb hne hz hcc
  go_enter Tryz.func55, Tryz.ntmps55
  go_wp2_with fail
  go_loopw [6] (fun i wr => ∃ m : Nat, p ≤ m ∧ m ≤ n ∧ i = .int .i64 m ∧ wr = w ∧ Hid (∀ k, p ≤ k → k < m → xs.getD k 0 = 0)) (fun i _ => n - (intOf i).toNat)
  case atStart => exact ⟨p, Nat.le_refl _, by omega, rfl, rfl, Lib.hid fun k h1 h2 => by omega⟩
  case round =>
    obtain ⟨m, hm1, hm2, rfl, rfl, HE⟩ := hrel
    by_cases hmn : m < n
    · have c2 := HCC.out m hmn
      by_cases hx : xs.getD m 0 = 0
      · have HE2 := Lib.hid (show ∀ k, p ≤ k → k < m + 1 → xs.getD k 0 = 0 from fun k h1 h2 => by
          rcases Nat.lt_or_ge k m with h3 | h3
          · exact HE.out k h1 h3
          · obtain rfl : k = m := by omega
            exact hx)
        rw [hx] at c2
        clear hx HE c1
        go_wp2_with fail
        exact ⟨⟨m + 1, by omega, by omega, rfl, trivial, HE2⟩, by simp [intOf]; omega⟩
      · have hx2 : (xs.getD m 0 != 0) = true := by simpa using hx
        have HZ := Lib.hid (zeros_drop_false (p := p) hm1 (by omega) hx)
        generalize xs.getD m 0 = x at *
        clear hx HE c1
        go_wp2_with fail
        go_ret2
        exact GivesO.err 5 (by rw [HX.out, HZ.out]; rfl) (Below.refl _ _)
    · obtain rfl : m = n := by omega
      have HZ := Lib.hid (zeros_drop_true (xs := xs) (p := p) (fun k h1 h2 => HE.out k h1 (by omega)))
      clear HE c1
      go_wp2_with fail
      go_ret2
      exact GivesO.err 0 (by rw [HX.out, HZ.out]; rfl) (Below.refl _ _)

/-- what takeO says of the bytes from a place on -/
theorem take_at (p : Nat) (hl : xs.length = n) (hp : p < n) : takeO (xs.drop p) =
    if xs.getD p 0 = 1 then ((1, []), 1, 0)
    else if p = n - 1 then (zeroB, 0, 3)
    else if xs.getD (p + 1) 0 < 2 then (zeroB, 0, 5)
    else if (n : Int) - p < xs.getD (p + 1) 0 then (zeroB, 0, 3)
    else if fitsO (xs.getD p 0) ((xs.getD (p + 1) 0).toNat - 2) = false then (zeroB, 0, 5)
    else ((xs.getD p 0, (xs.drop (p + 2)).take ((xs.getD (p + 1) 0).toNat - 2)), (xs.getD (p + 1) 0).toNat, 0) := by
  unfold takeO
  rw [getD_drop, getD_drop, List.length_drop, hl, List.drop_drop]
  by_cases h1 : xs.getD p 0 = 1
  · rw [if_pos h1, if_pos (by simpa using h1)]
  · rw [if_neg h1, if_neg (by simpa using h1)]
    by_cases h2 : p = n - 1
    · rw [if_pos h2, if_pos (by omega)]
    · rw [if_neg h2, if_neg (by omega)]
      by_cases h3 : xs.getD (p + 1) 0 < 2
      · rw [if_pos h3, if_pos h3]
      · rw [if_neg h3, if_neg h3]
        by_cases h4 : (n : Int) - p < xs.getD (p + 1) 0
        · rw [if_pos h4, if_pos (by omega)]
        · rw [if_neg h4, if_neg (by omega), Nat.add_zero]

set_option maxHeartbeats 1600000 in
theorem rest_err (f p : Nat) (hn : n ≤ 140737488355328) (hb : Bs w w.heap.size A n xs) (hp : p < n) (hz : xs.getD p 0 ≠ 0) (hk : xs.getD p 0 ≠ 1)
    (h : p = n - 1 ∨ xs.getD (p + 1) 0 < 2 ∨ (n : Int) - p < xs.getD (p + 1) 0) : Calls Tryz.prog 55 #[.slice A n c, .int .i64 p] w (GivesO w (parseO (f + 1) (xs.drop p))) := by
  have hne : xs.drop p ≠ [] := fun e => by have := congrArg List.length e; rw [List.length_drop, hb.len] at this; simp at this; omega
  have hX := parseO_next (f := f) hne (by rw [getD_drop]; exact hz)
  rw [take_at n xs p hb.len hp] at hX
  rw [if_neg hk] at hX
  obtain ⟨b, o, rfl, hbl, hcc⟩ := hb.mem (by omega)
  have hl := Low.alloc w (.cells #[.int .i64 (xs.getD p 0), .slice none 0 0] 132)
  have c1 := hcc p hp
  have hn1 := hb.nonneg p
  have hn2 := hb.nonneg (p + 1)
  have hzb : (xs.getD p 0 == 0) = false := by simpa using hz
  have hkb : (xs.getD p 0 != 1) = true := by simpa using hk
  have HB0 := Lib.hid hl
  by_cases h1 : p = n - 1
  · rw [if_pos h1] at hX
    have HX := Lib.hid hX
    have h1b : ((p : Int) == (n : Int) - 1) = true := by simp; omega
    clear hX h hcc hb hne hk hz hn2 h1
    generalize xs.getD p 0 = x0 at *
    go_enter Tryz.func55, Tryz.ntmps55
    go_wp2_with fail
    go_ret2
    exact GivesO.err 3 HX.out HB0.out
  · rw [if_neg h1] at hX
    have h1b : ((p : Int) == (n : Int) - 1) = false := by simp; omega
    have c2 : (w.alloc (.cells #[.int .i64 (xs.getD p 0), .slice none 0 0] 132)).cell? ⟨b, o + (p + 1), none⟩ = some (.int .u8 (xs.getD (p + 1) 0)) := (Below.cell hl (p := ⟨b, o + (p + 1), none⟩) hbl).trans (hcc (p + 1) (by omega))
    have hp1 : p + 1 < n := by omega
    by_cases h3 : xs.getD (p + 1) 0 < 2
    · rw [if_pos h3] at hX
      have HX := Lib.hid hX
      clear hX h hcc hb hne hk hz h1
      generalize xs.getD p 0 = x0 at *
      generalize xs.getD (p + 1) 0 = x1 at *
      go_enter Tryz.func55, Tryz.ntmps55
      go_wp2_with fail
      go_ret2
      exact GivesO.err 5 HX.out HB0.out
    · have h4 : (n : Int) - p < xs.getD (p + 1) 0 := by omega
      rw [if_neg h3, if_pos h4] at hX
      have HX := Lib.hid hX
      clear hX h hcc hb hne hk hz h1
      generalize xs.getD p 0 = x0 at *
      generalize xs.getD (p + 1) 0 = x1 at *
      go_enter Tryz.func55, Tryz.ntmps55
      go_wp2_with fail
      go_ret2
      exact GivesO.err 3 HX.out HB0.out
end
end Go.Proofs.YtjafjapnmffohaaGreatDoor

namespace Go.Proofs.YtjafjapnmffohaaGreatDoor
open Go.RowKit
set_option linter.unusedVariables false

/-- an option ahead of others -/
theorem GivesO.cons {w w2 w3 : World} {od : Od} {os : List Od} {A : Option Addr} {c : Nat} {r : List Ob × Int} {ob : Ob} (hr : r.2 = 0) (hv : od.v = ob) (hvs : os.map Od.v = r.1) (hB : Below w.heap.size w w2) (hgr : Below w2.heap.size w2 w3) (hod : od.ok w2 w2.heap.size) (hos : ∀ o ∈ os, o.ok w2 w2.heap.size) (hfd : od.from_ w.heap.size) (hfs : ∀ o ∈ os, o.from_ w.heap.size)
    (hown : OwnO 132 w3 w2.heap.size A (1 + r.1.length) c ([od] ++ os)) : GivesO w (joinO [ob] r) (.returned (.tuple #[.slice A (1 + r.1.length) c, .int .i64 0])) w3 := by
  have hj : joinO [ob] r = (ob :: r.1, 0) := by unfold joinO; rw [if_pos hr]; rfl
  rw [hj]
  have hl : (ob :: r.1).length = 1 + r.1.length := by rw [List.length_cons]; omega
  refine ⟨A, c, [od] ++ os, by rw [hl], by rw [List.map_append, hvs]; simp [hv], ?_, hB.trans (hgr.mono hB.size), ?_⟩
  rotate_left
  · rw [hl]
    refine OFrom.own hown hB.size fun o ho => ?_
    rcases List.mem_append.1 ho with ho | ho
    · obtain rfl : o = od := by simpa using ho
      exact hfd
    · exact hfs o ho
  rw [hl]
  refine hown.lies (Nat.le_refl _) fun o ho => ?_
  rcases List.mem_append.1 ho with ho | ho
  · obtain rfl : o = od := by simpa using ho
    exact (hod.keep fun q hq => hgr.cell hq).more hgr.size
  · exact ((hos o ho).keep fun q hq => hgr.cell hq).more hgr.size

section
variable (A : Option Addr) (n c : Nat) (xs : List Int)

set_option maxHeartbeats 1600000 in
theorem rest_nop (f p : Nat) (w : World) (hn : n ≤ 40) (hf : f ≤ 41) (hb : Bs w w.heap.size A n xs) (hp : p < n) (hk : xs.getD p 0 = 1)
    (ih : ∀ (q : Int) (u : World), q = ((p + 1 : Nat) : Int) → Bs u u.heap.size A n xs → Calls Tryz.prog 55 #[.slice A n c, .int .i64 q] u (GivesO u (parseO f (xs.drop (p + 1))))) :
    Calls Tryz.prog 55 #[.slice A n c, .int .i64 p] w (GivesO w (parseO (f + 1) (xs.drop p))) := by
  obtain ⟨i0, hi, hz0, hz1, hz2⟩ := info_parts info_opt
  have hne : xs.drop p ≠ [] := fun e => by have := congrArg List.length e; rw [List.length_drop, hb.len] at this; simp at this; omega
  have hX := parseO_next (f := f) hne (by rw [getD_drop]; show xs.getD p 0 ≠ 0; omega)
  rw [take_at n xs p hb.len hp, if_pos hk] at hX
  dsimp only at hX
  rw [if_pos rfl, List.drop_drop] at hX
  have HX := Lib.hid hX
  obtain ⟨b, o, rfl, hbl, hcc⟩ := hb.mem (by omega)
  have c1 := hcc p hp
  rw [hk] at c1
  have hl := Low.alloc w (.cells #[.int .i64 1, .slice none 0 0] 132)
  have HB1 := Lib.hid (hb.below' hl hl.size)
  have HR := Lib.hid (BlkV.new w 132 [.int .i64 1, .slice none 0 0])
  have HL := Lib.hid hl
  have HIH := Lib.hid ih
  have hrl := parseO_len f (xs.drop (p + 1))
  generalize parseO f (xs.drop (p + 1)) = r at *
  clear hcc hb hX hne hk hl ih
  go_enter Tryz.func55, Tryz.ntmps55
  go_wp2_with fail
  refine (HIH.out _ _ (by omega) HB1.out).mono ?_
  rintro e w2 ⟨LA, lc, os, rfl, hv, hos, hB2, hfr⟩
  have HFS := Lib.hid (fun o h => (hfr.2 o h).less HL.out.size)
  clear hfr
  obtain ⟨rl, re⟩ := r
  dsimp only at hrl hv hos ⊢
  have hr2 : BlkV w2 132 w.heap.size [.int .i64 1, .slice none 0 0] := HR.out.below hB2 HR.out.lt
  have g0 : w2.cell? ⟨w.heap.size, 0, none⟩ = some (.int .i64 1) := by rw [hr2.cell 0]; rfl
  have g1 : w2.cell? ⟨w.heap.size, 1, none⟩ = some (.slice none 0 0) := by rw [hr2.cell 1]; rfl
  have hBw := Low.trans HL.out hB2
  by_cases he : re = 0
  · subst he
    have hown := OwnO.one w2 132 ⟨1, none, 0, 0, []⟩ (Nat.le_refl _)
    have hsrc := hos.below (Low.alloc w2 (.cells #[.int .i64 1, .slice none 0 0] 132))
    have HOS := Lib.hid hos
    have HV := Lib.hid hv
    have HBW := Lib.hid hBw
    clear hr2 hB2 hBw hos hv
    go_wp2_with (at_builtin; refine wpList_append_os rfl _ _ 32 rfl w2.heap.size 132 i0 Tryz.underlying32 hi hz0 hz1 hz2 _ 1 1 [⟨1, none, 0, 0, []⟩] rfl hown LA rl.length lc w2.heap.size os rfl hsrc (by omega) (by simp) ?_; intro A2 c2 w3 hown2 hgr hob; refine Hid.out ?_)
    refine Lib.hid ?_
    have hb3 : Below w2.heap.size w2 w3 := (Low.alloc w2 _).grown hgr (by simp) fun x e => by
      have : w2.heap.size = x := by simpa [Value.ownBlock] using e
      omega
    have HOWN := Lib.hid hown2
    clear hown2 hgr hob hown hsrc g0 g1
    go_wp2_with fail
    go_ret2
    rw [HX.out]
    exact GivesO.cons (r := (rl, 0)) rfl rfl HV.out HBW.out hb3 ⟨by simp [i64ok], by simp, Bs.nil _ _ _⟩ HOS.out.all (Od.from_.nul _ _ _ _ _) HFS.out HOWN.out
  · have heb : (re != 0) = true := by simpa using he
    clear hr2 hB2 hos hv g0 g1
    go_wp2_with fail
    go_ret2
    exact GivesO.err re (by rw [HX.out]; unfold joinO; rw [if_neg he]) hBw

set_option maxRecDepth 100000 in
set_option maxHeartbeats 3200000 in
theorem rest_some (f p s : Nat) (w : World) (hn : n ≤ 40) (hc : n ≤ c) (hc2 : c ≤ 9223372036854775807) (hf : f ≤ 41) (hb : Bs w w.heap.size A n xs) (hp : p < n) (hz : xs.getD p 0 ≠ 0) (hk : xs.getD p 0 ≠ 1) (hs : xs.getD (p + 1) 0 = ((s + 2 : Nat) : Int)) (hps : p + (s + 2) ≤ n)
    (ih : ∀ (q : Int) (u : World), q = ((p + (s + 2) : Nat) : Int) → Bs u u.heap.size A n xs → Calls Tryz.prog 55 #[.slice A n c, .int .i64 q] u (GivesO u (parseO f (xs.drop (p + (s + 2)))))) :
    Calls Tryz.prog 55 #[.slice A n c, .int .i64 p] w (GivesO w (parseO (f + 1) (xs.drop p))) := by
  obtain ⟨i0, hi, hz0, hz1, hz2⟩ := info_parts info_opt
  obtain ⟨i5, h5, h50, h51, h52⟩ := info_parts info5
  have hne : xs.drop p ≠ [] := fun e => by have := congrArg List.length e; rw [List.length_drop, hb.len] at this; simp at this; omega
  have hX := parseO_next (f := f) hne (by rw [getD_drop]; exact hz)
  have htk : takeO (xs.drop p) = if fitsO (xs.getD p 0) s = false then (zeroB, 0, 5) else ((xs.getD p 0, (xs.drop (p + 2)).take s), s + 2, 0) := by
    rw [take_at n xs p hb.len hp, if_neg hk, if_neg (by omega), if_neg (by omega), if_neg (by omega), hs, show ((s + 2 : Nat) : Int).toNat - 2 = s by omega, show ((s + 2 : Nat) : Int).toNat = s + 2 by omega]
  replace hX : parseO (f + 1) (xs.drop p) = if fitsO (xs.getD p 0) s = false then ([], 5) else joinO [(xs.getD p 0, (xs.drop (p + 2)).take s)] (parseO f (xs.drop (p + (s + 2)))) := by
    rw [hX, htk]
    by_cases h : fitsO (xs.getD p 0) s = false
    · rw [if_pos h, if_pos h, if_neg (by simp)]
    · rw [if_neg h, if_neg h, if_pos rfl, List.drop_drop]
  clear htk
  have HX := Lib.hid hX
  obtain ⟨b, o, rfl, hbl, hcc⟩ := hb.mem (by omega)
  have hn1 := hb.nonneg p
  have hn2 := hb.nonneg (p + 1)
  have c1 := hcc p hp
  have hzb : (xs.getD p 0 == 0) = false := by simpa using hz
  have hkb : (xs.getD p 0 != 1) = true := by simpa using hk
  have h1b : ((p : Int) == (n : Int) - 1) = false := by simp; omega
  have hp1 : p + 1 < n := by omega
  have HDL := Lib.hid (show ((xs.drop (p + 2)).take s).length = s by rw [List.length_take, List.length_drop, hb.len]; omega)
  have HDA := Lib.hid ((hb.all.drop (p + 2)).take s)
  have HBO := Lib.hid hb
  generalize xs.getD p 0 = x0 at *
  have hl := Low.alloc w (.cells #[.int .i64 x0, .slice none 0 0] 132)
  have c2 : (w.alloc (.cells #[.int .i64 x0, .slice none 0 0] 132)).cell? ⟨b, o + (p + 1), none⟩ = some (.int .u8 ((s + 2 : Nat) : Int)) := (Below.cell hl (p := ⟨b, o + (p + 1), none⟩) hbl).trans (by rw [hcc (p + 1) hp1, hs])
  have HR := Lib.hid (BlkV.new w 132 [.int .i64 x0, .slice none 0 0])
  have HL := Lib.hid hl
  have HIH := Lib.hid ih
  have HCC := Lib.hid hcc
  have hrl := parseO_len f (xs.drop (p + (s + 2)))
  generalize parseO f (xs.drop (p + (s + 2))) = r at *
  have hs255 : s + 2 < 256 := by omega
  clear hcc hb hX hne hk hz hl ih hs hn2
  go_enter Tryz.func55, Tryz.ntmps55
  go_wp2_with fail
  refine wp_region_planS (fun _ => True) (.rd 0 (.rd 2 (.rd 3 (.rd 4 (.rd 5 (.rd 6 (.rd 7 (.rd 8 (.act 1 (.act 9 (.rd 10 (.act 11 .done))))))))))))
    (by kernel_rfl) (by kernel_rfl) (fun _ _ d _ _ h => by cases d <;> exact h) (by kernel_rfl) trivial ?_
  replace HL := Lib.hid (Below.drew HL.out)
  replace HR : Hid (BlkV (w.alloc (.cells #[.int .i64 x0, .slice none 0 0] 132)).drew 132 w.heap.size [.int .i64 x0, .slice none 0 0]) := HR
  have hsz1 : (w.alloc (.cells #[.int .i64 x0, .slice none 0 0] 132)).drew.heap.size = w.heap.size + 1 := by show (w.alloc _).heap.size = _; simp
  generalize (w.alloc (.cells #[.int .i64 x0, .slice none 0 0] 132)).drew = w2 at *
  clear c1 c2
  have g1 : w2.cell? ⟨w.heap.size, 1, none⟩ = some (.slice none 0 0) := by rw [HR.out.cell 1]; rfl
  have k1 : IntKind.i64.wrap ((p : Int) + 2) = p + 2 := wraps_i64 _ (by omega) (by omega)
  have k2 : IntKind.i64.wrap ((p : Int) + ((s : Int) + 2)) = p + (s + 2) := wraps_i64 _ (by omega) (by omega)
  have m1 : (0 : Int) ≤ p + 2 := by omega
  have m2 : (p : Int) + 2 ≤ p + (s + 2) := by omega
  have m3 : (p : Int) + (s + 2) ≤ c := by omega
  iterate 7 (refine walkS_read (v := _) rfl (by rfl) (by intro y hy; go_simp; try rfl) ?_; simp only [Act.put, List.setIfInBounds_toArray, List.set_cons_zero, List.set_cons_succ])
  have t1 : ((p : Int) + 2).toNat = p + 2 := by omega
  have t2 : ((p : Int) + ((s : Int) + 2)).toNat = p + (s + 2) := by omega
  have t3 : p + (s + 2) - (p + 2) = s := by omega
  obtain ⟨A8, hA8⟩ : ∃ A8 : Option Addr, A8 = if c = p + 2 then some ⟨b, o, none⟩ else some ⟨b, o + (p + 2), none⟩ := ⟨_, rfl⟩
  refine walkS_read (v := .slice A8 s (c - (p + 2))) rfl (by rfl) (by
    intro y hy
    go_simp) ?_
  simp only [Act.put, List.setIfInBounds_toArray, List.set_cons_zero, List.set_cons_succ]
  refine walkS_run (v := .slice none 0 0) (w' := w2) rfl (by rfl) (by go_simp) trivial ?_
  simp only [Act.put, List.setIfInBounds_toArray, List.set_cons_zero, List.set_cons_succ]
  have hsrc : Bs w2 w.heap.size A8 s ((xs.drop (p + 2)).take s) := by
    refine ⟨HDL.out, HDA.out, fun h => ?_⟩
    rw [if_neg (by omega)] at hA8
    refine ⟨b, o + (p + 2), hA8, hbl, fun i hi => ?_⟩
    rw [Nat.add_assoc, HL.out.cell (p := ⟨b, o + (p + 2 + i), none⟩) hbl, HCC.out (p + 2 + i) (by omega)]
    simp [List.getD, hi, List.getElem?_drop]
  refine walkS_act rfl (by rfl) (fun K hK => ?_)
  refine wp_append_bs (.tmp 62) (.tmp 69) 22 rfl w2.heap.size 5 i5 Tryz.underlying22 h5 h50 h51 h52 none 0 0 [] rfl (OwnB.none_ _ _ _) A8 s (c - (p + 2)) w.heap.size _ rfl hsrc (by omega) (Nat.le_refl _) ?_
  intro A9 c9 w3 hown hgr hob
  refine hK _ _ trivial ?_
  clear hK K k1 k2 m1 m2 m3 t1 t2 t3 hA8 hsrc g1
  simp only [Act.put, List.setIfInBounds_toArray, List.set_cons_zero, List.set_cons_succ, Nat.zero_add, List.nil_append] at hown hgr ⊢
  have hl3 : Low w2 w3 := ⟨hgr.os, hgr.tape, hgr.output, hgr.size, fun k hk => hgr.block k hk (by simp [Value.ownBlock])⟩
  have hr3 : BlkV w3 132 w.heap.size [.int .i64 x0, .slice none 0 0] := HR.out.below hl3 HR.out.lt
  have g0 : w3.cell? ⟨w.heap.size, 0, none⟩ = some (.int .i64 x0) := by rw [hr3.cell 0]; rfl
  have g1 : w3.cell? ⟨w.heap.size, 1, none⟩ = some (.slice none 0 0) := by rw [hr3.cell 1]; rfl
  have f1 := hr3.frozen 1
  refine walkS_read (v := _) rfl (by rfl) (by intro y hy; go_simp; try rfl) ?_
  simp only [Act.put, List.setIfInBounds_toArray, List.set_cons_zero, List.set_cons_succ]
  refine walkS_put (w' := w3.setCell ⟨w.heap.size, 1, none⟩ (.slice A9 s c9)) rfl (by rfl) (by go_simp) trivial ?_
  have hr4 := hr3.set_ 1 (.slice A9 s c9)
  have hb4 : Below w.heap.size w (w3.setCell ⟨w.heap.size, 1, none⟩ (.slice A9 s c9)) := (HL.out.trans (hl3.mono HL.out.size)).setCell (p := ⟨w.heap.size, 1, none⟩) (Nat.le_refl _) _
  have hd4 := hown.far (p := ⟨w.heap.size, 1, none⟩) (by rw [hsz1]; show w.heap.size < w.heap.size + 1; omega) (.slice A9 s c9)
  have hbs4 := hd4.bs (Nat.le_refl _)
  have hd4 := hown.far (p := ⟨w.heap.size, 1, none⟩) (by rw [hsz1]; show w.heap.size < w.heap.size + 1; omega) (.slice A9 s c9)
  generalize w3.setCell ⟨w.heap.size, 1, none⟩ (.slice A9 s c9) = w4 at *
  simp only [walkS, Act.put]
  have j0 : w4.cell? ⟨w.heap.size, 0, none⟩ = some (.int .i64 x0) := by rw [hr4.cell 0]; rfl
  have j1 : w4.cell? ⟨w.heap.size, 1, none⟩ = some (.slice A9 s c9) := by rw [hr4.cell 1]; rfl
  have HFD : Hid (Od.from_ w.heap.size ⟨x0, A9, s, c9, (xs.drop (p + 2)).take s⟩) := Lib.hid fun hs0 => by
    obtain ⟨g, cap, hv, hb, _⟩ := hown.1.form hs0
    have hA : A9 = some ⟨g, 0, none⟩ := by injection hv
    exact ⟨g, 0, hA, by omega⟩
  have HR4 := Lib.hid hr4
  have HB4 := Lib.hid hb4
  have HD4 := Lib.hid hbs4
  have HBX := Lib.hid (HBO.out.below' hb4 hb4.size)
  clear hr4 hb4 hd4 hbs4 hown hgr hob hl3 hr3 g0 g1 f1
  go_wp2_with fail
  refine (rlong_any x0 _).mono ?_
  rintro e w' ⟨rfl, rfl⟩
  have hlr := longR_range x0
  have hX := HX.out
  cases hfit : fitsO x0 s
  · rw [hfit, if_pos rfl] at hX
    have HXX := Lib.hid hX
    obtain ⟨hf1, hf2⟩ : ¬ longR x0 < 0 ∧ ¬ longR x0 = s := by simpa [fitsO] using hfit
    generalize longR x0 = L at *
    have hLb : (L != (s : Int)) = true := by simpa using hf2
    clear hX HX hfit hf2 j0 j1
    go_wp2_with fail
    go_ret2
    exact GivesO.err 5 HXX.out HB4.out
  · rw [hfit, if_neg (by simp)] at hX
    have HXX := Lib.hid hX
    have hf1 : longR x0 < 0 ∨ longR x0 = s := by simpa [fitsO] using hfit
    generalize longR x0 = L at *
    have hg : (L < 0) ∨ (¬ L < 0 ∧ (L != (s : Int)) = false) := by
      by_cases h0 : L < 0
      · exact .inl h0
      · exact .inr ⟨h0, by simp; omega⟩
    clear hX HX hfit hf1
    rcases hg with hg | ⟨hg, hg2⟩
    · go_wp2_with fail
      refine (HIH.out _ _ (by omega) HBX.out).mono ?_
      rintro e w5 ⟨LA, lc, os, rfl, hv, hos, hB5, hfr⟩
      have HFS := Lib.hid (fun o h => (hfr.2 o h).less HB4.out.size)
      clear hfr
      obtain ⟨rl, re⟩ := r
      dsimp only at hrl hv hos ⊢
      have hr5 : BlkV w5 132 w.heap.size [.int .i64 x0, .slice A9 s c9] := HR4.out.below hB5 HR4.out.lt
      have g0 : w5.cell? ⟨w.heap.size, 0, none⟩ = some (.int .i64 x0) := by rw [hr5.cell 0]; rfl
      have g1 : w5.cell? ⟨w.heap.size, 1, none⟩ = some (.slice A9 s c9) := by rw [hr5.cell 1]; rfl
      have hBw := HB4.out.trans (hB5.mono HB4.out.size)
      have hod : Od.ok w5 w5.heap.size ⟨x0, A9, s, c9, (xs.drop (p + 2)).take s⟩ := ⟨by unfold i64ok; dsimp only; omega, by dsimp only; omega, (HD4.out.below' hB5 hB5.size)⟩
      have HOD := Lib.hid hod
      clear j0 j1 hod
      by_cases he : re = 0
      · subst he
        have hown := OwnO.one w5 132 ⟨x0, A9, s, c9, (xs.drop (p + 2)).take s⟩ (Nat.le_refl _)
        have hsrc := hos.below (Low.alloc w5 (.cells #[.int .i64 x0, .slice A9 s c9] 132))
        have HOS := Lib.hid hos
        have HV := Lib.hid hv
        have HBW := Lib.hid hBw
        clear hr5 hB5 hBw hos hv
        go_wp2_with (at_builtin; refine wpList_append_os rfl _ _ 32 rfl w5.heap.size 132 i0 Tryz.underlying32 hi hz0 hz1 hz2 _ 1 1 [⟨x0, A9, s, c9, (xs.drop (p + 2)).take s⟩] rfl hown LA rl.length lc w5.heap.size os rfl hsrc (by omega) (by simp) ?_; intro A2 c2 w6 hown2 hgr hob; refine Hid.out ?_)
        refine Lib.hid ?_
        have hb3 : Below w5.heap.size w5 w6 := (Low.alloc w5 _).grown hgr (by simp) fun x e => by
          have : w5.heap.size = x := by simpa [Value.ownBlock] using e
          omega
        have HOWN := Lib.hid hown2
        clear hown2 hgr hob hown hsrc g0 g1
        go_wp2_with fail
        go_ret2
        rw [HXX.out]
        exact GivesO.cons (r := (rl, 0)) rfl rfl HV.out HBW.out hb3 HOD.out HOS.out.all HFD.out HFS.out HOWN.out
      · have heb : (re != 0) = true := by simpa using he
        clear hr5 hB5 hos hv g0 g1
        go_wp2_with fail
        go_ret2
        exact GivesO.err re (by rw [HXX.out]; unfold joinO; rw [if_neg he]) hBw
    · go_wp2_with fail
      refine (HIH.out _ _ (by omega) HBX.out).mono ?_
      rintro e w5 ⟨LA, lc, os, rfl, hv, hos, hB5, hfr⟩
      have HFS := Lib.hid (fun o h => (hfr.2 o h).less HB4.out.size)
      clear hfr
      obtain ⟨rl, re⟩ := r
      dsimp only at hrl hv hos ⊢
      have hr5 : BlkV w5 132 w.heap.size [.int .i64 x0, .slice A9 s c9] := HR4.out.below hB5 HR4.out.lt
      have g0 : w5.cell? ⟨w.heap.size, 0, none⟩ = some (.int .i64 x0) := by rw [hr5.cell 0]; rfl
      have g1 : w5.cell? ⟨w.heap.size, 1, none⟩ = some (.slice A9 s c9) := by rw [hr5.cell 1]; rfl
      have hBw := HB4.out.trans (hB5.mono HB4.out.size)
      have hod : Od.ok w5 w5.heap.size ⟨x0, A9, s, c9, (xs.drop (p + 2)).take s⟩ := ⟨by unfold i64ok; dsimp only; omega, by dsimp only; omega, (HD4.out.below' hB5 hB5.size)⟩
      have HOD := Lib.hid hod
      clear j0 j1 hod
      by_cases he : re = 0
      · subst he
        have hown := OwnO.one w5 132 ⟨x0, A9, s, c9, (xs.drop (p + 2)).take s⟩ (Nat.le_refl _)
        have hsrc := hos.below (Low.alloc w5 (.cells #[.int .i64 x0, .slice A9 s c9] 132))
        have HOS := Lib.hid hos
        have HV := Lib.hid hv
        have HBW := Lib.hid hBw
        clear hr5 hB5 hBw hos hv
        go_wp2_with (at_builtin; refine wpList_append_os rfl _ _ 32 rfl w5.heap.size 132 i0 Tryz.underlying32 hi hz0 hz1 hz2 _ 1 1 [⟨x0, A9, s, c9, (xs.drop (p + 2)).take s⟩] rfl hown LA rl.length lc w5.heap.size os rfl hsrc (by omega) (by simp) ?_; intro A2 c2 w6 hown2 hgr hob; refine Hid.out ?_)
        refine Lib.hid ?_
        have hb3 : Below w5.heap.size w5 w6 := (Low.alloc w5 _).grown hgr (by simp) fun x e => by
          have : w5.heap.size = x := by simpa [Value.ownBlock] using e
          omega
        have HOWN := Lib.hid hown2
        clear hown2 hgr hob hown hsrc g0 g1
        go_wp2_with fail
        go_ret2
        rw [HXX.out]
        exact GivesO.cons (r := (rl, 0)) rfl rfl HV.out HBW.out hb3 HOD.out HOS.out.all HFD.out HFS.out HOWN.out
      · have heb : (re != 0) = true := by simpa using he
        clear hr5 hB5 hos hv g0 g1
        go_wp2_with fail
        go_ret2
        exact GivesO.err re (by rw [HXX.out]; unfold joinO; rw [if_neg he]) hBw
end

theorem rest_any (A : Option Addr) (n c : Nat) (xs : List Int) (hn : n ≤ 40) (hc : n ≤ c) (hc2 : c ≤ 9223372036854775807) : ∀ (f p : Nat) (q : Int) (w : World), f ≤ 42 → q = p → p ≤ n → n < p + f → Bs w w.heap.size A n xs →
    Calls Tryz.prog 55 #[.slice A n c, .int .i64 q] w (GivesO w (parseO f (xs.drop p)))
  | 0, p, q, w, _, hq, hp, hf, hb => by omega
  | f + 1, p, q, w, hf42, hq, hp, hf, hb => by
    subst hq
    have hn1 := hb.nonneg p
    have hn2 := hb.nonneg (p + 1)
    by_cases hpn : n ≤ p
    · exact rest_end A n c xs w (f + 1) p (by omega) hb hpn (by omega)
    · by_cases hz : xs.getD p 0 = 0
      · exact rest_zero A n c xs w f p (by omega) hb (by omega) hz
      · by_cases hk : xs.getD p 0 = 1
        · exact rest_nop A n c xs f p w hn (by omega) hb (by omega) hk fun q u hq hu => rest_any A n c xs hn hc hc2 f (p + 1) q u (by omega) hq (by omega) (by omega) hu
        · by_cases h : p = n - 1 ∨ xs.getD (p + 1) 0 < 2 ∨ (n : Int) - p < xs.getD (p + 1) 0
          · exact rest_err A n c xs w f p (by omega) hb (by omega) hz hk h
          · obtain ⟨s, hs⟩ : ∃ s : Nat, xs.getD (p + 1) 0 = ((s + 2 : Nat) : Int) := ⟨(xs.getD (p + 1) 0).toNat - 2, by omega⟩
            exact rest_some A n c xs f p s w hn hc hc2 (by omega) hb (by omega) hz hk hs (by omega) fun q u hq hu => rest_any A n c xs hn hc hc2 f (p + (s + 2)) q u (by omega) hq (by omega) (by omega) hu

set_option maxHeartbeats 800000 in
theorem trparse_any (A : Option Addr) (n c : Nat) (xs : List Int) (w : World) (hn : n ≤ 140737488355328) (hc : n ≤ c) (hc2 : c ≤ 9223372036854775807) (hb : Bs w w.heap.size A n xs) :
    Calls Tryz.prog 33 #[.slice A n c] w (GivesO w (parseL xs)) := by
  by_cases h40 : 40 < n
  · have HX := Lib.hid (show parseL xs = ([], 4) by unfold parseL; rw [if_pos (by rw [hb.len]; exact h40)])
    clear hb
    go_enter Tryz.func33, Tryz.ntmps33
    go_wp2_with fail
    go_ret2
    exact GivesO.err 4 HX.out (Below.refl _ _)
  · have HX := Lib.hid (show parseL xs = parseO 41 (xs.drop 0) by unfold parseL; rw [if_neg (by rw [hb.len]; exact h40)]; rfl)
    have HB := Lib.hid hb
    clear hb
    go_enter Tryz.func33, Tryz.ntmps33
    go_wp2_with fail
    refine (rest_any A n c xs (by omega) hc hc2 41 0 0 w (by omega) rfl (by omega) (by omega) HB.out).mono ?_
    rintro e w1 ⟨LA, lc, os, rfl, hv, hos, hB1, hfr⟩
    obtain ⟨r, hr⟩ : ∃ r, r = parseO 41 (xs.drop 0) := ⟨_, rfl⟩
    rw [← hr] at hv hos hfr ⊢
    have HFR := Lib.hid hfr
    clear hfr
    have HRR := Lib.hid (HX.out.trans hr.symm)
    clear hr
    have HV := Lib.hid hv
    have HOS := Lib.hid hos
    clear hv hos
    go_wp2_with fail
    go_ret2
    rw [HRR.out]
    exact ⟨LA, lc, os, rfl, HV.out, HOS.out, hB1, HFR.out⟩
end Go.Proofs.YtjafjapnmffohaaGreatDoor

namespace Go.Proofs.YtjafjapnmffohaaGreatDoor
open Go.RowKit
set_option linter.unusedVariables false

def findO : List Ob → Int → List Int × Bool
  | [], _ => ([], false)
  | o :: l, k => if o.1 = k then (o.2, true) else findO l k
theorem find_drop {os : List Od} {i : Nat} (k : Int) (h : i < os.length) : findO ((os.map Od.v).drop i) k = if (os.getD i zeroO).k = k then ((os.getD i zeroO).d, true) else findO ((os.map Od.v).drop (i + 1)) k := by
  have e : (os.map Od.v).drop i = (os.getD i zeroO).v :: (os.map Od.v).drop (i + 1) := by
    rw [List.drop_eq_getElem_cons (by simpa using h)]
    simp [List.getD, h]
  rw [e]
  rfl

end Go.Proofs.YtjafjapnmffohaaGreatDoor

namespace Go.Proofs.YtjafjapnmffohaaGreatDoor
open Go.RowKit
set_option linter.unusedVariables false

def segO : List Ob → Int
  | [] => 1220
  | o :: l => if o.1 = 2 ∧ o.2.length = 2 then num2 o.2 0 else segO l
theorem seg_drop {os : List Od} {i : Nat} (h : i < os.length) : segO ((os.map Od.v).drop i) = if (os.getD i zeroO).k = 2 ∧ (os.getD i zeroO).d.length = 2 then num2 (os.getD i zeroO).d 0 else segO ((os.map Od.v).drop (i + 1)) := by
  have e : (os.map Od.v).drop i = (os.getD i zeroO).v :: (os.map Od.v).drop (i + 1) := by
    rw [List.drop_eq_getElem_cons (by simpa using h)]
    simp [List.getD, h]
  rw [e]
  rfl
theorem fits_mss (n : Nat) : fitsO 2 n = decide (n = 2) := by
  unfold fitsO
  rw [show longR 2 = 2 by decide]
  by_cases h : n = 2
  · subst h; rfl
  · have h2 : ¬ (2 : Int) = n := by omega
    simp [h, h2]

end Go.Proofs.YtjafjapnmffohaaGreatDoor
