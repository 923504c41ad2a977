/- Plain words for byte slices in memory: what a slice of bytes reads as, and how that is kept while memory grows. No condition. -/
import Derived.WalkKit
import Derived.Below
import Derived.Laws.OwnMore
import Derived.Deep.AppendLies
import Derived.Deep.Draws
import Derived.Laws.CopyOwn
import Derived.Lib.Hide
set_option maxRecDepth 100000
namespace Go.Proofs.Ythbboiolhejmmaa
open Go.RowKit

/-- the cells of a list of bytes -/
def cellsB (xs : List Int) : List Value := xs.map (Value.int .u8)
theorem cellsB_length (xs : List Int) : (cellsB xs).length = xs.length := by simp [cellsB]
theorem cellsB_append (xs ys : List Int) : cellsB (xs ++ ys) = cellsB xs ++ cellsB ys := by simp [cellsB]
theorem cellsB_one (xs : List Int) : ∀ u ∈ cellsB xs, u.oneCell' = true := ints_oneCell .u8 xs
theorem cellsB_get {xs : List Int} {i : Nat} (h : i < xs.length) : (cellsB xs)[i]? = some (.int .u8 (xs.getD i 0)) := by
  simp [cellsB, List.getD, h]

/-- each number is a byte's -/
def AllB (xs : List Int) : Prop := ∀ x ∈ xs, 0 ≤ x ∧ x < 256
theorem AllB.nil : AllB [] := fun _ h => by cases h
theorem AllB.cons {x : Int} {xs : List Int} (h0 : 0 ≤ x) (h1 : x < 256) (h : AllB xs) : AllB (x :: xs) := fun y hy => by
  rcases List.mem_cons.1 hy with rfl | hy
  · exact ⟨h0, h1⟩
  · exact h y hy
theorem AllB.append {xs ys : List Int} (h : AllB xs) (k : AllB ys) : AllB (xs ++ ys) := fun x hx => by
  rcases List.mem_append.1 hx with hx | hx
  · exact h x hx
  · exact k x hx
theorem AllB.take {xs : List Int} (h : AllB xs) (n : Nat) : AllB (xs.take n) := fun x hx => h x (List.mem_of_mem_take hx)
theorem AllB.drop {xs : List Int} (h : AllB xs) (n : Nat) : AllB (xs.drop n) := fun x hx => h x (List.mem_of_mem_drop hx)
theorem AllB.set {xs : List Int} (h : AllB xs) (i : Nat) {x : Int} (h0 : 0 ≤ x) (h1 : x < 256) : AllB (xs.set i x) := fun y hy => by
  rcases List.mem_or_eq_of_mem_set hy with hy | rfl
  · exact h y hy
  · exact ⟨h0, h1⟩
theorem AllB.getD {xs : List Int} (h : AllB xs) (i : Nat) : 0 ≤ xs.getD i 0 ∧ xs.getD i 0 < 256 := by
  rcases Nat.lt_or_ge i xs.length with hi | hi
  · have e : xs.getD i 0 = xs[i] := by simp [List.getD, hi]
    rw [e]; exact h _ (List.getElem_mem hi)
  · have e : xs.getD i 0 = 0 := by simp [List.getD, List.getElem?_eq_none hi]
    rw [e]; omega

/-- the slice at A, n long, holds the bytes xs, below block B -/
structure Bs (w : World) (B : Nat) (A : Option Addr) (n : Nat) (xs : List Int) : Prop where
  len : xs.length = n
  all : AllB xs
  mem : 0 < n → ∃ b o, A = some ⟨b, o, none⟩ ∧ b < B ∧ ∀ i, i < n → w.cell? ⟨b, o + i, none⟩ = some (.int .u8 (xs.getD i 0))

section
variable {w w' : World} {B B' n : Nat} {A : Option Addr} {xs : List Int}
theorem Bs.nil (w : World) (B : Nat) (A : Option Addr) : Bs w B A 0 [] := ⟨rfl, AllB.nil, fun h => absurd h (by omega)⟩
theorem Bs.keep (h : Bs w B A n xs) (hk : ∀ p : Addr, p.block < B → w'.cell? p = w.cell? p) : Bs w' B A n xs :=
  ⟨h.len, h.all, fun hn => by
    obtain ⟨b, o, e, hb, hc⟩ := h.mem hn
    exact ⟨b, o, e, hb, fun i hi => (hk _ hb).trans (hc i hi)⟩⟩
theorem Bs.more (h : Bs w B A n xs) (hB : B ≤ B') : Bs w B' A n xs :=
  ⟨h.len, h.all, fun hn => by
    obtain ⟨b, o, e, hb, hc⟩ := h.mem hn
    exact ⟨b, o, e, by omega, hc⟩⟩
theorem Bs.below (h : Bs w B A n xs) (hb : Below B w w') : Bs w' B A n xs := h.keep fun _ hp => hb.cell hp
theorem Bs.below' (h : Bs w B A n xs) (hb : Below B w w') (hB : B ≤ B') : Bs w' B' A n xs := (h.below hb).more hB
theorem Bs.alloc (h : Bs w B A n xs) (hB : B ≤ w.heap.size) (o : Obj) : Bs (w.alloc o) B A n xs := h.keep fun p hp => World.cell?_alloc_lt w o p (by omega)
theorem Bs.drewN (h : Bs w B A n xs) (k : Nat) : Bs (w.drewN k) B A n xs := h.keep fun _ _ => rfl
theorem Bs.drew (h : Bs w B A n xs) : Bs w.drew B A n xs := h.keep fun _ _ => rfl
theorem Bs.nonneg (h : Bs w B A n xs) (i : Nat) : 0 ≤ xs.getD i 0 ∧ xs.getD i 0 < 256 := h.all.getD i
theorem Bs.at_ (h : Bs w B A n xs) {k : Nat} (hk : k < n) : ∃ b o, A = some ⟨b, o, none⟩ ∧ b < B ∧ (∀ i, i < n → w.cell? ⟨b, o + i, none⟩ = some (.int .u8 (xs.getD i 0))) := h.mem (by omega)
theorem Bs.src (h : Bs w B A n xs) (hp : 0 < (cellsB xs).length) : ∃ ad, A = some ad ∧ ∀ j v, (cellsB xs)[j]? = some v → w.cell? (ad.add j) = some v := by
  rw [cellsB_length, h.len] at hp
  obtain ⟨b, o, rfl, _, hc⟩ := h.mem hp
  refine ⟨_, rfl, fun j v hv => ?_⟩
  have hj : j < xs.length := by have := (List.getElem?_eq_some_iff.1 hv).1; rwa [cellsB_length] at this
  rw [cellsB_get hj] at hv
  rw [Addr.add_lit, hc j (by have := h.len; omega)]
  exact hv
theorem Bs.of_own {base e c : Nat} (hB : w.heap.size ≤ B) (ha : AllB xs) (h : w.ownsRow base e 1 (.slice A n c) n (cellsB xs)) : Bs w B A n xs := by
  have hl : xs.length = n := by have := h.1; rw [cellsB_length] at this; omega
  refine ⟨hl, ha, fun hn => ?_⟩
  obtain ⟨g, cap, hv, _, hlt⟩ := h.form hn
  have hA : A = some ⟨g, 0, none⟩ := by injection hv
  subst hA
  refine ⟨g, 0, rfl, by omega, fun i hi => ?_⟩
  have := h.cells (g := g) rfl i _ (cellsB_get (by omega))
  simpa [Addr.add_lit] using this
end

/-- block g is just the bytes ys (t: the type of a byte) -/
def Blk (w : World) (t : TypeId) (g : Nat) (ys : List Int) : Prop := w.heap[g]? = some (.cells (cellsB ys).toArray t (0, 0))
section
variable {w w' : World} {t : TypeId} {g B : Nat} {ys : List Int}
theorem Blk.lt (h : Blk w t g ys) : g < w.heap.size := (Array.getElem?_eq_some_iff.1 h).1
theorem Blk.cell (h : Blk w t g ys) (i : Nat) : w.cell? ⟨g, i, none⟩ = (cellsB ys)[i]? := by
  rw [cell_of_row w g i _ t (0, 0) h]; simp
theorem Blk.frozen (h : Blk w t g ys) (i : Nat) : w.frozen? ⟨g, i, none⟩ = false := by
  unfold Blk at h
  simp [World.frozen?, h]
theorem Blk.new (w : World) (t : TypeId) (ys : List Int) : Blk (w.alloc (.cells (cellsB ys).toArray t)) t w.heap.size ys := heap_alloc_new w _
theorem Blk.drewN (h : Blk w t g ys) (n : Nat) : Blk (w.drewN n) t g ys := h
theorem Blk.alloc (h : Blk w t g ys) (o : Obj) : Blk (w.alloc o) t g ys := (Below.heap_alloc w o g h.lt).trans h
theorem Blk.below (h : Blk w t g ys) (hb : Below B w w') (hg : g < B) : Blk w' t g ys := (hb.block g hg).trans h
theorem Blk.far (h : Blk w t g ys) {p : Addr} (hp : g ≠ p.block) (u : Value) : Blk (w.setCell p u) t g ys := (Below.heap_setCell w p u g hp).trans h
theorem Blk.set_ (h : Blk w t g ys) (i : Nat) (x : Int) : Blk (w.setCell ⟨g, i, none⟩ (.int .u8 x)) t g (ys.set i x) := by
  have e : cellsB (ys.set i x) = (cellsB ys).set i (.int .u8 x) := by simp [cellsB, List.map_set]
  unfold Blk at h ⊢
  rw [e]
  simp [World.setCell, Array.getElem?_modify, h]
theorem Blk.bs (h : Blk w t g ys) (ha : AllB ys) (hg : g < B) {n : Nat} (hn : ys.length = n) : Bs w B (some ⟨g, 0, none⟩) n ys :=
  ⟨hn, ha, fun _ => ⟨g, 0, rfl, hg, fun i hi => by rw [Nat.zero_add, h.cell i, cellsB_get (by omega)]⟩⟩
theorem Blk.own {base n : Nat} (h : Blk w t g ys) (hb : base ≤ g) (hn : ys.length = n) (hm : n ≤ maxLen) : w.ownsRow base t 1 (.slice (some ⟨g, 0, none⟩) n n) n (cellsB ys) :=
  ⟨by rw [cellsB_length]; omega, .inr ⟨g, n, _, rfl, hb, h, Nat.le_refl _, hm, by simp [cellsB_length]; omega, by rw [List.take_of_length_le (by simp [cellsB_length]; omega)]⟩⟩
end

/-- the call hands back ys, n of them, in a block of their own; what was there is as it was -/
def NewB (t : TypeId) (w : World) (n : Nat) (ys : List Int) (v : Value) (w' : World) : Prop :=
  ∃ g, v = .slice (some ⟨g, 0, none⟩) n n ∧ w.heap.size ≤ g ∧ Blk w' t g ys ∧ ys.length = n ∧ AllB ys ∧ Below w.heap.size w w'
end Go.Proofs.Ythbboiolhejmmaa
