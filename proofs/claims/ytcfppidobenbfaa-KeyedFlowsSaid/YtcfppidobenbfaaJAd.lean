/- Texts joined.
  What addr.Less, and the document's own Less, tell of two addresses. Condition: each is 16 bytes.
  What addr.Prefix and addr.In tell. Conditions: an address is 16 bytes, numbers are ints.
  What addr.In tells. Conditions: addresses are 16 bytes, the number is an int.
  What the document's own bit and In tell. Conditions: addresses are 16 bytes, the number is an int.
  What addr.Words, and the document's own Words, tell. Condition: an address is 16 bytes.
  What addr.Of, and the document's own Of, tell of a slice of ints. Condition: the slice's room is an int.
  What addr.longestRow, and the document's own zeros, tell of eight numbers. No condition but that there are eight.
-/
import Derived.Test.YtcfppidobenbfaaJCk
import Derived.StillTailTactics
import Derived.Laws.Tables
import Derived.Test.YtcfppidobenbfaaEq
import Derived.Test.YtcfppidobenbfaaNums
import Derived.Test.YtcfppidobenbfaaJReg
set_option maxRecDepth 100000
namespace Go.Proofs.Ytcfppidobenbfaa
open Go.RowKit
set_option linter.unusedVariables false

/-- is the first byte in which they differ less? -/
def lessL : List Int → List Int → Bool
  | x :: xs, y :: ys => if x = y then lessL xs ys else decide (x < y)
  | _, _ => false
theorem less_same {s d : List Int} {k : Nat} (hs : k < s.length) (hd : k < d.length) (h : s.getD k 0 = d.getD k 0) : lessL (s.drop k) (d.drop k) = lessL (s.drop (k + 1)) (d.drop (k + 1)) := by
  rw [drop_at s k hs, drop_at d k hd, lessL, if_pos h]
theorem less_other {s d : List Int} {k : Nat} (hs : k < s.length) (hd : k < d.length) (h : ¬ s.getD k 0 = d.getD k 0) : lessL (s.drop k) (d.drop k) = decide (s.getD k 0 < d.getD k 0) := by
  rw [drop_at s k hs, drop_at d k hd, lessL, if_neg h]
theorem less_end {s d : List Int} {k : Nat} (hs : s.length ≤ k) : lessL (s.drop k) (d.drop k) = false := by
  rw [List.drop_eq_nil_of_le hs]
  cases d.drop k <;> rfl
end Go.Proofs.Ytcfppidobenbfaa

namespace Go.Proofs.Ytcfppidobenbfaa
open Go.RowKit
set_option linter.unusedVariables false

/-- how many bits of byte i stay -/
def keepN (n : Int) (i : Nat) : Nat := min (n - 8 * i).toNat 8
/-- the first k bits of a byte -/
def pre8 (x : Int) (k : Nat) : Int := x / 2 ^ (8 - k) * 2 ^ (8 - k)
def clampN (n : Int) : Int := if n < 0 then 0 else if 128 < n then 128 else n
def prefL (s : List Int) (n : Int) : List Int := (List.range 16).map fun i => pre8 (s.getD i 0) (keepN (clampN n) i)

theorem andNot_tab : ∀ x : Fin 256, ∀ j : Fin 9, bits .andNot .u8 (x.val : Int) (255 / 2 ^ j.val) = pre8 (x.val : Int) j.val := by decide +kernel
theorem andNot_pre8 (x : Int) (j : Nat) (h0 : 0 ≤ x) (h1 : x < 256) (hj : j ≤ 8) : bits .andNot .u8 x (255 / 2 ^ j) = pre8 x j := by
  have h := andNot_tab ⟨x.toNat, by omega⟩ ⟨j, by omega⟩
  simp only [Int.toNat_of_nonneg h0] at h
  exact h
theorem prefL_length (s : List Int) (n : Int) : (prefL s n).length = 16 := by simp [prefL]
theorem prefL_getD (s : List Int) (n : Int) (k : Nat) (h : k < 16) : (prefL s n).getD k 0 = pre8 (s.getD k 0) (keepN (clampN n) k) := by
  simp [prefL, List.getD, h]
theorem pref_get (s t : List Int) (k : Nat) (hs : s.length = 16) (ht : t.length = 16) (hk : k < 16) : (cellsB (t.take k ++ s.drop k))[k]? = some (.int .u8 (s.getD k 0)) := by
  rw [cellsB_get (by simp [hs, ht]; omega)]
  congr 2
  simp only [List.getD]
  rw [List.getElem?_append_right (by simp [ht]; omega)]
  simp [ht, Nat.min_eq_left (Nat.le_of_lt hk)]
end Go.Proofs.Ytcfppidobenbfaa

namespace Go.Proofs.Ytcfppidobenbfaa
open Go.RowKit
set_option linter.unusedVariables false

def inAd (s d : List Int) (n : Int) : Bool := prefL s n == prefL d n
end Go.Proofs.Ytcfppidobenbfaa

namespace Go.Proofs.Ytcfppidobenbfaa
open Go.RowKit
set_option linter.unusedVariables false

def bitB (s : List Int) (i : Nat) : Bool := s.getD (i / 8) 0 / 2 ^ (7 - i % 8) % 2 == 1
def rinB (s d : List Int) (n : Int) : Bool := (List.range (min n.toNat 128)).all fun i => bitB s i == bitB d i
theorem low1 (w : World) (s : List Int) (t : TypeId) : Low w (w.alloc (.cells (cellsB s).toArray t)) := Low.alloc w _

theorem rin_end {s d : List Int} {n : Int} {k : Nat} (h : (List.range k).all (fun i => bitB s i == bitB d i) = true) (hk : k = min n.toNat 128) : rinB s d n = true := by
  unfold rinB; rw [← hk]; exact h
theorem rin_not {s d : List Int} {n : Int} {k : Nat} (h : ¬ bitB s k = bitB d k) (hk : k < min n.toNat 128) : rinB s d n = false := by
  unfold rinB
  rw [List.all_eq_false]
  exact ⟨k, by simpa using hk, by simpa using h⟩
theorem rin_next {s d : List Int} {k : Nat} (h : (List.range k).all (fun i => bitB s i == bitB d i) = true) (e : bitB s k = bitB d k) : (List.range (k + 1)).all (fun i => bitB s i == bitB d i) = true := by
  rw [List.range_succ, List.all_append, h]
  simp [e]

end Go.Proofs.Ytcfppidobenbfaa

namespace Go.Proofs.Ytcfppidobenbfaa
open Go.RowKit
set_option linter.unusedVariables false

/-- eight numbers by value -/
def wordsV (ws : List Int) : Value := .agg (cellsN ws).toArray
def zero8 : List Int := [0, 0, 0, 0, 0, 0, 0, 0]
def wordsL (s : List Int) : List Int := (List.range 8).map fun i => num2 s (2 * i)
theorem wordsL_length (s : List Int) : (wordsL s).length = 8 := by simp [wordsL]
theorem wordsL_getD (s : List Int) (k : Nat) (h : k < 8) : (wordsL s).getD k 0 = num2 s (2 * k) := by
  simp [wordsL, List.getD, h]
theorem BlkN.setRow {w : World} {t : TypeId} {g : Nat} {ys : List Int} (h : BlkN w t g ys) (zs : List Int) : BlkN (w.setRow g (cellsN zs).toArray) t g zs := setRow_heap w g _ _ t _ h

theorem words_get (s t : List Int) (k : Nat) (hs : s.length = 8) (ht : t.length = 8) (hk : k < 8) : ∃ y, (cellsN (t.take k ++ s.drop k))[k]? = some (.int .i64 y) := by
  rw [cellsN_get (by simp [hs, ht]; omega)]
  exact ⟨_, rfl⟩
theorem words_set (s t : List Int) (k : Nat) (hs : s.length = 8) (ht : t.length = 8) (hk : k < 8) : (t.take k ++ s.drop k).set k (t.getD k 0) = t.take (k + 1) ++ s.drop (k + 1) := by
  rw [List.set_append_right _ _ (by simp [ht]; omega), drop_at s k (by omega)]
  simp only [List.length_take, ht, Nat.min_eq_left (Nat.le_of_lt hk), Nat.sub_self, List.set_cons_zero]
  rw [List.take_succ_eq_append_getElem (show k < t.length by omega), List.append_assoc, show t.getD k 0 = t[k] by simp [List.getD, show k < t.length by omega]]
  rfl
theorem box3 (w : World) (s : List Int) (t1 t2 t3 : TypeId) :
    Blk (((w.alloc (.cells (cellsB s).toArray t1)).alloc (.cells (cellsN zero8).toArray t2)).alloc (.cells (cellsN zero8).toArray t3)) t1 w.heap.size s ∧
    BlkN (((w.alloc (.cells (cellsB s).toArray t1)).alloc (.cells (cellsN zero8).toArray t2)).alloc (.cells (cellsN zero8).toArray t3)) t2 (w.heap.size + 1) zero8 ∧
    BlkN (((w.alloc (.cells (cellsB s).toArray t1)).alloc (.cells (cellsN zero8).toArray t2)).alloc (.cells (cellsN zero8).toArray t3)) t3 (w.heap.size + 1 + 1) zero8 := by
  have h2 := BlkN.new (w.alloc (.cells (cellsB s).toArray t1)) t2 zero8
  have h3 := BlkN.new ((w.alloc (.cells (cellsB s).toArray t1)).alloc (.cells (cellsN zero8).toArray t2)) t3 zero8
  rw [show (w.alloc (.cells (cellsB s).toArray t1)).heap.size = w.heap.size + 1 by simp] at h2
  rw [show ((w.alloc (.cells (cellsB s).toArray t1)).alloc (.cells (cellsN zero8).toArray t2)).heap.size = w.heap.size + 1 + 1 by simp] at h3
  exact ⟨((Blk.new w t1 s).alloc _).alloc _, h2.alloc _, h3⟩
theorem low3 (w : World) (s : List Int) (t1 t2 t3 : TypeId) : Low w (((w.alloc (.cells (cellsB s).toArray t1)).alloc (.cells (cellsN zero8).toArray t2)).alloc (.cells (cellsN zero8).toArray t3)) := ((Low.alloc w _).trans (Low.alloc _ _)).trans (Low.alloc _ _)

end Go.Proofs.Ytcfppidobenbfaa

namespace Go.Proofs.Ytcfppidobenbfaa
open Go.RowKit
set_option linter.unusedVariables false

/-- the byte at place i of the address of numbers -/
def ofAt (xs : List Int) (i : Nat) : Int := if i % 2 = 0 then xs.getD (i / 2) 0 / 256 % 256 else xs.getD (i / 2) 0 % 256
def ofL (xs : List Int) : List Int := (List.range 16).map (ofAt xs)
theorem ofL_length (xs : List Int) : (ofL xs).length = 16 := by simp [ofL]
theorem ofL_getD (xs : List Int) (k : Nat) (h : k < 16) : (ofL xs).getD k 0 = ofAt xs k := by simp [ofL, List.getD, h]
theorem ofL_all (xs : List Int) : AllB (ofL xs) := fun x hx => by
  obtain ⟨i, _, rfl⟩ := List.mem_map.1 hx
  unfold ofAt
  split <;> omega
theorem of_two (xs t : List Int) (k : Nat) (h : k < 8) (ht : t.length = 16) :
    (((ofL xs).take (2 * k) ++ t.drop (2 * k)).set (2 * k) (xs.getD k 0 / 256 % 256)).set (2 * k + 1) (xs.getD k 0 % 256) = (ofL xs).take (2 * (k + 1)) ++ t.drop (2 * (k + 1)) := by
  have e0 : xs.getD k 0 / 256 % 256 = (ofL xs).getD (2 * k) 0 := by rw [ofL_getD xs _ (by omega)]; unfold ofAt; rw [if_pos (by omega), show 2 * k / 2 = k by omega]
  have e1 : xs.getD k 0 % 256 = (ofL xs).getD (2 * k + 1) 0 := by rw [ofL_getD xs _ (by omega)]; unfold ofAt; rw [if_neg (by omega), show (2 * k + 1) / 2 = k by omega]
  rw [e0, e1, pref_set t (ofL xs) (2 * k) ht (ofL_length xs) (by omega), pref_set t (ofL xs) (2 * k + 1) ht (ofL_length xs) (by omega)]
  rfl
theorem of_end (xs : List Int) (m : Nat) (h : m = min xs.length 8) : (ofL xs).take (2 * m) ++ zero16.drop (2 * m) = ofL xs := by
  have hz : zero16.drop (2 * m) = (ofL xs).drop (2 * m) := by
    apply List.ext_getElem?
    intro i
    simp only [List.getElem?_drop]
    by_cases hi : 2 * m + i < 16
    · have h1 : (ofL xs)[2 * m + i]? = some (ofAt xs (2 * m + i)) := by simp [ofL, hi]
      have h2 : ofAt xs (2 * m + i) = 0 := by
        have : xs.getD ((2 * m + i) / 2) 0 = 0 := by simp [List.getD, List.getElem?_eq_none (show xs.length ≤ (2 * m + i) / 2 by omega)]
        unfold ofAt; rw [this]; simp
      have h3 : ∀ j : Fin 16, zero16[j.val]? = some 0 := by decide
      rw [h1, h2, h3 ⟨2 * m + i, hi⟩]
    · rw [List.getElem?_eq_none (by show (16 : Nat) ≤ _; omega), List.getElem?_eq_none (by rw [ofL_length]; omega)]
  rw [hz, List.take_append_drop]
theorem cell_far {w : World} {p a : Addr} {x : Value} (h : w.cell? a = some x) (hb : p.block ≠ a.block) (v : Value) : (w.setCell p v).cell? a = some x := by
  rw [← h]
  simp [World.setCell, World.cell?, Array.getElem?_modify, hb]
theorem two_zero16 (w : World) (t : TypeId) : Blk ((w.alloc (.cells (cellsB zero16).toArray t)).alloc (.cells (cellsB zero16).toArray t)) t w.heap.size zero16 ∧ Blk ((w.alloc (.cells (cellsB zero16).toArray t)).alloc (.cells (cellsB zero16).toArray t)) t (w.heap.size + 1) zero16 := ⟨box_first w _ _ _ _, box_second w _ _ _ _⟩

end Go.Proofs.Ytcfppidobenbfaa

namespace Go.Proofs.Ytcfppidobenbfaa
open Go.RowKit
set_option linter.unusedVariables false

/-- where the longest row begins, how long it is, and how long the one at hand is, behind k numbers; 'z i': is number i 0? -/
def lrN (z : Nat → Bool) : Nat → Nat × Nat × Nat
  | 0 => (0, 0, 0)
  | k + 1 => if z k then (if (lrN z k).2.1 < (lrN z k).2.2 + 1 then (k + 1 - ((lrN z k).2.2 + 1), (lrN z k).2.2 + 1, (lrN z k).2.2 + 1) else ((lrN z k).1, (lrN z k).2.1, (lrN z k).2.2 + 1)) else ((lrN z k).1, (lrN z k).2.1, 0)
theorem lrN_le (z : Nat → Bool) (k : Nat) : (lrN z k).1 ≤ k ∧ (lrN z k).2.1 ≤ k ∧ (lrN z k).2.2 ≤ k ∧ (lrN z k).1 + (lrN z k).2.1 ≤ k := by
  induction k with
  | zero => simp [lrN]
  | succ k ih =>
    unfold lrN
    split
    · split <;> (dsimp only; omega)
    · dsimp only; omega
theorem lr_grow {z : Nat → Bool} {k : Nat} (hz : z k = true) (h : (lrN z k).2.1 < (lrN z k).2.2 + 1) : lrN z (k + 1) = (k + 1 - ((lrN z k).2.2 + 1), (lrN z k).2.2 + 1, (lrN z k).2.2 + 1) := by rw [lrN, if_pos hz, if_pos h]
theorem lr_more {z : Nat → Bool} {k : Nat} (hz : z k = true) (h : ¬ (lrN z k).2.1 < (lrN z k).2.2 + 1) : lrN z (k + 1) = ((lrN z k).1, (lrN z k).2.1, (lrN z k).2.2 + 1) := by rw [lrN, if_pos hz, if_neg h]
theorem lr_none {z : Nat → Bool} {k : Nat} (hz : z k = false) : lrN z (k + 1) = ((lrN z k).1, (lrN z k).2.1, 0) := by rw [lrN, if_neg (by rw [hz]; decide)]
def isZ (ws : List Int) (i : Nat) : Bool := ws.getD i 0 == 0

/-- how many numbers 0 stand from a place on -/
def zrF (z : Nat → Bool) : Nat → Nat → Nat
  | 0, _ => 0
  | f + 1, a => if z a then 1 + zrF z f (a + 1) else 0
def zrN (z : Nat → Bool) (a : Nat) : Nat := zrF z (8 - a) a
theorem zr_end (z : Nat → Bool) : zrN z 8 = 0 := rfl
theorem zr_more {z : Nat → Bool} {a : Nat} (ha : a < 8) (h : z a = true) : zrN z a = 1 + zrN z (a + 1) := by
  unfold zrN
  rw [show 8 - a = 8 - (a + 1) + 1 by omega, zrF, if_pos h]
theorem zr_none {z : Nat → Bool} {a : Nat} (ha : a < 8) (h : z a = false) : zrN z a = 0 := by
  unfold zrN
  rw [show 8 - a = 8 - (a + 1) + 1 by omega, zrF, if_neg (by rw [h]; decide)]
theorem zrN_le (z : Nat → Bool) (a : Nat) : zrN z a ≤ 8 - a := by
  unfold zrN
  generalize 8 - a = f
  induction f generalizing a with
  | zero => simp [zrF]
  | succ f ih =>
    rw [zrF]
    split
    · have := ih (a + 1); omega
    · omega

end Go.Proofs.Ytcfppidobenbfaa
