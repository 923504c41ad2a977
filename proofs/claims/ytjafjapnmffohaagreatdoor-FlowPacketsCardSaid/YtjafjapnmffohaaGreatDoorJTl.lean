/- Texts joined.
  The page's words on the parts of routing headers, as functions of lists: whether they can be, their bytes, bytes that are nothing, the parts of bytes; what was put is parsed as what it was. No program here.
  What tlv.Can, and the document's own, answer: whether parts can be. Condition: at most 2^47 parts.
  What tlv.Pad, the document's own Pad and bytes.Clone answer: bytes that are nothing; the same bytes in new memory. Conditions: the number is an int; at most 2^47 bytes.
  What tlv.Put, and the document's own, answer: the bytes of parts. Condition: at most 2^47 parts.
  What the document's own Put answers: the bytes of parts. Condition: at most 2^47 parts.
  What tlv.behind and tlv.Parse answer: the parts of bytes. Condition: at most 2^32 bytes.
  What the document's own Parse answers: the parts of bytes. Condition: at most 2^32 bytes.
  What the document's own Same (of parts), and tlv.Find, answer. Condition: at most 2^47 parts.
  What the laws' own small test of parts answers: true. No condition.
-/
import Derived.Test.YtjafjapnmffohaaGreatDoorJTp
import Derived.Test.YtjafjapnmffohaaGreatDoorVals
import Derived.WalkMore
import Derived.Test.YtjafjapnmffohaaGreatDoorApp2
import Derived.Lib.AppendZerosOnto
import Derived.Lib.AppendZeros
import Derived.Lib.SliceRun
import Derived.Test.YtjafjapnmffohaaGreatDoorJReg
import Derived.Test.YtjafjapnmffohaaGreatDoorSlc
import Derived.ScopeJumps
import Derived.Lib.Bytes
import Derived.Test.YtjafjapnmffohaaGreatDoorJOct
set_option maxRecDepth 100000
namespace Go.Proofs.YtjafjapnmffohaaGreatDoor
open Go.RowKit
set_option linter.unusedVariables false

/-- m bytes that are nothing, up to 257 -/
def nilT : Nat → List Int
  | 0 => []
  | 1 => [0]
  | k + 2 => [4, (k : Int)] ++ List.replicate k 0
def padT (n : Int) : List Int := nilT (min n.toNat 257)
theorem nilT_len : ∀ m, (nilT m).length = m
  | 0 => rfl
  | 1 => rfl
  | k + 2 => by simp [nilT]
theorem nilT_all {m : Nat} (h : m ≤ 257) : AllB (nilT m) := by
  match m with
  | 0 => exact .nil
  | 1 => exact .cons (by omega) (by omega) .nil
  | k + 2 => exact (AllB.cons (by omega) (by omega) (.cons (by omega) (by omega) .nil)).append (zeros_all k)
theorem padT_len (n : Int) : (padT n).length = min n.toNat 257 := nilT_len _
theorem padT_len_le (n : Int) : (padT n).length ≤ 257 := by rw [padT_len]; omega
theorem padT_all (n : Int) : AllB (padT n) := nilT_all (by omega)

def badT (k : Int) : Prop := k < 1 ∨ 255 < k ∨ k = 4
instance (k : Int) : Decidable (badT k) := by unfold badT; infer_instance
/-- part by part -/
def chkT : List Ob → Int
  | [] => 0
  | o :: l => if badT o.1 then 2 else if 255 < o.2.length then 4 else chkT l
def sizeT (o : Ob) : Nat := 2 + o.2.length
def sumT (l : List Ob) : Nat := (l.map sizeT).sum
def canT (l : List Ob) : Int := if chkT l = 0 then (if 256 < sumT l then 8 else 0) else chkT l
def partT (o : Ob) : List Int := [o.1 % 256, (o.2.length : Int) % 256] ++ o.2
def flatT (l : List Ob) : List Int := l.flatMap partT
def fillT (n : Nat) : Nat := (8 - n % 8) % 8
def putT (l : List Ob) : List Int := if canT l = 0 then flatT l ++ nilT (fillT (flatT l).length) else []

theorem chkT_err : ∀ l : List Ob, chkT l = 0 ∨ chkT l = 2 ∨ chkT l = 4
  | [] => .inl rfl
  | o :: l => by
    unfold chkT
    split
    · exact .inr (.inl rfl)
    · split
      · exact .inr (.inr rfl)
      · exact chkT_err l
theorem canT_err (l : List Ob) : 0 ≤ canT l ∧ canT l ≤ 8 := by
  unfold canT
  rcases chkT_err l with h | h | h <;> rw [h] <;> repeat' split
  all_goals omega
theorem chkT_cons {o : Ob} {l : List Ob} (h : chkT (o :: l) = 0) : ¬ badT o.1 ∧ o.2.length ≤ 255 ∧ chkT l = 0 := by
  unfold chkT at h
  split at h
  · omega
  · split at h
    · omega
    · rename_i h1 h2
      exact ⟨h1, by omega, h⟩
theorem chkT_mem : ∀ {l : List Ob}, chkT l = 0 → ∀ o ∈ l, ¬ badT o.1 ∧ o.2.length ≤ 255
  | [], _, o, h => by cases h
  | a :: l, hl, o, h => by
    have hc := chkT_cons hl
    rcases List.mem_cons.1 h with rfl | h
    · exact ⟨hc.1, hc.2.1⟩
    · exact chkT_mem hc.2.2 o h
theorem canT_zero {l : List Ob} (h : canT l = 0) : chkT l = 0 ∧ sumT l ≤ 256 := by
  unfold canT at h
  split at h
  · rename_i h1
    split at h
    · omega
    · exact ⟨h1, by omega⟩
  · rename_i h1
    exact absurd h h1
theorem partT_len (o : Ob) : (partT o).length = sizeT o := by simp [partT, sizeT]; omega
theorem flatT_len : ∀ l : List Ob, (flatT l).length = sumT l
  | [] => rfl
  | o :: l => by
    have ih := flatT_len l
    have hp := partT_len o
    unfold flatT sumT at ih ⊢
    simp only [List.flatMap_cons, List.map_cons, List.sum_cons, List.length_append] at ih ⊢
    omega
theorem partT_all {o : Ob} (h : AllB o.2) : AllB (partT o) := (AllB.cons (by omega) (by omega) (.cons (by omega) (by omega) .nil)).append h
theorem fillT_lt (n : Nat) : fillT n < 8 := by unfold fillT; omega
theorem fillT_mod (n : Nat) : (n + fillT n) % 8 = 0 := by unfold fillT; omega
theorem putT_len {l : List Ob} (h : canT l = 0) : (putT l).length ≤ 256 ∧ (putT l).length % 8 = 0 := by
  obtain ⟨h1, h2⟩ := canT_zero h
  have hl := flatT_len l
  unfold putT
  rw [if_pos h, List.length_append, nilT_len, hl]
  have := fillT_lt (sumT l)
  have := fillT_mod (sumT l)
  exact ⟨by omega, by omega⟩
theorem putT_none {l : List Ob} (h : canT l ≠ 0) : putT l = [] := by unfold putT; rw [if_neg h]
theorem putT_len_le (l : List Ob) : (putT l).length ≤ 256 := by
  by_cases h : canT l = 0
  · exact (putT_len h).1
  · rw [putT_none h]; simp
theorem flatT_all {l : List Ob} (h : ∀ o ∈ l, AllB o.2) : AllB (flatT l) := fun x hx => by
  unfold flatT at hx
  rw [List.mem_flatMap] at hx
  obtain ⟨o, ho, hx⟩ := hx
  exact partT_all (h o ho) x hx
theorem flatT_take {l : List Ob} {i : Nat} (h : i < l.length) : flatT (l.take (i + 1)) = flatT (l.take i) ++ partT (l.getD i zeroB) := by
  unfold flatT
  rw [List.take_succ_eq_append_getElem h, List.flatMap_append]
  simp [List.getD, h]
theorem flatT_take_le (l : List Ob) (i : Nat) : (flatT (l.take i)).length ≤ (flatT l).length := by
  have h : flatT l = flatT (l.take i) ++ flatT (l.drop i) := by unfold flatT; rw [← List.flatMap_append, List.take_append_drop]
  rw [h, List.length_append]; omega
theorem sumT_take {l : List Ob} {i : Nat} (h : i < l.length) : sumT (l.take (i + 1)) = sumT (l.take i) + sizeT (l.getD i zeroB) := by
  unfold sumT
  rw [List.take_succ_eq_append_getElem h, List.map_append, List.sum_append]
  simp [List.getD, h]
theorem chkT_drop {l : List Ob} {i : Nat} (h : i < l.length) : chkT (l.drop i) = if badT (l.getD i zeroB).1 then 2 else if 255 < (l.getD i zeroB).2.length then 4 else chkT (l.drop (i + 1)) := by
  have e : l.drop i = l.getD i zeroB :: l.drop (i + 1) := by
    rw [List.drop_eq_getElem_cons h]
    simp [List.getD, h]
  rw [e]
  rfl

/-- the part that bytes, not empty and not beginning with 0, begin with: none, if it is nothing -/
def keepT (xs : List Int) : List Ob := if xs.getD 0 0 = 4 then [] else [(xs.getD 0 0, (xs.drop 2).take (xs.getD 1 0).toNat)]
def shortT (xs : List Int) : Prop := xs.length < 2 ∨ (xs.length : Int) - 2 < xs.getD 1 0
instance (xs : List Int) : Decidable (shortT xs) := by unfold shortT; infer_instance
/-- the parts of bytes, in at most f - 1 steps -/
def parseT : Nat → List Int → List Ob × Int
  | 0, _ => ([], 0)
  | f + 1, xs =>
    if xs = [] then ([], 0)
    else if xs.getD 0 0 = 0 then parseT f (xs.drop 1)
    else if shortT xs then ([], 3)
    else joinO (keepT xs) (parseT f (xs.drop (2 + (xs.getD 1 0).toNat)))
def parseTL (xs : List Int) : List Ob × Int := parseT (xs.length + 1) xs

theorem keepT_len (xs : List Int) : (keepT xs).length ≤ 1 := by unfold keepT; split <;> simp
theorem parseT_err : ∀ (f : Nat) (xs : List Int), (parseT f xs).2 = 0 ∨ ((parseT f xs).2 = 3 ∧ (parseT f xs).1 = [])
  | 0, xs => .inl rfl
  | f + 1, xs => by
    have i1 := parseT_err f (xs.drop 1)
    have i2 := parseT_err f (xs.drop (2 + (xs.getD 1 0).toNat))
    unfold parseT
    split
    · exact .inl rfl
    · split
      · exact i1
      · split
        · exact .inr ⟨rfl, rfl⟩
        · unfold joinO
          split
          · exact .inl rfl
          · rename_i h
            rcases i2 with i2 | i2
            · exact absurd i2 h
            · exact .inr ⟨i2.1, rfl⟩
theorem parseT_err_nil (f : Nat) (xs : List Int) (h : (parseT f xs).2 ≠ 0) : (parseT f xs).1 = [] := by
  rcases parseT_err f xs with e | e
  · exact absurd e h
  · exact e.2
theorem parseT_range (f : Nat) (xs : List Int) : 0 ≤ (parseT f xs).2 ∧ (parseT f xs).2 ≤ 3 := by
  rcases parseT_err f xs with e | e
  · omega
  · omega
theorem parseT_len : ∀ (f : Nat) (xs : List Int), (parseT f xs).1.length ≤ xs.length
  | 0, xs => by simp [parseT]
  | f + 1, xs => by
    have i1 := parseT_len f (xs.drop 1)
    have i2 := parseT_len f (xs.drop (2 + (xs.getD 1 0).toNat))
    have hk := keepT_len xs
    rw [List.length_drop] at i1 i2
    unfold parseT
    split
    · simp
    · rename_i h0
      have := List.length_pos_iff.2 h0
      split
      · omega
      · split
        · simp
        · unfold joinO
          split
          · simp only [List.length_append]; omega
          · simp

/-! what was put is parsed as what it was -/
/-- bytes say these parts -/
def Says (xs : List Int) (l : List Ob) : Prop := ∀ f, xs.length < f → parseT f xs = (l, 0)
theorem says_nil : Says [] [] := fun f h => by
  cases f with
  | zero => omega
  | succ f => rfl
theorem says_pad {xs : List Int} {l : List Ob} (h : Says xs l) : ∀ m, m ≤ 257 → Says (nilT m ++ xs) l
  | 0, _ => h
  | 1, _ => fun f hf => by
    cases f with
    | zero => omega
    | succ f =>
      have e : nilT 1 ++ xs = 0 :: xs := rfl
      rw [e] at hf ⊢
      unfold parseT
      rw [if_neg (by simp), if_pos (by simp)]
      exact h f (by simpa using hf)
  | k + 2, hk => fun f hf => by
    cases f with
    | zero => omega
    | succ f =>
      have e : nilT (k + 2) ++ xs = 4 :: (k : Int) :: (List.replicate k 0 ++ xs) := by simp [nilT]
      rw [e] at hf ⊢
      unfold parseT
      rw [if_neg (by simp), if_neg (by simp)]
      have hs : ¬ shortT (4 :: (k : Int) :: (List.replicate k 0 ++ xs)) := by
        unfold shortT
        simp only [List.length_cons, List.length_append, List.length_replicate, List.getD_cons_succ, List.getD_cons_zero]
        omega
      have hd : (4 :: (k : Int) :: (List.replicate k 0 ++ xs)).drop (2 + k) = xs := by
        rw [Nat.add_comm]
        simp
      have hg : ((4 :: (k : Int) :: (List.replicate k 0 ++ xs)).getD 1 0).toNat = k := by simp
      rw [if_neg hs, hg, hd, h f (by simp at hf; omega)]
      simp [keepT, joinO]
theorem says_part {xs : List Int} {l : List Ob} {o : Ob} (h : Says xs l) (hb : ¬ badT o.1) (hl : o.2.length ≤ 255) : Says (partT o ++ xs) (o :: l) := fun f hf => by
  obtain ⟨k, d⟩ := o
  unfold badT at hb
  dsimp only at hb hl
  cases f with
  | zero => omega
  | succ f =>
    have e : partT (k, d) ++ xs = k :: (d.length : Int) :: (d ++ xs) := by
      have e1 : k % 256 = k := by omega
      have e2 : (d.length : Int) % 256 = d.length := by omega
      simp [partT, e1, e2]
    rw [e] at hf ⊢
    unfold parseT
    rw [if_neg (by simp), if_neg (by simp; omega)]
    have hs : ¬ shortT (k :: (d.length : Int) :: (d ++ xs)) := by
      unfold shortT
      simp only [List.length_cons, List.length_append, List.getD_cons_succ, List.getD_cons_zero]
      omega
    have hd : (k :: (d.length : Int) :: (d ++ xs)).drop (2 + d.length) = xs := by
      rw [Nat.add_comm]
      simp
    have hg : ((k :: (d.length : Int) :: (d ++ xs)).getD 1 0).toNat = d.length := by simp
    rw [if_neg hs, hg, hd, h f (by simp at hf; omega)]
    have hk : keepT (k :: (d.length : Int) :: (d ++ xs)) = [(k, d)] := by
      unfold keepT
      rw [if_neg (by simp; omega), hg]
      simp
    rw [hk]
    simp [joinO]
theorem says_flat {xs : List Int} {l : List Ob} (h : Says xs l) : ∀ {k : List Ob}, chkT k = 0 → Says (flatT k ++ xs) (k ++ l)
  | [], _ => h
  | o :: k, hc => by
    obtain ⟨h1, h2, h3⟩ := chkT_cons hc
    have e : flatT (o :: k) ++ xs = partT o ++ (flatT k ++ xs) := by simp [flatT]
    rw [e]
    exact says_part (says_flat h h3) h1 h2
theorem parse_putT {l : List Ob} (h : canT l = 0) (n m : Int) : parseTL (padT n ++ putT l ++ padT m) = (l, 0) := by
  obtain ⟨h1, h2⟩ := canT_zero h
  have e : padT n ++ putT l ++ padT m = nilT (min n.toNat 257) ++ (flatT l ++ (nilT (fillT (flatT l).length) ++ (nilT (min m.toNat 257) ++ []))) := by
    unfold putT padT
    rw [if_pos h]
    simp
  have hs : Says (padT n ++ putT l ++ padT m) l := by
    rw [e]
    have := says_pad (says_flat (says_pad (says_pad says_nil (min m.toNat 257) (by omega)) (fillT (flatT l).length) (by have := fillT_lt (flatT l).length; omega)) h1) (min n.toNat 257) (by omega)
    simpa using this
  exact hs _ (Nat.lt_succ_self _)
theorem putT_all {l : List Ob} (h : ∀ o ∈ l, AllB o.2) : AllB (putT l) := by
  unfold putT
  split
  · exact (flatT_all h).append (nilT_all (by have := fillT_lt (flatT l).length; omega))
  · exact AllB.nil
end Go.Proofs.YtjafjapnmffohaaGreatDoor

namespace Go.Proofs.YtjafjapnmffohaaGreatDoor
open Go.RowKit
set_option linter.unusedVariables false

/-- what is left of 256, never below -1 -/
def leftT (s : Nat) : Int := if 256 < s then -1 else 256 - s
theorem leftT_range (s : Nat) : -1 ≤ leftT s ∧ leftT s ≤ 256 := by unfold leftT; split <;> omega
theorem leftT_step {s s' dn : Nat} (h : s' = s + (2 + dn)) : (if leftT s - 2 - dn < -1 then (-1 : Int) else leftT s - 2 - dn) = leftT s' := by
  subst h
  unfold leftT
  repeat' split
  all_goals omega
theorem capT_step {t S S' dn : Nat} (h : t = min S 257) (hs : S' = S + (2 + dn)) : (if 257 < (t : Int) + 2 + dn then 257 else (t : Int) + 2 + dn) = ((min S' 257 : Nat) : Int) := by
  split <;> omega
theorem bad_lt {k : Int} (h : k < 1) : badT k := .inl h
theorem bad_gt {k : Int} (h : 255 < k) : badT k := .inr (.inl h)
theorem bad_four : badT 4 := .inr (.inr rfl)

end Go.Proofs.YtjafjapnmffohaaGreatDoor

namespace Go.Proofs.YtjafjapnmffohaaGreatDoor
open Go.RowKit
set_option linter.unusedVariables false

/-- bytes of the call's own are handed back -/
def GivesNB (w : World) (ys : List Int) (e : Ending) (w' : World) : Prop :=
  ∃ A c, e = .returned (.slice A ys.length c) ∧ OwnB 5 w' w.heap.size A ys.length c ys ∧ Below w.heap.size w w'
theorem GivesNB.of {w w' : World} {ys zs : List Int} {A : Option Addr} {n c : Nat} (hy : ys = zs) (h : OwnB 5 w' w.heap.size A n c zs) (hB : Below w.heap.size w w') : GivesNB w ys (.returned (.slice A n c)) w' := by
  subst hy
  have hl := h.len
  subst hl
  exact ⟨A, c, rfl, h, hB⟩
def lenV : Value → Nat
  | .slice _ n _ => n
  | _ => 0
theorem zeroCells_byte (k : Nat) : Builtin.zeroCells (Value.int .u8 0).cells k = (List.replicate k (Value.int .u8 0)).toArray := by
  apply Array.ext
  · simp [Builtin.zeroCells, Value.cells]
  · intro i h1 h2
    simp [Builtin.zeroCells, Value.cells, Nat.mod_one]
theorem cellsB_zeros (k : Nat) : cellsB (List.replicate k 0) = List.replicate k (.int .u8 0) := by simp [cellsB]
theorem cellsB_take (xs : List Int) (k : Nat) : (cellsB xs).take k = cellsB (xs.take k) := by simp [cellsB]

section
variable {i0 : TypeInfo} (hi : Tryz.prog.info? 5 = some i0) (hz0 : i0.zero = some (.int .u8 0)) (hz1 : i0.size = 1) (hz2 : i0.bytes = 1)
include hi hz0 hz1 hz2
/-- zeros behind a full row of the call's own -/
theorem run_zerosT (w : World) (g : Nat) (ys : List Int) (m k : Nat) (hm : ys.length = m) (hk : m + k ≤ 140737488355328) (ha : AllB ys) (hb : Blk w 5 g ys) (base : Nat) (hg : base ≤ g) (hgs : base ≤ w.heap.size) (ty : TypeId) :
    ∃ A c w', (Builtin.append_ #[22, 3] ty #[.slice (some ⟨g, 0, none⟩) m m, .int .i64 (k : Nat)]).run Tryz.prog w = .ok (.slice A (m + k) c) w' ∧ OwnB 5 w' base A (m + k) c (ys ++ List.replicate k 0) ∧ Below base w w' := by
  rcases Nat.eq_zero_or_pos k with h0 | h0
  · subst h0
    refine ⟨some ⟨g, 0, none⟩, m, w, ?_, by simpa using OwnB.ofBlk hb ha hg hm (by unfold maxLen; omega), Below.refl _ _⟩
    simp [Builtin.append_, run_underlying Tryz.underlying22, run_underlying Tryz.underlying3, sizeOf, typeInfo, hi, Builtin.lenOf, Builtin.firstCells, storeCells, asInt, asIntOf, IntKind.wrap_i64, zeroValue, hz0]
  · have hrow : (Builtin.firstCells i0.size m (.slice (some ⟨g, 0, none⟩) m m)).run Tryz.prog w.drew = .ok (cellsB ys).toArray w.drew :=
      run_firstCells_some w.drew i0.size m ⟨g, 0, none⟩ m m (cellsB ys) (by rw [cellsB_length, hz1]; omega) (fun j v hj => by
        rw [Addr.add_lit, Nat.zero_add]
        exact (hb.cell j).trans hj)
    have hr := Lib.run_append_grow_zeros (P := Tryz.prog) w 22 3 ty 5 i0 (.int .u8 0) .i64 .i64 Tryz.underlying22 Tryz.underlying3 hi hz0 (some ⟨g, 0, none⟩) m m (cellsB ys) hrow k h0 (by omega) (by omega) (by omega) (by rw [hz2]; omega)
      (growslice_fits (by omega) (by rw [hz2]; omega))
    have hge := grownCap_ge w (m + k) m 5
    have hle := grownCap_le_maxLen w (m + k) m 5 (by unfold maxLen; omega)
    refine ⟨_, _, _, hr, ⟨⟨?_, .inr ⟨w.heap.size, grownCap w (m + k) m 5, _, rfl, hgs, heap_alloc_new w.drew _, hge, hle, ?_, ?_⟩⟩, ha.append (zeros_all k)⟩, ((Below.refl _ _).drew).alloc hgs _⟩
    · rw [cellsB_length, List.length_append, List.length_replicate]; omega
    · simp only [Array.size_append, zeroCells_byte, List.size_toArray, cellsB_length, List.length_replicate]
      have := hge
      omega
    · rw [zeroCells_byte, zeroCells_byte, ← cellsB_zeros, ← cellsB_zeros]
      simp only [List.append_toArray, ← cellsB_append]
      rw [cellsB_take]
      congr 1
      exact List.take_left' (by simp; omega)
end

set_option maxRecDepth 100000 in
set_option maxHeartbeats 1600000 in
theorem clone_any (A : Option Addr) (n c : Nat) (xs : List Int) (w : World) (hn : n ≤ 140737488355328) (hb : Bs w w.heap.size A n xs) : Calls Tryz.prog 63 #[.slice A n c] w (GivesNB w xs) := by
  obtain ⟨i0, hi, hz0, hz1, hz2⟩ := info_parts info5
  cases A with
  | none =>
    obtain rfl : n = 0 := by
      rcases Nat.eq_zero_or_pos n with h | h
      · exact h
      · obtain ⟨_, _, e, _⟩ := hb.mem h; cases e
    obtain rfl : xs = [] := List.eq_nil_of_length_eq_zero hb.len
    have hnil : (binOp .eql 22 (.slice none 0 c) (.slice none 0 0)).run Tryz.prog w = .ok (.bool true) w := Lib.run_eql_slice_nil w 22 5 none 0 c 0 0 Tryz.underlying22
    clear hb hi hz0 hz1 hz2
    go_enter Tryz.func63, Tryz.ntmps63
    go_wp2_with fail
    go_ret
    exact GivesNB.of (ys := []) (zs := []) rfl (OwnB.none_ _ _ _) (Below.refl _ _)
  | some ad =>
    have hl := Low.alloc w (.cells #[] 5)
    have hO := OwnB.fresh (base := w.heap.size) w 5 (Nat.le_refl _)
    have hb1 := hb.below hl
    have HLT := Lib.hid hO.lt
    have HL := Lib.hid hl
    have hnil : (binOp .eql 22 (.slice (some ad) n c) (.slice none 0 0)).run Tryz.prog w = .ok (.bool false) w := Lib.run_eql_slice_nil w 22 5 (some ad) n c 0 0 Tryz.underlying22
    clear hb hl
    go_enter Tryz.func63, Tryz.ntmps63
    go_wp2_with (at_builtin; refine wpList_append_bs rfl _ _ 22 rfl w.heap.size 5 i0 Tryz.underlying22 hi hz0 hz1 hz2 _ 0 0 [] rfl hO _ n c w.heap.size xs rfl hb1 (by omega) (by simp) ?_; intro A2 c2 w1 hown hgr hob; refine Hid.out ?_)
    refine Lib.hid ?_
    have HOW := Lib.hid hown
    have HB2 := Lib.hid (HL.out.grown hgr (by simp) fun x e => (HLT.out x e).1)
    clear hown hgr hob hO hb1
    go_wp2_with fail
    go_ret
    have h := HOW.out
    rw [Nat.zero_add, List.nil_append] at h
    exact GivesNB.of rfl h HB2.out

end Go.Proofs.YtjafjapnmffohaaGreatDoor

namespace Go.Proofs.YtjafjapnmffohaaGreatDoor
open Go.RowKit
set_option linter.unusedVariables false

theorem partT_v (kk : Int) (d : List Int) (dn : Nat) (h : d.length = dn) (h2 : dn ≤ 255) : partT (kk, d) = [kk % 256, (dn : Int)] ++ d := by
  unfold partT
  rw [show (d.length : Int) % 256 = dn by omega]
theorem two_src (w : World) (x y : Int) (hx : 0 ≤ x ∧ x < 256) (hy : 0 ≤ y ∧ y < 256) : Bs (w.alloc (.cells #[.int .u8 x, .int .u8 y] 5)) (w.heap.size + 1) (some ⟨w.heap.size, 0, none⟩) 2 [x, y] :=
  (Blk.new w 5 [x, y]).bs (.cons hx.1 hx.2 (.cons hy.1 hy.2 .nil)) (by omega) rfl
theorem fill_pad {s : Nat} (h : 0 < s % 8) : padT (8 - ((s : Int) % 8)) = nilT (fillT s) := by
  unfold padT fillT
  congr 1
  omega

/-- a slice of bytes of the call's own, and a number, are handed back -/
def GivesPB (w : World) (ys : List Int) (x : Int) (e : Ending) (w' : World) : Prop :=
  ∃ A c, e = .returned (.tuple #[.slice A ys.length c, .int .i64 x]) ∧ OwnB 5 w' w.heap.size A ys.length c ys ∧ Below w.heap.size w w'
theorem GivesPB.be {w w' : World} {ys : List Int} {x : Int} {e : Ending} (h : GivesPB w ys x e w') : GivesBE w ys x e w' := by
  obtain ⟨A, c, he, ho, hB⟩ := h
  have hcap := ho.cap
  exact ⟨A, c, he, ho.bs (Nat.le_refl _), ⟨hcap.1, by have := hcap.2; simp only [maxLen] at this; omega⟩, hB⟩
theorem GivesPB.of {w w' : World} {ys zs : List Int} {x y : Int} {A : Option Addr} {n c : Nat} (hy : ys = zs) (hx : x = y) (h : OwnB 5 w' w.heap.size A n c zs) (hB : Below w.heap.size w w') : GivesPB w ys x (.returned (.tuple #[.slice A n c, .int .i64 y])) w' := by
  subst hy hx
  have hl := h.len
  subst hl
  exact ⟨A, c, rfl, h, hB⟩

end Go.Proofs.YtjafjapnmffohaaGreatDoor

namespace Go.Proofs.YtjafjapnmffohaaGreatDoor
open Go.RowKit
set_option linter.unusedVariables false

theorem fill_next {s k : Nat} (hk : k ≤ fillT s) (h : (s + k) % 8 ≠ 0) : k + 1 ≤ fillT s := by unfold fillT at hk ⊢; omega
theorem fill_here {s k : Nat} (hk : k ≤ fillT s) (h : (s + k) % 8 = 0) : k = fillT s := by unfold fillT at hk ⊢; omega
theorem padT_nat {k : Nat} (h : k < 8) : padT ((k : Nat) : Int) = nilT k := by unfold padT; congr 1; omega

end Go.Proofs.YtjafjapnmffohaaGreatDoor

namespace Go.Proofs.YtjafjapnmffohaaGreatDoor
open Go.RowKit
set_option linter.unusedVariables false

section
variable {P : Program} {a : Act} {w : World} {Q : Exit → Act → World → Prop}
/-- a scope whose one label is come to from above, too: the way from the label on is walked once -/
theorem wp_scope_head {c B : Code} (l : Nat) (J : Act → World → Prop) (μ : Act → World → Nat) (hf : findLabel c l = some (.seq .skip B)) (head : ∀ Q' : Exit → Act → World → Prop, (∀ a w, J a w → B.wp P Q' a w) → c.wp P Q' a w)
    (pass : ∀ a w, J a w → B.wp P (Exit.jump l (fun a' w' => J a' w' ∧ μ a' w' < μ a w) Q) a w) : (Code.scope c).wp P Q a w :=
  wp_scope_jumps l J μ hf (head _ fun a1 w1 hJ => Code.wp_mono (fun e a2 w2 h => by
    cases e with
    | goto l' => exact ⟨h.1, h.2.1⟩
    | normal => exact h
    | exit id => exact h
    | ret => exact h
    | panic ch => exact h
    | outgrown => exact h) (pass a1 w1 hJ)) (fun a1 w1 hJ => wp_seq (wp_skip (pass a1 w1 hJ)))
end

theorem slcT_from (b o n c s : Nat) (q : Int) (hc : n ≤ c) (hq : q = s) (h2 : s ≤ n) :
    ∃ o', (∀ u, (Instr.sliceAt 22 (.slice (some ⟨b, o, none⟩) n c) (some (.int .i64 q)) none none).run Tryz.prog u = .ok (.slice (some ⟨b, o', none⟩) (n - s) (c - s)) u) ∧ (0 < n - s → o' = o + s) := by
  subst hq
  have i2 : (s : Int) ≤ n := by omega
  have i4 : (n : Int) ≤ c := by omega
  have i3 : (s : Int) ≤ c := by omega
  by_cases h : c = s
  · obtain rfl : n = s := by omega
    subst h
    exact ⟨o, fun u => by go_simp, fun h => by omega⟩
  · exact ⟨o + s, fun u => by go_simp, fun _ => rfl⟩

theorem info_tlv : (Tryz.prog.info? 131).map (fun i => (i.zero, i.size, i.bytes)) = some (some zeroOV, 2, 32) := by kernel_rfl

theorem Od.off.own {t : TypeId} {w' : World} {X : Option Nat} {base n c : Nat} {k : Int} {A : Option Addr} {ys : List Int} (hk : i64ok k) (hn : n ≤ 140737488355328) (h : OwnB t w' base A n c ys) (hX : ∀ x, X = some x → x < base) : Od.off w' X ⟨k, A, n, c, ys⟩ :=
  ⟨hk, hn, h.len, h.2, fun h0 => by
    obtain ⟨g, cap, hv, hb, hlt⟩ := World.ownsRow.form h.1 h0
    have hA : A = some ⟨g, 0, none⟩ := by injection hv
    obtain ⟨b, o, e, _, hc⟩ := (h.bs (Nat.le_refl _)).mem h0
    rw [hA] at e
    injection e with e
    injection e with e1 e2 _
    subst e1 e2
    exact ⟨g, 0, hA, hlt, fun e => by have := hX g e.symm; omega, hc⟩⟩
theorem Od.from_.own {t : TypeId} {w' : World} {lo base n c : Nat} {k : Int} {A : Option Addr} {ys : List Int} (h : OwnB t w' base A n c ys) (hl : lo ≤ base) : Od.from_ lo ⟨k, A, n, c, ys⟩ := fun h0 => by
  obtain ⟨g, cap, hv, hb, _⟩ := World.ownsRow.form h.1 h0
  have hA : A = some ⟨g, 0, none⟩ := by injection hv
  exact ⟨g, 0, hA, by omega⟩

theorem parseT_zero {f : Nat} {xs : List Int} (h : xs ≠ []) (h0 : xs.getD 0 0 = 0) : parseT (f + 1) xs = parseT f (xs.drop 1) := by rw [parseT, if_neg h, if_pos h0]
theorem parseT_short {f : Nat} {xs : List Int} (h : xs ≠ []) (h0 : xs.getD 0 0 ≠ 0) (hs : shortT xs) : parseT (f + 1) xs = ([], 3) := by rw [parseT, if_neg h, if_neg h0, if_pos hs]
theorem parseT_next {f : Nat} {xs : List Int} (h : xs ≠ []) (h0 : xs.getD 0 0 ≠ 0) (hs : ¬ shortT xs) : parseT (f + 1) xs = joinO (keepT xs) (parseT f (xs.drop (2 + (xs.getD 1 0).toNat))) := by rw [parseT, if_neg h, if_neg h0, if_neg hs]

set_option maxHeartbeats 800000 in
set_option maxRecDepth 100000 in
theorem behind_no (A : Option Addr) (n c : Nat) (xs : List Int) (w : World) (hn : n ≤ 140737488355328) (hc : n ≤ c) (hc2 : c ≤ 9223372036854775807) (h0 : 0 < n) (hb : Bs w w.heap.size A n xs) (hs : shortT xs) :
    Calls Tryz.prog 62 #[.slice A n c] w fun e w' => e = .returned (.tuple #[.slice none 0 0, .bool false]) ∧ w' = w := by
  obtain ⟨b, o, rfl, hbl, hcc⟩ := hb.mem h0
  unfold shortT at hs
  rw [hb.len] at hs
  have hn2 := hb.nonneg 1
  by_cases h2 : n < 2
  · clear hb hcc hs
    go_enter Tryz.func62, Tryz.ntmps62
    go_wp2_with fail
    go_ret2
    exact ⟨rfl, rfl⟩
  · have c1 := hcc 1 (by omega)
    have hs2 : (n : Int) - 2 < xs.getD 1 0 := by omega
    obtain ⟨o', hr, -⟩ := slcT_from b o n c 2 2 hc rfl (by omega)
    have HR := Lib.hid hr
    generalize xs.getD 1 0 = x1 at *
    have hs3 : ((n - 2 : Nat) : Int) < x1 := by omega
    clear hb hcc hs hr
    go_enter Tryz.func62, Tryz.ntmps62
    go_wp2_with (refine slc_wp rfl _ _ _ _ _ rfl _ (HR.out _) ?_; refine Hid.out ?_)
    refine Lib.hid ?_
    go_wp2_with fail
    go_ret2
    exact ⟨rfl, rfl⟩

set_option maxHeartbeats 800000 in
set_option maxRecDepth 100000 in
theorem behind_yes (A : Option Addr) (n c : Nat) (xs : List Int) (w : World) (hn : n ≤ 140737488355328) (hc : n ≤ c) (hc2 : c ≤ 9223372036854775807) (h0 : 0 < n) (hb : Bs w w.heap.size A n xs) (hs : ¬ shortT xs) (s : Nat) (hs1 : xs.getD 1 0 = (s : Nat)) :
    Calls Tryz.prog 62 #[.slice A n c] w fun e w' => (∃ A', e = .returned (.tuple #[.slice A' s (c - 2), .bool true]) ∧ Bs w w.heap.size A' s ((xs.drop 2).take s)) ∧ w' = w := by
  obtain ⟨b, o, rfl, hbl, hcc⟩ := hb.mem h0
  unfold shortT at hs
  rw [hb.len, hs1] at hs
  have h2 : 2 ≤ n := by omega
  have c1 := hcc 1 (by omega)
  rw [hs1] at c1
  obtain ⟨o', hr, ho'⟩ := slcT_from b o n c 2 2 hc rfl h2
  have HR := Lib.hid hr
  have HB := Lib.hid ((hb.cutFrom (A' := some ⟨b, o', none⟩) h2 fun h => by rw [ho' h]).cutUpto (m := s) (by omega))
  have hs3 : (s : Int) ≤ ((n - 2 : Nat) : Int) := by omega
  have HU := Lib.hid (slc_upto b o' (n - 2) (c - 2) s s (by omega) rfl (by omega))
  clear hb hcc hs hr hs1
  go_enter Tryz.func62, Tryz.ntmps62
  go_wp2_with (refine slc_wp rfl _ _ _ _ _ rfl _ (HR.out _) ?_; refine Hid.out ?_)
  refine Lib.hid ?_
  go_wp2_with (refine slc_wp rfl _ _ _ _ _ rfl _ (HU.out _) ?_; refine Hid.out ?_)
  refine Lib.hid ?_
  go_wp2_with fail
  go_ret2
  exact ⟨⟨_, rfl, HB.out⟩, rfl⟩

/-- where the parsing stands -/
def ParT (w : World) (R : List Ob × Int) (v0 v4 : Value) (wr : World) : Prop :=
  ∃ A n c xs f LA q lc os, v0 = .slice A n c ∧ v4 = .slice LA q lc ∧ Bs wr w.heap.size A n xs ∧ n ≤ c ∧ c ≤ 9223372036854775807 ∧ q + n ≤ 4294967296 ∧ n < f ∧ OwnO 131 wr w.heap.size LA q lc os ∧ (∀ o ∈ os, o.off wr (Value.slice LA q lc).ownBlock) ∧ Hid (R = joinO (os.map Od.v) (parseT f xs)) ∧ Below w.heap.size w wr ∧ Hid (∀ o ∈ os, o.from_ w.heap.size)

set_option maxRecDepth 100000 in
set_option maxHeartbeats 3200000 in
theorem tlparse_any (A : Option Addr) (n c : Nat) (xs : List Int) (w : World) (hn : n ≤ 4294967296) (hc : n ≤ c) (hc2 : c ≤ 9223372036854775807) (hb : Bs w w.heap.size A n xs) :
    Calls Tryz.prog 51 #[.slice A n c] w (GivesO w (parseTL xs)) := by
  obtain ⟨i0, hi, hz0, hz1, hz2⟩ := info_parts info_tlv
  have HX := Lib.hid (show parseTL xs = joinO (List.map Od.v []) (parseT (n + 1) xs) by
    unfold parseTL
    rw [hb.len]
    exact (joinO_nil _ (parseT_err_nil _ xs)).symm)
  generalize parseTL xs = R at *
  have hrel0 : ParT w R (.slice A n c) (.slice none 0 0) w := ⟨A, n, c, xs, n + 1, none, 0, 0, [], rfl, rfl, hb, hc, hc2, by omega, by omega, OwnO.none_ _ _ _, (fun o h => by cases h), HX, Below.refl _ _, Lib.hid (fun o h => by cases h)⟩
  have HREL := Lib.hid hrel0
  clear hb HX hrel0
  go_enter Tryz.func51, Tryz.ntmps51
  go_wp2_with fail
  refine wp_scope_head 0 (fun a' w' => ∃ (v0 v4 u1 u5 u6 u7 u8 u9 u10 u11 u12 u13 u14 u15 u16 u17 u18 u19 u20 u21 u22 u23 u24 u25 u26 u27 u28 u29 u30 u31 u32 u33 u34 u35 u36 u37 u38 u39 u40 : Value), a' = { tmps := #[v0, u1, .slice none 0 0, .int .i64 0, v4, u5, u6, u7, u8, u9, u10, u11, u12, u13, u14, u15, u16, u17, u18, u19, u20, u21, u22, u23, u24, u25, u26, u27, u28, u29, u30, u31, u32, u33, u34, u35, u36, u37, u38, u39, u40], defers := [] } ∧ ParT w R v0 v4 w') (fun a' _ => valLen (a'.tmps.getD 0 undef)) rfl ?ghead ?gpass
  case ghead =>
    intro Q' h
    go_wp2_with fail
    go_step3
    rename_i K hK
    exact hK _ _ (h _ _ ⟨_, _, _, _, _, _, _, _, _, _, _, _, _, _, _, _, _, _, _, _, _, _, _, _, _, _, _, _, _, _, _, _, _, _, _, _, _, _, _, rfl, HREL.out⟩)
  case gpass =>
    rintro a1 wr ⟨v0, v4, u1, u5, u6, u7, u8, u9, u10, u11, u12, u13, u14, u15, u16, u17, u18, u19, u20, u21, u22, u23, u24, u25, u26, u27, u28, u29, u30, u31, u32, u33, u34, u35, u36, u37, u38, u39, u40, rfl, hrel⟩
    obtain ⟨A, n, c, xs, f, LA, q, lc, os, rfl, rfl, hb, hc, hc2, hq, hf, hown, hoff, HR, hB, HF⟩ := hrel
    by_cases h0 : 0 < n
    · obtain ⟨f, rfl⟩ : ∃ f', f = f' + 1 := ⟨f - 1, by omega⟩
      have hsz := hB.size
      have hxne : xs ≠ [] := fun e => by have := hb.len; rw [e] at this; simp at this; omega
      have hbm := hb.more hsz
      have hn1 := hb.nonneg 0
      have hn2 := hb.nonneg 1
      obtain ⟨b, o, rfl, hbl, hcc⟩ := hb.mem h0
      have c1 : wr.cell? ⟨b, o, none⟩ = some (.int .u8 (xs.getD 0 0)) := hcc 0 h0
      have hne0 : ((n : Int) == 0) = false := by simp; omega
      have HOWN := Lib.hid hown
      have HOFF := Lib.hid hoff
      have HB := Lib.hid hb
      by_cases hz : xs.getD 0 0 = 0
      · have HR2 := Lib.hid (HR.out.trans (by rw [parseT_zero hxne hz]))
        rw [hz] at c1
        obtain ⟨o', hr, ho'⟩ := slcT_from b o n c 1 1 hc rfl (by omega)
        have HS := Lib.hid hr
        have HC := Lib.hid (hb.cutFrom (A' := some ⟨b, o', none⟩) (s := 1) (by omega) fun h => by rw [ho' h])
        clear HR hown hoff hb hbm hcc hn1 hn2 hz hxne hr ho'
        go_wp2_with (refine slc_wp rfl _ _ _ _ _ rfl _ (HS.out _) ?_; refine Hid.out ?_)
        refine Lib.hid ?_
        go_wp2_with fail
        go_step3
        refine ⟨rfl, ⟨_, _, _, _, _, _, _, _, _, _, _, _, _, _, _, _, _, _, _, _, _, _, _, _, _, _, _, _, _, _, _, _, _, _, _, _, _, _, _, rfl, ⟨_, n - 1, c - 1, xs.drop 1, f, LA, q, lc, os, rfl, rfl, HC.out, by omega, by omega, by omega, by omega, HOWN.out, HOFF.out, HR2, hB, HF⟩⟩, ?_⟩
        simp only [valLen]
        show n - 1 < n
        omega
      · have hzb : (xs.getD 0 0 == 0) = false := by simpa using hz
        by_cases hs : shortT xs
        · have HR2 := Lib.hid (show R = ([], 3) by rw [HR.out, parseT_short hxne hz hs]; simp [joinO])
          have HBN := Lib.hid (behind_no (some ⟨b, o, none⟩) n c xs wr (by omega) hc hc2 h0 hbm hs)
          generalize xs.getD 0 0 = x0 at *
          clear HR hown hoff hb hbm hcc hn2 hz hxne hs
          go_wp2_with fail
          refine HBN.out.mono ?_
          rintro e w' ⟨rfl, rfl⟩
          go_wp2_with fail
          simp only [Exit.jump]
          go_ret2
          exact GivesO.err 3 HR2.out hB
        · obtain ⟨s, hs1⟩ : ∃ s : Nat, xs.getD 1 0 = (s : Nat) := ⟨(xs.getD 1 0).toNat, by omega⟩
          have hs9 := hs
          unfold shortT at hs9
          rw [hb.len, hs1] at hs9
          have hsn : 2 + s ≤ n := by omega
          have hs255 : s < 256 := by omega
          have HBY := Lib.hid (behind_yes (some ⟨b, o, none⟩) n c xs wr (by omega) hc hc2 h0 hbm hs s hs1)
          have HR1 := Lib.hid (HR.out.trans (by rw [parseT_next hxne hz hs, hs1, Int.toNat_natCast]))
          obtain ⟨o', hr, ho'⟩ := slcT_from b o n c (2 + s) ((2 : Int) + s) hc (by omega) hsn
          have HS := Lib.hid hr
          have HC := Lib.hid (hb.cutFrom (A' := some ⟨b, o', none⟩) (s := 2 + s) hsn fun h => by rw [ho' h])
          have hkp : keepT xs = if xs.getD 0 0 = 4 then [] else [(xs.getD 0 0, (xs.drop 2).take s)] := by unfold keepT; rw [hs1, Int.toNat_natCast]
          have HKP := Lib.hid hkp
          generalize xs.getD 0 0 = x0 at *
          clear HR hown hoff hb hbm hcc hn2 hs1 hs hs9 hr ho' hxne hkp
          go_wp2_with fail
          refine HBY.out.mono ?_
          rintro e w' ⟨⟨AD, rfl, hbd⟩, hww⟩
          obtain rfl : wr = w' := hww.symm
          have HBD := Lib.hid hbd
          clear hbd
          go_wp2_with (refine slc_wp rfl _ _ _ _ _ rfl _ (HS.out _) ?_; refine Hid.out ?_)
          refine Lib.hid ?_
          by_cases h4 : x0 = 4
          · subst h4
            have HR2 := Lib.hid (show R = joinO (os.map Od.v) (parseT f (xs.drop (2 + s))) by
              have := HR1.out
              rw [HKP.out, if_pos rfl, joinO_join, List.append_nil] at this
              exact this)
            go_wp2_with fail
            go_step3
            refine ⟨rfl, ⟨_, _, _, _, _, _, _, _, _, _, _, _, _, _, _, _, _, _, _, _, _, _, _, _, _, _, _, _, _, _, _, _, _, _, _, _, _, _, _, rfl, ⟨_, n - (2 + s), c - (2 + s), xs.drop (2 + s), f, LA, q, lc, os, rfl, rfl, HC.out, by omega, by omega, by omega, by omega, HOWN.out, HOFF.out, HR2, hB, HF⟩⟩, ?_⟩
            simp only [valLen]
            show n - (2 + s) < n
            omega
          · have h4b : (x0 != 4) = true := by simpa using h4
            have HR2 := Lib.hid (show R = joinO (os.map Od.v ++ [(x0, (xs.drop 2).take s)]) (parseT f (xs.drop (2 + s))) by
              have := HR1.out
              rw [HKP.out, if_neg h4, joinO_join] at this
              exact this)
            have HK := Lib.hid (And.intro h4 hz)
            have hltO := HOWN.out.lt
            clear h4 hz
            go_wp2_with fail
            refine (clone_any AD s (c - 2) ((xs.drop 2).take s) wr (by omega) HBD.out).mono ?_
            rintro e w1 ⟨A3, c3, rfl, hown3, hB3⟩
            have hds : ((xs.drop 2).take s).length = s := HBD.out.len
            rw [hds] at hown3 ⊢
            have hi64 : i64ok x0 := by unfold i64ok; omega
            have hoff3 := Od.off.own (k := x0) (X := (Value.slice LA q lc).ownBlock) hi64 (by omega) hown3 (fun x e => (hltO x e).2)
            have HF3 := Lib.hid (Od.from_.own (k := x0) hown3 hsz)
            generalize (xs.drop 2).take s = ys at *
            have hl1 := Low.alloc w1 (.cells #[.int .i64 x0, .slice A3 s c3] 131)
            have hown1 := HOWN.out.below (Low.trans hB3 hl1)
            have hsrc := Os.one w1 131 ⟨x0, A3, s, c3, ys⟩ (B := w1.heap.size + 1) hoff3.ok (by omega)
            have HO3 : Hid (∀ o ∈ os, o.off _ (Value.slice LA q lc).ownBlock) := Lib.hid fun o h => (HOFF.out o h).below (Low.trans hB3 hl1)
            have HO4 := Lib.hid (hoff3.below hl1)
            have HLR := Lib.hid ((Low.trans hB3 hl1).mono hsz)
            have HB3 := Lib.hid (hB.trans HLR.out)
            clear hown3 hoff3 hl1 hB3 hds hi64
            go_wp2_with (at_builtin; refine wpList_append_os rfl _ _ 28 rfl w.heap.size 131 i0 Tryz.underlying28 hi hz0 hz1 hz2 LA q lc os rfl hown1 _ 1 1 (w1.heap.size + 1) [⟨x0, A3, s, c3, ys⟩] rfl hsrc (by omega) HB3.out.size ?_; intro A2 c2 w2 hown2 hgr hob; refine Hid.out ?_)
            refine Lib.hid ?_
            have hB4 : Below w.heap.size w w2 := HB3.out.grown hgr HB3.out.size fun x e => (hltO x e).1
            have hBr : Below w.heap.size wr w2 := HLR.out.grown hgr HB3.out.size fun x e => (hltO x e).1
            have HCC := Lib.hid (HC.out.below hBr)
            have HO5 : Hid (∀ o ∈ os ++ [⟨x0, A3, s, c3, ys⟩], Od.off w2 (Value.slice A2 (q + 1) c2).ownBlock o) := Lib.hid fun o h => by
              rcases List.mem_append.1 h with h | h
              · exact (HO3.out o h).grown hgr hob
              · obtain rfl : o = ⟨x0, A3, s, c3, ys⟩ := by simpa using h
                exact HO4.out.grown hgr hob
            have HF4 : Hid (∀ o ∈ os ++ [⟨x0, A3, s, c3, ys⟩], Od.from_ w.heap.size o) := Lib.hid fun o h => by
              rcases List.mem_append.1 h with h | h
              · exact HF.out o h
              · obtain rfl : o = ⟨x0, A3, s, c3, ys⟩ := by simpa using h
                exact HF3.out
            have HOWN2 := Lib.hid hown2
            clear hown2 hgr hob hsrc hown1 hBr
            go_wp2_with fail
            go_step3
            refine ⟨rfl, ⟨_, _, _, _, _, _, _, _, _, _, _, _, _, _, _, _, _, _, _, _, _, _, _, _, _, _, _, _, _, _, _, _, _, _, _, _, _, _, _, rfl, ⟨_, n - (2 + s), c - (2 + s), xs.drop (2 + s), f, A2, q + 1, c2, os ++ [⟨x0, A3, s, c3, ys⟩], rfl, rfl, HCC.out, by omega, by omega, by omega, by omega, HOWN2.out, HO5.out, Lib.hid ?_, hB4, HF4⟩⟩, ?_⟩
            · rw [HR2.out, List.map_append]
              rfl
            · simp only [valLen]
              show n - (2 + s) < n
              omega
    · obtain rfl : n = 0 := by omega
      obtain rfl : xs = [] := List.eq_nil_of_length_eq_zero hb.len
      have HRR := Lib.hid (show R = (os.map Od.v, 0) by
        rw [HR.out]
        cases f with
        | zero => omega
        | succ f => simp [parseT, joinO])
      have hlen := hown.len
      have HOWN := Lib.hid hown
      have HOFF := Lib.hid hoff
      clear HR hown hoff hb
      go_wp2_with fail
      simp only [Exit.jump]
      go_ret2
      rw [HRR.out]
      refine ⟨LA, lc, os, ?_, rfl, ?_, hB, by simpa [hlen] using OFrom.own HOWN.out (Nat.le_refl _) HF.out⟩
      · simp [hlen]
      · simpa [hlen] using HOWN.out.lies (Nat.le_refl _) fun o h => (HOFF.out o h).ok
end Go.Proofs.YtjafjapnmffohaaGreatDoor

namespace Go.Proofs.YtjafjapnmffohaaGreatDoor
open Go.RowKit
set_option linter.unusedVariables false

theorem drop_ne {xs : List Int} {n p : Nat} (hl : xs.length = n) (hp : p < n) : xs.drop p ≠ [] := fun e => by
  have := congrArg List.length e
  rw [List.length_drop, hl] at this
  simp at this
  omega
theorem keepT_at (xs : List Int) (p s : Nat) (hs : xs.getD (p + 1) 0 = (s : Nat)) : keepT (xs.drop p) = if xs.getD p 0 = 4 then [] else [(xs.getD p 0, (xs.drop (p + 2)).take s)] := by
  unfold keepT
  rw [getD_drop, getD_drop, List.drop_drop, hs, Int.toNat_natCast]
  rfl
/-- where the document's parsing stands -/
def RarT (w : World) (R : List Ob × Int) (n : Nat) (xs : List Int) (v4 v5 : Value) (wr : World) : Prop :=
  ∃ p f LA q lc os, p ≤ n ∧ v5 = .int .i64 (p : Nat) ∧ v4 = .slice LA q lc ∧ q ≤ p ∧ n - p < f ∧ OwnO 131 wr w.heap.size LA q lc os ∧ (∀ o ∈ os, o.off wr (Value.slice LA q lc).ownBlock) ∧ Hid (R = joinO (os.map Od.v) (parseT f (xs.drop p))) ∧ Below w.heap.size w wr ∧ Hid (∀ o ∈ os, o.from_ w.heap.size)

set_option maxRecDepth 100000 in
set_option maxHeartbeats 3200000 in
theorem rtlparse_any (A : Option Addr) (n c : Nat) (xs : List Int) (w : World) (hn : n ≤ 4294967295) (hc : n ≤ c) (hc2 : c ≤ 9223372036854775807) (hb : Bs w w.heap.size A n xs) :
    Calls Tryz.prog 54 #[.slice A n c] w (GivesO w (parseTL xs)) := by
  obtain ⟨i0, hi, hz0, hz1, hz2⟩ := info_parts info_tlv
  obtain ⟨i5, h5, h50, h51, h52⟩ := info_parts info5
  have HX := Lib.hid (show parseTL xs = joinO (List.map Od.v []) (parseT (n + 1) xs) by
    unfold parseTL
    rw [hb.len]
    exact (joinO_nil _ (parseT_err_nil _ xs)).symm)
  generalize parseTL xs = R at *
  have hrel0 : RarT w R n xs (.slice none 0 0) (.int .i64 0) w := ⟨0, n + 1, none, 0, 0, [], Nat.zero_le _, rfl, rfl, Nat.le_refl _, by omega, OwnO.none_ _ _ _, (fun o h => by cases h), HX, Below.refl _ _, Lib.hid (fun o h => by cases h)⟩
  have HREL := Lib.hid hrel0
  have HBB := Lib.hid hb
  have hlen := hb.len
  clear hb HX hrel0
  go_enter Tryz.func54, Tryz.ntmps54
  go_wp2_with fail
  go_loopw [4, 5] (fun v4 v5 wr => RarT w R n xs v4 v5 wr) (fun _ v5 _ => n - (intOf v5).toNat)
  case atStart => exact HREL.out
  case round =>
    obtain ⟨p, f, LA, q, lc, os, hp, rfl, rfl, hq, hf, hown, hoff, HR, hB, HF⟩ := hrel
    by_cases hpn : p < n
    · obtain ⟨f, rfl⟩ : ∃ f', f = f' + 1 := ⟨f - 1, by omega⟩
      have hsz := hB.size
      have hxne := drop_ne hlen hpn
      have hn1 := HBB.out.nonneg p
      have hn2 := HBB.out.nonneg (p + 1)
      obtain ⟨b, o, rfl, hbl, hcc⟩ := HBB.out.mem (by omega)
      have q1 := hcc p hpn
      have c1 := (hB.cell (p := ⟨b, o + p, none⟩) hbl).trans q1
      have HOWN := Lib.hid hown
      have HOFF := Lib.hid hoff
      have hg0 : (xs.drop p).getD 0 0 = xs.getD p 0 := by rw [getD_drop]; rfl
      have hg1 : (xs.drop p).getD 1 0 = xs.getD (p + 1) 0 := getD_drop _ _ _
      by_cases hz : xs.getD p 0 = 0
      · have HR2 := Lib.hid (HR.out.trans (by rw [parseT_zero hxne (by rw [hg0]; exact hz), List.drop_drop]))
        rw [hz] at c1
        clear HR hown hoff hcc hn1 hn2 hz hxne q1 hg0 hg1
        go_wp2_with fail
        refine ⟨⟨p + 1, f, LA, q, lc, os, by omega, ?_, rfl, by omega, by omega, HOWN.out, HOFF.out, HR2, hB, HF⟩, by simp [intOf]; omega⟩
        exact congrArg (Value.int .i64) (by omega)
      · have hzb : (xs.getD p 0 == 0) = false := by simpa using hz
        have hz2' : (xs.drop p).getD 0 0 ≠ 0 := by rw [hg0]; exact hz
        by_cases h1 : p = n - 1
        · have hsh : shortT (xs.drop p) := by unfold shortT; rw [List.length_drop, hlen]; omega
          have HR2 := Lib.hid (show R = ([], 3) by rw [HR.out, parseT_short hxne hz2' hsh]; simp [joinO])
          have h1b : ((p : Int) == (n : Int) - 1) = true := by simp; omega
          generalize xs.getD p 0 = x0 at *
          clear HR hown hoff hcc hn2 hz hxne hsh q1 hg0 hg1 hz2' h1
          go_wp2_with fail
          go_ret2
          exact GivesO.err 3 HR2.out hB
        · have h1b : ((p : Int) == (n : Int) - 1) = false := by simp; omega
          have hp1 : p + 1 < n := by omega
          have q2 := hcc (p + 1) hp1
          have c2 := (hB.cell (p := ⟨b, o + (p + 1), none⟩) hbl).trans q2
          by_cases h2 : (n : Int) - p - 2 < xs.getD (p + 1) 0
          · have hsh : shortT (xs.drop p) := by unfold shortT; rw [List.length_drop, hlen, hg1]; omega
            have HR2 := Lib.hid (show R = ([], 3) by rw [HR.out, parseT_short hxne hz2' hsh]; simp [joinO])
            generalize xs.getD p 0 = x0 at *
            generalize xs.getD (p + 1) 0 = x1 at *
            clear HR hown hoff hcc hz hxne hsh q1 q2 hg0 hg1 hz2'
            go_wp2_with fail
            go_ret2
            exact GivesO.err 3 HR2.out hB
          · obtain ⟨s, hs1⟩ : ∃ s : Nat, xs.getD (p + 1) 0 = (s : Nat) := ⟨(xs.getD (p + 1) 0).toNat, by omega⟩
            have hsn : p + 2 + s ≤ n := by omega
            have hs255 : s < 256 := by omega
            have hsh : ¬ shortT (xs.drop p) := by unfold shortT; rw [List.length_drop, hlen, hg1, hs1]; omega
            have HR1 := Lib.hid (HR.out.trans (by rw [parseT_next hxne hz2' hsh, hg1, hs1, Int.toNat_natCast, List.drop_drop]))
            have HKP := Lib.hid (keepT_at xs p s hs1)
            rw [hs1] at c2 h2
            generalize xs.getD p 0 = x0 at *
            clear HR hown hoff hcc hn2 hz2' hxne hsh q2 hg0 hg1 hs1
            by_cases h4 : x0 = 4
            · subst h4
              have HR2 := Lib.hid (show R = joinO (os.map Od.v) (parseT f (xs.drop (p + (2 + s)))) by
                have := HR1.out
                rw [HKP.out, if_pos rfl, joinO_join, List.append_nil] at this
                exact this)
              clear hz
              go_wp2_with fail
              refine ⟨⟨p + (2 + s), f, LA, q, lc, os, by omega, ?_, rfl, by omega, by omega, HOWN.out, HOFF.out, HR2, hB, HF⟩, by simp [intOf]; omega⟩
              exact congrArg (Value.int .i64) (by omega)
            · have h4b : (x0 != 4) = true := by simpa using h4
              have HR2 := Lib.hid (show R = joinO (os.map Od.v ++ [(x0, (xs.drop (p + 2)).take s)]) (parseT f (xs.drop (p + (2 + s)))) by
                have := HR1.out
                rw [HKP.out, if_neg h4, joinO_join] at this
                exact this)
              obtain ⟨A8, hr8, hA8⟩ := slc_both b o n c (p + 2) (p + 2 + s) ((p : Int) + 2) ((p : Int) + 2 + s) hc (by omega) (by omega) (by omega) hsn
              have HS8 := Lib.hid hr8
              have hcut := HBB.out.cut (A' := A8) (s := p + 2) (m := p + 2 + s) (by omega) hsn hA8
              rw [show p + 2 + s - (p + 2) = s by omega] at hcut
              have hys : (xs.take (p + 2 + s)).drop (p + 2) = (xs.drop (p + 2)).take s := by
                rw [List.drop_take]
                congr 1
                omega
              rw [hys] at hcut
              have HCUT := Lib.hid hcut
              have hds := hcut.len
              generalize (xs.drop (p + 2)).take s = ys at *
              have hltO := HOWN.out.lt
              have HK := Lib.hid (And.intro h4 hz)
              clear h4 hz hr8 hcut hA8 hys
              go_wp2_with fail
              refine wp_region_planS (fun y => Below w.heap.size w y) (.rd 0 (.rd 1 (.rd 2 (.rd 3 (.rd 4 (.rd 5 (.rd 7 (.rd 8 (.rd 9 (.rd 10 (.rd 11 (.act 6 (.act 12 (.rd 13 (.act 14 (.act 15 (.rd 16 (.done)))))))))))))))))) (by kernel_rfl) (by kernel_rfl) (fun _ _ d _ _ h => by cases d <;> exact h) (by kernel_rfl) (Below.drew hB) ?_
              replace hB := Below.drew hB
              replace HOWN : Hid (OwnO 131 wr.drew w.heap.size LA q lc os) := HOWN
              replace HOFF : Hid (∀ o ∈ os, o.off wr.drew (Value.slice LA q lc).ownBlock) := HOFF
              replace hsz : w.heap.size ≤ wr.drew.heap.size := hsz
              replace hltO : ∀ k, (Value.slice LA q lc).ownBlock = some k → w.heap.size ≤ k ∧ k < wr.drew.heap.size := hltO
              clear c1 c2
              generalize wr.drew = u at *
              have hwx : IntKind.i64.wrap x0 = x0 := wraps_i64 _ (by omega) (by omega)
              have hw1 : IntKind.i64.wrap ((p : Int) + 2) = p + 2 := wraps_i64 _ (by omega) (by omega)
              iterate 10 (refine walkS_read (v := _) rfl (by rfl) (by
                intro y hy
                have e1 := (hy.cell (p := ⟨b, o + p, none⟩) hbl).trans q1
                go_simp; try rfl) ?_; simp only [Act.put, List.setIfInBounds_toArray, List.set_cons_zero, List.set_cons_succ])
              refine walkS_read (v := .slice A8 (p + 2 + s - (p + 2)) (c - (p + 2))) rfl (by rfl) (fun y hy => slc_exec (HS8.out y)) ?_
              simp only [Act.put, List.setIfInBounds_toArray, List.set_cons_zero, List.set_cons_succ]
              rw [show p + 2 + s - (p + 2) = s by omega]
              refine walkS_act rfl (by rfl) (fun K hK => ?_)
              go_simp
              have hl1 := Low.alloc u (.cells #[] 5)
              have hB1 := hB.trans (hl1.mono hsz)
              refine hK _ _ hB1 ?_
              clear hK K
              have hOf := OwnB.fresh (base := u.heap.size) u 5 (Nat.le_refl _)
              have hsz1 : u.heap.size ≤ (u.alloc (.cells #[] 5)).heap.size := hl1.size
              generalize hu1 : u.alloc (.cells #[] 5) = u1 at *
              have hsrc := HCUT.out.below hB1
              refine walkS_act rfl (by rfl) (fun K hK => ?_)
              refine wp_append_bs (.tmp 57) (.tmp 62) 22 rfl u.heap.size 5 i5 Tryz.underlying22 h5 h50 h51 h52 _ 0 0 [] rfl hOf A8 s (c - (p + 2)) w.heap.size ys rfl hsrc (by omega) hsz1 ?_
              intro A3 c3 u2 hown3 hgr hob
              have hl3 : Low u u2 := Below.grown hl1 hgr hsz1 (fun x e => (hOf.lt x e).1)
              have hB2 := hB.trans (hl3.mono hsz)
              refine hK _ _ hB2 ?_
              clear hK K hgr hob hsrc hOf hl1 hB1 hsz1 hu1
              rw [Nat.zero_add, List.nil_append] at hown3
              simp only [Act.put, List.setIfInBounds_toArray, List.set_cons_zero, List.set_cons_succ, Nat.zero_add]
              iterate 1 (refine walkS_read (v := _) rfl (by rfl) (by intro y hy; go_simp; try rfl) ?_; simp only [Act.put, List.setIfInBounds_toArray, List.set_cons_zero, List.set_cons_succ])
              have hi64 : i64ok x0 := by unfold i64ok; omega
              have hoff3 := Od.off.own (k := x0) (X := (Value.slice LA q lc).ownBlock) hi64 (by omega) hown3 (fun x e => (hltO x e).2)
              have HF3 := Lib.hid (Od.from_.own (k := x0) hown3 hsz)
              have hl4 := Low.alloc u2 (.cells #[.int .i64 x0, .slice A3 s c3] 131)
              have hB3 := hB2.trans (hl4.mono hB2.size)
              refine walkS_act rfl (by rfl) (fun K hK => ?_)
              go_simp
              refine hK _ _ hB3 ?_
              clear hK K
              have hown1 := HOWN.out.below (Low.trans hl3 hl4)
              have hsrc := Os.one u2 131 ⟨x0, A3, s, c3, ys⟩ (B := u2.heap.size + 1) hoff3.ok (by omega)
              have HO3 : Hid (∀ o ∈ os, o.off _ (Value.slice LA q lc).ownBlock) := Lib.hid fun o h => (HOFF.out o h).below (Low.trans hl3 hl4)
              have HO4 := Lib.hid (hoff3.below hl4)
              clear hown3 hoff3 hl3 hl4
              refine walkS_act rfl (by rfl) (fun K hK => ?_)
              refine wp_append_os (.tmp 51) (.tmp 65) 28 rfl w.heap.size 131 i0 Tryz.underlying28 hi hz0 hz1 hz2 LA q lc os rfl hown1 _ 1 1 (u2.heap.size + 1) [⟨x0, A3, s, c3, ys⟩] rfl hsrc (by omega) hB3.size ?_
              intro A2 c2 w2 hown2 hgr hob
              have hB4 : Below w.heap.size w w2 := hB3.grown hgr hB3.size fun x e => (hltO x e).1
              refine hK _ _ hB4 ?_
              clear hK K
              simp only [Act.put, List.setIfInBounds_toArray, List.set_cons_zero, List.set_cons_succ]
              iterate 1 (refine walkS_read (v := _) rfl (by rfl) (by intro y hy; go_simp; try rfl) ?_; simp only [Act.put, List.setIfInBounds_toArray, List.set_cons_zero, List.set_cons_succ])
              unfold walkS
              have HO5 : Hid (∀ o ∈ os ++ [⟨x0, A3, s, c3, ys⟩], Od.off w2 (Value.slice A2 (q + 1) c2).ownBlock o) := Lib.hid fun o h => by
                rcases List.mem_append.1 h with h | h
                · exact (HO3.out o h).grown hgr hob
                · obtain rfl : o = ⟨x0, A3, s, c3, ys⟩ := by simpa using h
                  exact HO4.out.grown hgr hob
              have HF4 : Hid (∀ o ∈ os ++ [⟨x0, A3, s, c3, ys⟩], Od.from_ w.heap.size o) := Lib.hid fun o h => by
                rcases List.mem_append.1 h with h | h
                · exact HF.out o h
                · obtain rfl : o = ⟨x0, A3, s, c3, ys⟩ := by simpa using h
                  exact HF3.out
              have HOWN2 := Lib.hid hown2
              clear hown2 hgr hob hsrc hown1 hB3 hB2 hB q1
              go_wp2_with fail
              refine ⟨⟨p + (2 + s), f, A2, q + 1, c2, os ++ [⟨x0, A3, s, c3, ys⟩], by omega, ?_, rfl, by omega, by omega, HOWN2.out, HO5.out, Lib.hid ?_, hB4, HF4⟩, by simp [intOf]; omega⟩
              · exact congrArg (Value.int .i64) (by omega)
              · rw [HR2.out, List.map_append]
                rfl
    · obtain rfl : p = n := by omega
      have HRR := Lib.hid (show R = (os.map Od.v, 0) by
        rw [HR.out, List.drop_of_length_le (by omega)]
        cases f with
        | zero => omega
        | succ f => simp [parseT, joinO])
      have hlo := hown.len
      have HOWN := Lib.hid hown
      have HOFF := Lib.hid hoff
      clear HR hown hoff
      go_wp2_with fail
      go_ret2
      rw [HRR.out]
      refine ⟨LA, lc, os, ?_, rfl, ?_, hB, by simpa [hlo] using OFrom.own HOWN.out (Nat.le_refl _) HF.out⟩
      · simp [hlo]
      · simpa [hlo] using HOWN.out.lies (Nat.le_refl _) fun o h => (HOFF.out o h).ok
end Go.Proofs.YtjafjapnmffohaaGreatDoor

namespace Go.Proofs.YtjafjapnmffohaaGreatDoor
open Go.RowKit
set_option linter.unusedVariables false

end Go.Proofs.YtjafjapnmffohaaGreatDoor

namespace Go.Proofs.YtjafjapnmffohaaGreatDoor
open Go.RowKit
set_option linter.unusedVariables false

theorem tlex_put : putT [(5, [9])] = [5, 1, 9, 4, 3, 0, 0, 0] := by decide
theorem tlex_can : canT [(5, [9])] = 0 := by decide
theorem tlex_parse : parseTL [0, 4, 0, 7] = ([], 3) := by decide
theorem tlex_pad : (padT 9).length = 9 := by decide
theorem tlex_arg : canT [(4, [])] = 2 := by decide

end Go.Proofs.YtjafjapnmffohaaGreatDoor
