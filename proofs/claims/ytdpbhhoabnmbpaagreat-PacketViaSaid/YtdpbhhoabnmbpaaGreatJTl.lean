/- Texts joined.
  The page's words on the parts of routing headers, as functions of lists: whether they can be, their bytes, bytes that are nothing, the parts of bytes; what was put is parsed as what it was. No program here.
  What tlv.Can, and the document's own, answer: whether parts can be. Condition: at most 2^47 parts.
  What tlv.Pad, the document's own Pad and bytes.Clone answer: bytes that are nothing; the same bytes in new memory. Conditions: the number is an int; at most 2^47 bytes.
  What tlv.Put, and the document's own, answer: the bytes of parts. Condition: at most 2^47 parts.
  What the document's own Put answers: the bytes of parts. Condition: at most 2^47 parts.
  What tlv.behind and tlv.Parse answer: the parts of bytes. Condition: at most 2^32 bytes.
  What the document's own Parse answers: the parts of bytes. Condition: at most 2^32 bytes.
  What the document's own Same (of parts), and tlv.Find, answer. Condition: at most 2^47 parts.
  What the laws' own small test of parts answers: true. No condition.
-/
import Derived.Test.YtdpbhhoabnmbpaaGreatJTp
import Derived.Test.YtdpbhhoabnmbpaaGreatVals
import Derived.WalkMore
import Derived.Test.YtdpbhhoabnmbpaaGreatApp2
import Derived.Lib.AppendZerosOnto
import Derived.Lib.AppendZeros
import Derived.Lib.SliceRun
import Derived.Test.YtdpbhhoabnmbpaaGreatJReg
import Derived.Test.YtdpbhhoabnmbpaaGreatSlc
import Derived.ScopeJumps
import Derived.Lib.Bytes
import Derived.Test.YtdpbhhoabnmbpaaGreatJOct
set_option maxRecDepth 100000
namespace Go.Proofs.YtdpbhhoabnmbpaaGreat
open Go.RowKit
set_option linter.unusedVariables false

/-- m bytes that are nothing, up to 257 -/
def nilT : Nat → List Int
  | 0 => []
  | 1 => [0]
  | k + 2 => [4, (k : Int)] ++ List.replicate k 0
def padT (n : Int) : List Int := nilT (min n.toNat 257)
theorem nilT_len : ∀ m, (nilT m).length = m
  | 0 => rfl
  | 1 => rfl
  | k + 2 => by simp [nilT]
def badT (k : Int) : Prop := k < 1 ∨ 255 < k ∨ k = 4
instance (k : Int) : Decidable (badT k) := by unfold badT; infer_instance
/-- part by part -/
def chkT : List Ob → Int
  | [] => 0
  | o :: l => if badT o.1 then 2 else if 255 < o.2.length then 4 else chkT l
def sizeT (o : Ob) : Nat := 2 + o.2.length
def sumT (l : List Ob) : Nat := (l.map sizeT).sum
def canT (l : List Ob) : Int := if chkT l = 0 then (if 256 < sumT l then 8 else 0) else chkT l
def partT (o : Ob) : List Int := [o.1 % 256, (o.2.length : Int) % 256] ++ o.2
def flatT (l : List Ob) : List Int := l.flatMap partT
def fillT (n : Nat) : Nat := (8 - n % 8) % 8
def putT (l : List Ob) : List Int := if canT l = 0 then flatT l ++ nilT (fillT (flatT l).length) else []

theorem chkT_err : ∀ l : List Ob, chkT l = 0 ∨ chkT l = 2 ∨ chkT l = 4
  | [] => .inl rfl
  | o :: l => by
    unfold chkT
    split
    · exact .inr (.inl rfl)
    · split
      · exact .inr (.inr rfl)
      · exact chkT_err l
theorem canT_err (l : List Ob) : 0 ≤ canT l ∧ canT l ≤ 8 := by
  unfold canT
  rcases chkT_err l with h | h | h <;> rw [h] <;> repeat' split
  all_goals omega
theorem chkT_cons {o : Ob} {l : List Ob} (h : chkT (o :: l) = 0) : ¬ badT o.1 ∧ o.2.length ≤ 255 ∧ chkT l = 0 := by
  unfold chkT at h
  split at h
  · omega
  · split at h
    · omega
    · rename_i h1 h2
      exact ⟨h1, by omega, h⟩
theorem chkT_mem : ∀ {l : List Ob}, chkT l = 0 → ∀ o ∈ l, ¬ badT o.1 ∧ o.2.length ≤ 255
  | [], _, o, h => by cases h
  | a :: l, hl, o, h => by
    have hc := chkT_cons hl
    rcases List.mem_cons.1 h with rfl | h
    · exact ⟨hc.1, hc.2.1⟩
    · exact chkT_mem hc.2.2 o h
theorem canT_zero {l : List Ob} (h : canT l = 0) : chkT l = 0 ∧ sumT l ≤ 256 := by
  unfold canT at h
  split at h
  · rename_i h1
    split at h
    · omega
    · exact ⟨h1, by omega⟩
  · rename_i h1
    exact absurd h h1
theorem partT_len (o : Ob) : (partT o).length = sizeT o := by simp [partT, sizeT]; omega
theorem flatT_len : ∀ l : List Ob, (flatT l).length = sumT l
  | [] => rfl
  | o :: l => by
    have ih := flatT_len l
    have hp := partT_len o
    unfold flatT sumT at ih ⊢
    simp only [List.flatMap_cons, List.map_cons, List.sum_cons, List.length_append] at ih ⊢
    omega
theorem fillT_lt (n : Nat) : fillT n < 8 := by unfold fillT; omega
theorem fillT_mod (n : Nat) : (n + fillT n) % 8 = 0 := by unfold fillT; omega
theorem putT_len {l : List Ob} (h : canT l = 0) : (putT l).length ≤ 256 ∧ (putT l).length % 8 = 0 := by
  obtain ⟨h1, h2⟩ := canT_zero h
  have hl := flatT_len l
  unfold putT
  rw [if_pos h, List.length_append, nilT_len, hl]
  have := fillT_lt (sumT l)
  have := fillT_mod (sumT l)
  exact ⟨by omega, by omega⟩
theorem putT_none {l : List Ob} (h : canT l ≠ 0) : putT l = [] := by unfold putT; rw [if_neg h]
theorem putT_len_le (l : List Ob) : (putT l).length ≤ 256 := by
  by_cases h : canT l = 0
  · exact (putT_len h).1
  · rw [putT_none h]; simp
theorem flatT_take {l : List Ob} {i : Nat} (h : i < l.length) : flatT (l.take (i + 1)) = flatT (l.take i) ++ partT (l.getD i zeroB) := by
  unfold flatT
  rw [List.take_succ_eq_append_getElem h, List.flatMap_append]
  simp [List.getD, h]
theorem flatT_take_le (l : List Ob) (i : Nat) : (flatT (l.take i)).length ≤ (flatT l).length := by
  have h : flatT l = flatT (l.take i) ++ flatT (l.drop i) := by unfold flatT; rw [← List.flatMap_append, List.take_append_drop]
  rw [h, List.length_append]; omega
theorem sumT_take {l : List Ob} {i : Nat} (h : i < l.length) : sumT (l.take (i + 1)) = sumT (l.take i) + sizeT (l.getD i zeroB) := by
  unfold sumT
  rw [List.take_succ_eq_append_getElem h, List.map_append, List.sum_append]
  simp [List.getD, h]
theorem chkT_drop {l : List Ob} {i : Nat} (h : i < l.length) : chkT (l.drop i) = if badT (l.getD i zeroB).1 then 2 else if 255 < (l.getD i zeroB).2.length then 4 else chkT (l.drop (i + 1)) := by
  have e : l.drop i = l.getD i zeroB :: l.drop (i + 1) := by
    rw [List.drop_eq_getElem_cons h]
    simp [List.getD, h]
  rw [e]
  rfl

/-- the part that bytes, not empty and not beginning with 0, begin with: none, if it is nothing -/
def keepT (xs : List Int) : List Ob := if xs.getD 0 0 = 4 then [] else [(xs.getD 0 0, (xs.drop 2).take (xs.getD 1 0).toNat)]
def shortT (xs : List Int) : Prop := xs.length < 2 ∨ (xs.length : Int) - 2 < xs.getD 1 0
instance (xs : List Int) : Decidable (shortT xs) := by unfold shortT; infer_instance
/-- the parts of bytes, in at most f - 1 steps -/
def parseT : Nat → List Int → List Ob × Int
  | 0, _ => ([], 0)
  | f + 1, xs =>
    if xs = [] then ([], 0)
    else if xs.getD 0 0 = 0 then parseT f (xs.drop 1)
    else if shortT xs then ([], 3)
    else joinO (keepT xs) (parseT f (xs.drop (2 + (xs.getD 1 0).toNat)))
def parseTL (xs : List Int) : List Ob × Int := parseT (xs.length + 1) xs

theorem keepT_len (xs : List Int) : (keepT xs).length ≤ 1 := by unfold keepT; split <;> simp
theorem parseT_err : ∀ (f : Nat) (xs : List Int), (parseT f xs).2 = 0 ∨ ((parseT f xs).2 = 3 ∧ (parseT f xs).1 = [])
  | 0, xs => .inl rfl
  | f + 1, xs => by
    have i1 := parseT_err f (xs.drop 1)
    have i2 := parseT_err f (xs.drop (2 + (xs.getD 1 0).toNat))
    unfold parseT
    split
    · exact .inl rfl
    · split
      · exact i1
      · split
        · exact .inr ⟨rfl, rfl⟩
        · unfold joinO
          split
          · exact .inl rfl
          · rename_i h
            rcases i2 with i2 | i2
            · exact absurd i2 h
            · exact .inr ⟨i2.1, rfl⟩
theorem parseT_err_nil (f : Nat) (xs : List Int) (h : (parseT f xs).2 ≠ 0) : (parseT f xs).1 = [] := by
  rcases parseT_err f xs with e | e
  · exact absurd e h
  · exact e.2
theorem parseT_len : ∀ (f : Nat) (xs : List Int), (parseT f xs).1.length ≤ xs.length
  | 0, xs => by simp [parseT]
  | f + 1, xs => by
    have i1 := parseT_len f (xs.drop 1)
    have i2 := parseT_len f (xs.drop (2 + (xs.getD 1 0).toNat))
    have hk := keepT_len xs
    rw [List.length_drop] at i1 i2
    unfold parseT
    split
    · simp
    · rename_i h0
      have := List.length_pos_iff.2 h0
      split
      · omega
      · split
        · simp
        · unfold joinO
          split
          · simp only [List.length_append]; omega
          · simp

/-! what was put is parsed as what it was -/
/-- bytes say these parts -/
def Says (xs : List Int) (l : List Ob) : Prop := ∀ f, xs.length < f → parseT f xs = (l, 0)
theorem says_nil : Says [] [] := fun f h => by
  cases f with
  | zero => omega
  | succ f => rfl
theorem says_pad {xs : List Int} {l : List Ob} (h : Says xs l) : ∀ m, m ≤ 257 → Says (nilT m ++ xs) l
  | 0, _ => h
  | 1, _ => fun f hf => by
    cases f with
    | zero => omega
    | succ f =>
      have e : nilT 1 ++ xs = 0 :: xs := rfl
      rw [e] at hf ⊢
      unfold parseT
      rw [if_neg (by simp), if_pos (by simp)]
      exact h f (by simpa using hf)
  | k + 2, hk => fun f hf => by
    cases f with
    | zero => omega
    | succ f =>
      have e : nilT (k + 2) ++ xs = 4 :: (k : Int) :: (List.replicate k 0 ++ xs) := by simp [nilT]
      rw [e] at hf ⊢
      unfold parseT
      rw [if_neg (by simp), if_neg (by simp)]
      have hs : ¬ shortT (4 :: (k : Int) :: (List.replicate k 0 ++ xs)) := by
        unfold shortT
        simp only [List.length_cons, List.length_append, List.length_replicate, List.getD_cons_succ, List.getD_cons_zero]
        omega
      have hd : (4 :: (k : Int) :: (List.replicate k 0 ++ xs)).drop (2 + k) = xs := by
        rw [Nat.add_comm]
        simp
      have hg : ((4 :: (k : Int) :: (List.replicate k 0 ++ xs)).getD 1 0).toNat = k := by simp
      rw [if_neg hs, hg, hd, h f (by simp at hf; omega)]
      simp [keepT, joinO]
theorem says_part {xs : List Int} {l : List Ob} {o : Ob} (h : Says xs l) (hb : ¬ badT o.1) (hl : o.2.length ≤ 255) : Says (partT o ++ xs) (o :: l) := fun f hf => by
  obtain ⟨k, d⟩ := o
  unfold badT at hb
  dsimp only at hb hl
  cases f with
  | zero => omega
  | succ f =>
    have e : partT (k, d) ++ xs = k :: (d.length : Int) :: (d ++ xs) := by
      have e1 : k % 256 = k := by omega
      have e2 : (d.length : Int) % 256 = d.length := by omega
      simp [partT, e1, e2]
    rw [e] at hf ⊢
    unfold parseT
    rw [if_neg (by simp), if_neg (by simp; omega)]
    have hs : ¬ shortT (k :: (d.length : Int) :: (d ++ xs)) := by
      unfold shortT
      simp only [List.length_cons, List.length_append, List.getD_cons_succ, List.getD_cons_zero]
      omega
    have hd : (k :: (d.length : Int) :: (d ++ xs)).drop (2 + d.length) = xs := by
      rw [Nat.add_comm]
      simp
    have hg : ((k :: (d.length : Int) :: (d ++ xs)).getD 1 0).toNat = d.length := by simp
    rw [if_neg hs, hg, hd, h f (by simp at hf; omega)]
    have hk : keepT (k :: (d.length : Int) :: (d ++ xs)) = [(k, d)] := by
      unfold keepT
      rw [if_neg (by simp; omega), hg]
      simp
    rw [hk]
    simp [joinO]
theorem says_flat {xs : List Int} {l : List Ob} (h : Says xs l) : ∀ {k : List Ob}, chkT k = 0 → Says (flatT k ++ xs) (k ++ l)
  | [], _ => h
  | o :: k, hc => by
    obtain ⟨h1, h2, h3⟩ := chkT_cons hc
    have e : flatT (o :: k) ++ xs = partT o ++ (flatT k ++ xs) := by simp [flatT]
    rw [e]
    exact says_part (says_flat h h3) h1 h2
theorem parse_putT {l : List Ob} (h : canT l = 0) (n m : Int) : parseTL (padT n ++ putT l ++ padT m) = (l, 0) := by
  obtain ⟨h1, h2⟩ := canT_zero h
  have e : padT n ++ putT l ++ padT m = nilT (min n.toNat 257) ++ (flatT l ++ (nilT (fillT (flatT l).length) ++ (nilT (min m.toNat 257) ++ []))) := by
    unfold putT padT
    rw [if_pos h]
    simp
  have hs : Says (padT n ++ putT l ++ padT m) l := by
    rw [e]
    have := says_pad (says_flat (says_pad (says_pad says_nil (min m.toNat 257) (by omega)) (fillT (flatT l).length) (by have := fillT_lt (flatT l).length; omega)) h1) (min n.toNat 257) (by omega)
    simpa using this
  exact hs _ (Nat.lt_succ_self _)
end Go.Proofs.YtdpbhhoabnmbpaaGreat

namespace Go.Proofs.YtdpbhhoabnmbpaaGreat
open Go.RowKit
set_option linter.unusedVariables false

/-- what is left of 256, never below -1 -/
def leftT (s : Nat) : Int := if 256 < s then -1 else 256 - s
theorem leftT_range (s : Nat) : -1 ≤ leftT s ∧ leftT s ≤ 256 := by unfold leftT; split <;> omega
theorem leftT_step {s s' dn : Nat} (h : s' = s + (2 + dn)) : (if leftT s - 2 - dn < -1 then (-1 : Int) else leftT s - 2 - dn) = leftT s' := by
  subst h
  unfold leftT
  repeat' split
  all_goals omega
theorem bad_lt {k : Int} (h : k < 1) : badT k := .inl h
theorem bad_gt {k : Int} (h : 255 < k) : badT k := .inr (.inl h)
theorem bad_four : badT 4 := .inr (.inr rfl)

set_option maxRecDepth 100000 in
set_option maxHeartbeats 2000000 in
theorem tlcan_any (A : Option Addr) (n c : Nat) (os : List Od) (w : World) (hn : n ≤ 140737488355328) (ho : Os w w.heap.size A n os) :
    Calls Tryz.prog 106 #[.slice A n c] w fun e w' => e = .returned (.int .i64 (canT (os.map Od.v))) ∧ Below w.heap.size w w' := by
  have hlen := ho.len
  go_enter Tryz.func106, Tryz.ntmps106
  go_wp2_with fail
  go_loopw [3, 8] (fun s i wr => ∃ (m : Nat) (t : Int), m ≤ n ∧ i = .int .i64 m ∧ s = .int .i64 t ∧ (-1 ≤ t ∧ t ≤ 256) ∧ Below w.heap.size w wr ∧ Hid (t = leftT (sumT ((os.map Od.v).take m)) ∧ chkT (os.map Od.v) = chkT ((os.map Od.v).drop m))) (fun s i _ => n - (intOf i).toNat)
  case atStart => exact ⟨0, 256, Nat.zero_le _, rfl, rfl, by omega, Below.refl _ _, Lib.hid ⟨rfl, rfl⟩⟩
  case round =>
    obtain ⟨m, t, hm, rfl, rfl, ht, hB, HC⟩ := hrel
    by_cases hmn : m < n
    · obtain ⟨b, p, rfl, hbl, hc⟩ := ho.mem (by omega)
      obtain ⟨q1, q2⟩ := hc m hmn
      have hok := ho.at_ hmn
      have hcd := chkT_drop (l := os.map Od.v) (i := m) (by simp; omega)
      have hst := sumT_take (l := os.map Od.v) (i := m) (by simp; omega)
      rw [getV] at hst
      rw [getV, ← HC.out.2] at hcd
      obtain ⟨o, hoo⟩ : ∃ o, o = os.getD m zeroO := ⟨_, rfl⟩
      rw [← hoo] at q1 q2 hok hcd hst
      have c1 := (hB.cell (p := ⟨b, p + m * 2, none⟩) hbl).trans q1
      have c2 := (hB.cell (p := ⟨b, p + m * 2 + 1, none⟩) hbl).trans q2
      clear hc hoo q1 q2
      obtain ⟨kk, DA, dn, dc, d⟩ := o
      obtain ⟨hk, hdn, hbs⟩ := hok
      dsimp only at c1 c2 hk hdn hbs
      replace hcd : chkT (os.map Od.v) = if badT kk then 2 else if 255 < dn then 4 else chkT ((os.map Od.v).drop (m + 1)) := by rw [← hbs.len]; exact hcd
      replace hst : sumT ((os.map Od.v).take (m + 1)) = sumT ((os.map Od.v).take m) + (2 + dn) := by rw [← hbs.len]; exact hst
      have hsz := hB.size
      have HBE := Lib.hid (hB.alloc hsz (.cells #[.int .i64 kk, .slice DA dn dc] 160))
      have HCD := Lib.hid hcd
      have HST := Lib.hid hst
      have HO := Lib.hid ho
      clear hcd ho hst hbs
      unfold i64ok at hk
      have hbad : badT kk → canT (os.map Od.v) = 2 := fun hb => by unfold canT; rw [HCD.out, if_pos hb]; rfl
      have HBAD := Lib.hid hbad
      clear hbad
      by_cases hk1 : kk < 1
      · go_wp2_with fail
        go_ret
        exact ⟨by rw [HBAD.out (bad_lt hk1)]; rfl, HBE.out⟩
      · by_cases hk2 : 255 < kk
        · go_wp2_with fail
          go_ret
          exact ⟨by rw [HBAD.out (bad_gt hk2)]; rfl, HBE.out⟩
        · by_cases hk4 : kk = 4
          · subst hk4
            go_wp2_with fail
            go_ret
            exact ⟨by rw [HBAD.out bad_four]; rfl, HBE.out⟩
          · have hkb : (kk == 4) = false := by simpa using hk4
            have e2 := HCD.out
            rw [if_neg (by unfold badT; omega)] at e2
            clear hk4
            by_cases hd : 255 < dn
            · rw [if_pos hd] at e2
              have HE := Lib.hid e2
              clear e2
              go_wp2_with fail
              go_ret
              exact ⟨by rw [show canT (os.map Od.v) = 4 by unfold canT; rw [HE.out]; rfl]; rfl, HBE.out⟩
            · rw [if_neg hd] at e2
              have HE := Lib.hid e2
              clear e2
              go_wp2_with fail
              refine ⟨⟨m + 1, leftT (sumT ((os.map Od.v).take (m + 1))), by omega, rfl, ?_, leftT_range _, HBE.out, Lib.hid ⟨rfl, HE.out⟩⟩, by simp [intOf]; omega⟩
              refine congrArg (Value.int .i64) ?_
              rw [HC.out.1]
              exact leftT_step HST.out
    · obtain rfl : m = n := by omega
      have hchk : chkT (os.map Od.v) = 0 := by rw [HC.out.2, List.drop_of_length_le (by simp [hlen])]; rfl
      have hsum : t = leftT (sumT (os.map Od.v)) := by rw [HC.out.1, List.take_of_length_le (by simp [hlen])]
      have HCHK := Lib.hid hchk
      have HSUM := Lib.hid hsum
      clear hchk hsum ho hlen HC
      by_cases h4 : t < 0
      · go_wp2_with fail
        go_ret
        refine ⟨?_, hB⟩
        have := HSUM.out
        unfold leftT at this
        rw [show canT (os.map Od.v) = 8 by unfold canT; rw [if_pos HCHK.out, if_pos (by split at this <;> omega)]]
        rfl
      · go_wp2_with fail
        go_ret
        refine ⟨?_, hB⟩
        have := HSUM.out
        unfold leftT at this
        rw [show canT (os.map Od.v) = 0 by unfold canT; rw [if_pos HCHK.out, if_neg (by split at this <;> omega)]]
        rfl

end Go.Proofs.YtdpbhhoabnmbpaaGreat

namespace Go.Proofs.YtdpbhhoabnmbpaaGreat
open Go.RowKit
set_option linter.unusedVariables false

/-- bytes of the call's own are handed back -/
def GivesNB (w : World) (ys : List Int) (e : Ending) (w' : World) : Prop :=
  ∃ A c, e = .returned (.slice A ys.length c) ∧ OwnB 5 w' w.heap.size A ys.length c ys ∧ Below w.heap.size w w'
theorem GivesNB.of {w w' : World} {ys zs : List Int} {A : Option Addr} {n c : Nat} (hy : ys = zs) (h : OwnB 5 w' w.heap.size A n c zs) (hB : Below w.heap.size w w') : GivesNB w ys (.returned (.slice A n c)) w' := by
  subst hy
  have hl := h.len
  subst hl
  exact ⟨A, c, rfl, h, hB⟩
theorem zeroCells_byte (k : Nat) : Builtin.zeroCells (Value.int .u8 0).cells k = (List.replicate k (Value.int .u8 0)).toArray := by
  apply Array.ext
  · simp [Builtin.zeroCells, Value.cells]
  · intro i h1 h2
    simp [Builtin.zeroCells, Value.cells, Nat.mod_one]
theorem cellsB_zeros (k : Nat) : cellsB (List.replicate k 0) = List.replicate k (.int .u8 0) := by simp [cellsB]
theorem cellsB_take (xs : List Int) (k : Nat) : (cellsB xs).take k = cellsB (xs.take k) := by simp [cellsB]

section
variable {i0 : TypeInfo} (hi : Tryz.prog.info? 5 = some i0) (hz0 : i0.zero = some (.int .u8 0)) (hz1 : i0.size = 1) (hz2 : i0.bytes = 1)
include hi hz0 hz1 hz2
/-- zeros behind a full row of the call's own -/
theorem run_zerosT (w : World) (g : Nat) (ys : List Int) (m k : Nat) (hm : ys.length = m) (hk : m + k ≤ 140737488355328) (ha : AllB ys) (hb : Blk w 5 g ys) (base : Nat) (hg : base ≤ g) (hgs : base ≤ w.heap.size) (ty : TypeId) :
    ∃ A c w', (Builtin.append_ #[22, 3] ty #[.slice (some ⟨g, 0, none⟩) m m, .int .i64 (k : Nat)]).run Tryz.prog w = .ok (.slice A (m + k) c) w' ∧ OwnB 5 w' base A (m + k) c (ys ++ List.replicate k 0) ∧ Below base w w' := by
  rcases Nat.eq_zero_or_pos k with h0 | h0
  · subst h0
    refine ⟨some ⟨g, 0, none⟩, m, w, ?_, by simpa using OwnB.ofBlk hb ha hg hm (by unfold maxLen; omega), Below.refl _ _⟩
    simp [Builtin.append_, run_underlying Tryz.underlying22, run_underlying Tryz.underlying3, sizeOf, typeInfo, hi, Builtin.lenOf, Builtin.firstCells, storeCells, asInt, asIntOf, IntKind.wrap_i64, zeroValue, hz0]
  · have hrow : (Builtin.firstCells i0.size m (.slice (some ⟨g, 0, none⟩) m m)).run Tryz.prog w.drew = .ok (cellsB ys).toArray w.drew :=
      run_firstCells_some w.drew i0.size m ⟨g, 0, none⟩ m m (cellsB ys) (by rw [cellsB_length, hz1]; omega) (fun j v hj => by
        rw [Addr.add_lit, Nat.zero_add]
        exact (hb.cell j).trans hj)
    have hr := Lib.run_append_grow_zeros (P := Tryz.prog) w 22 3 ty 5 i0 (.int .u8 0) .i64 .i64 Tryz.underlying22 Tryz.underlying3 hi hz0 (some ⟨g, 0, none⟩) m m (cellsB ys) hrow k h0 (by omega) (by omega) (by omega) (by rw [hz2]; omega)
      (growslice_fits (by omega) (by rw [hz2]; omega))
    have hge := grownCap_ge w (m + k) m 5
    have hle := grownCap_le_maxLen w (m + k) m 5 (by unfold maxLen; omega)
    refine ⟨_, _, _, hr, ⟨⟨?_, .inr ⟨w.heap.size, grownCap w (m + k) m 5, _, rfl, hgs, heap_alloc_new w.drew _, hge, hle, ?_, ?_⟩⟩, ha.append (zeros_all k)⟩, ((Below.refl _ _).drew).alloc hgs _⟩
    · rw [cellsB_length, List.length_append, List.length_replicate]; omega
    · simp only [Array.size_append, zeroCells_byte, List.size_toArray, cellsB_length, List.length_replicate]
      have := hge
      omega
    · rw [zeroCells_byte, zeroCells_byte, ← cellsB_zeros, ← cellsB_zeros]
      simp only [List.append_toArray, ← cellsB_append]
      rw [cellsB_take]
      congr 1
      exact List.take_left' (by simp; omega)
end

set_option maxRecDepth 100000 in
set_option maxHeartbeats 1600000 in
theorem tlpad_any (x : Int) (w : World) (hx : i64ok x) : Calls Tryz.prog 107 #[.int .i64 x] w (GivesNB w (padT x)) := by
  obtain ⟨i0, hi, hz0, hz1, hz2⟩ := info_parts info5
  unfold i64ok at hx
  by_cases h1 : x < 1
  · have HP := Lib.hid (show padT x = [] by unfold padT; rw [show min x.toNat 257 = 0 by omega]; rfl)
    go_enter Tryz.func107, Tryz.ntmps107
    go_wp2_with fail
    go_ret
    exact GivesNB.of HP.out (OwnB.none_ _ _ _) (Below.refl _ _)
  · by_cases h2 : x = 1
    · subst h2
      go_enter Tryz.func107, Tryz.ntmps107
      go_wp2_with fail
      go_ret
      exact GivesNB.of (show padT 1 = [0] from rfl) (OwnB.ofBlk (Blk.new w 5 [0]) (.cons (by omega) (by omega) .nil) (Nat.le_refl _) rfl (by unfold maxLen; omega)) (Low.alloc _ _)
    · obtain ⟨k, hk, hk2, hk3⟩ : ∃ k : Nat, padT x = [4, (k : Int)] ++ List.replicate k 0 ∧ k ≤ 255 ∧ ((x ≤ 257 ∧ x = (k : Int) + 2) ∨ (257 < x ∧ k = 255)) := by
        refine ⟨min (x.toNat - 2) 255, ?_, by omega, by omega⟩
        unfold padT
        rw [show min x.toNat 257 = min (x.toNat - 2) 255 + 2 by omega]
        rfl
      have h2b : (x == 1) = false := by simpa using h2
      have HP := Lib.hid hk
      have hbk := Blk.new w 5 [4, (k : Int)]
      obtain ⟨A, c, w', hr, hown, hB⟩ := run_zerosT hi hz0 hz1 hz2 (w.alloc (.cells (cellsB [4, (k : Int)]).toArray 5)) w.heap.size [4, (k : Int)] 2 k rfl (by omega) (.cons (by omega) (by omega) (.cons (by omega) (by omega) .nil)) hbk w.heap.size (Nat.le_refl _) (by simp) 22
      have HO := Lib.hid hown
      have HB := Lib.hid (((Below.refl _ w).alloc (Nat.le_refl _) _).trans hB)
      replace hr : (Builtin.append_ #[22, 3] 22 #[.slice (some ⟨w.heap.size, 0, none⟩) 2 2, .int .i64 (k : Nat)]).run Tryz.prog (w.alloc (.cells #[.int .u8 4, .int .u8 k] 5)) = .ok (.slice A (2 + k) c) w' := hr
      have HR := Lib.hid hr
      clear hr hown hB hbk hk hi hz0 hz1 hz2 h2
      rcases hk3 with ⟨h3, rfl⟩ | ⟨h3, rfl⟩
      · have hm : ((k : Int) + 2 - 2) = k := by omega
        have hkb : (k : Int) % 256 = k := by omega
        go_enter Tryz.func107, Tryz.ntmps107
        go_wp2_with (at_builtin; refine Lib.wpList_append_run _ rfl _ _ _ _ rfl _ _ rfl rfl _ _ HR.out ?_)
        go_ret
        exact GivesNB.of HP.out HO.out HB.out
      · go_enter Tryz.func107, Tryz.ntmps107
        go_wp2_with (at_builtin; refine Lib.wpList_append_run _ rfl _ _ _ _ rfl _ _ rfl rfl _ _ HR.out ?_)
        go_ret
        exact GivesNB.of HP.out HO.out HB.out

set_option maxRecDepth 100000 in
set_option maxHeartbeats 1600000 in
theorem clone_any (A : Option Addr) (n c : Nat) (xs : List Int) (w : World) (hn : n ≤ 140737488355328) (hb : Bs w w.heap.size A n xs) : Calls Tryz.prog 103 #[.slice A n c] w (GivesNB w xs) := by
  obtain ⟨i0, hi, hz0, hz1, hz2⟩ := info_parts info5
  cases A with
  | none =>
    obtain rfl : n = 0 := by
      rcases Nat.eq_zero_or_pos n with h | h
      · exact h
      · obtain ⟨_, _, e, _⟩ := hb.mem h; cases e
    obtain rfl : xs = [] := List.eq_nil_of_length_eq_zero hb.len
    have hnil : (binOp .eql 22 (.slice none 0 c) (.slice none 0 0)).run Tryz.prog w = .ok (.bool true) w := Lib.run_eql_slice_nil w 22 5 none 0 c 0 0 Tryz.underlying22
    clear hb hi hz0 hz1 hz2
    go_enter Tryz.func103, Tryz.ntmps103
    go_wp2_with fail
    go_ret
    exact GivesNB.of (ys := []) (zs := []) rfl (OwnB.none_ _ _ _) (Below.refl _ _)
  | some ad =>
    have hl := Low.alloc w (.cells #[] 5)
    have hO := OwnB.fresh (base := w.heap.size) w 5 (Nat.le_refl _)
    have hb1 := hb.below hl
    have HLT := Lib.hid hO.lt
    have HL := Lib.hid hl
    have hnil : (binOp .eql 22 (.slice (some ad) n c) (.slice none 0 0)).run Tryz.prog w = .ok (.bool false) w := Lib.run_eql_slice_nil w 22 5 (some ad) n c 0 0 Tryz.underlying22
    clear hb hl
    go_enter Tryz.func103, Tryz.ntmps103
    go_wp2_with (at_builtin; refine wpList_append_bs rfl _ _ 22 rfl w.heap.size 5 i0 Tryz.underlying22 hi hz0 hz1 hz2 _ 0 0 [] rfl hO _ n c w.heap.size xs rfl hb1 (by omega) (by simp) ?_; intro A2 c2 w1 hown hgr hob; refine Hid.out ?_)
    refine Lib.hid ?_
    have HOW := Lib.hid hown
    have HB2 := Lib.hid (HL.out.grown hgr (by simp) fun x e => (HLT.out x e).1)
    clear hown hgr hob hO hb1
    go_wp2_with fail
    go_ret
    have h := HOW.out
    rw [Nat.zero_add, List.nil_append] at h
    exact GivesNB.of rfl h HB2.out

end Go.Proofs.YtdpbhhoabnmbpaaGreat

namespace Go.Proofs.YtdpbhhoabnmbpaaGreat
open Go.RowKit
set_option linter.unusedVariables false

theorem partT_v (kk : Int) (d : List Int) (dn : Nat) (h : d.length = dn) (h2 : dn ≤ 255) : partT (kk, d) = [kk % 256, (dn : Int)] ++ d := by
  unfold partT
  rw [show (d.length : Int) % 256 = dn by omega]
theorem two_src (w : World) (x y : Int) (hx : 0 ≤ x ∧ x < 256) (hy : 0 ≤ y ∧ y < 256) : Bs (w.alloc (.cells #[.int .u8 x, .int .u8 y] 5)) (w.heap.size + 1) (some ⟨w.heap.size, 0, none⟩) 2 [x, y] :=
  (Blk.new w 5 [x, y]).bs (.cons hx.1 hx.2 (.cons hy.1 hy.2 .nil)) (by omega) rfl
theorem fill_pad {s : Nat} (h : 0 < s % 8) : padT (8 - ((s : Int) % 8)) = nilT (fillT s) := by
  unfold padT fillT
  congr 1
  omega

/-- a slice of bytes of the call's own, and a number, are handed back -/
def GivesPB (w : World) (ys : List Int) (x : Int) (e : Ending) (w' : World) : Prop :=
  ∃ A c, e = .returned (.tuple #[.slice A ys.length c, .int .i64 x]) ∧ OwnB 5 w' w.heap.size A ys.length c ys ∧ Below w.heap.size w w'
theorem GivesPB.of {w w' : World} {ys zs : List Int} {x y : Int} {A : Option Addr} {n c : Nat} (hy : ys = zs) (hx : x = y) (h : OwnB 5 w' w.heap.size A n c zs) (hB : Below w.heap.size w w') : GivesPB w ys x (.returned (.tuple #[.slice A n c, .int .i64 y])) w' := by
  subst hy hx
  have hl := h.len
  subst hl
  exact ⟨A, c, rfl, h, hB⟩

set_option maxRecDepth 100000 in
set_option maxHeartbeats 3200000 in
theorem tlput_own (A : Option Addr) (n c : Nat) (os : List Od) (w : World) (hn : n ≤ 140737488355328) (ho : Os w w.heap.size A n os) :
    Calls Tryz.prog 97 #[.slice A n c] w (GivesPB w (putT (os.map Od.v)) (canT (os.map Od.v))) := by
  obtain ⟨i0, hi, hz0, hz1, hz2⟩ := info_parts info5
  go_enter Tryz.func97, Tryz.ntmps97
  go_wp2_with fail
  refine (tlcan_any A n c os w hn ho).mono ?_
  rintro e wc ⟨rfl, hBc⟩
  have hcr := canT_err (os.map Od.v)
  by_cases hcan : canT (os.map Od.v) = 0
  · obtain ⟨hchk, hsum⟩ := canT_zero hcan
    have HCAN := Lib.hid hcan
    have hTl : (flatT (os.map Od.v)).length ≤ 256 := by rw [flatT_len]; exact hsum
    have HPUT := Lib.hid (show putT (os.map Od.v) = flatT (os.map Od.v) ++ nilT (fillT (flatT (os.map Od.v)).length) by unfold putT; rw [if_pos hcan])
    have hmem := chkT_mem hchk
    have hlen := ho.len
    have hsc := hBc.size
    rw [hcan]
    clear hcr hcan hchk hsum
    go_wp2_with fail
    go_loopw [5, 16] (fun b i wr => ∃ m s A' c', m ≤ n ∧ i = .int .i64 (m : Nat) ∧ b = .slice A' s c' ∧ s ≤ 256 ∧ Hid (s = (flatT ((os.map Od.v).take m)).length) ∧ OwnB 5 wr w.heap.size A' s c' (flatT ((os.map Od.v).take m)) ∧ Below w.heap.size w wr) (fun _ i _ => n - (intOf i).toNat)
    case atStart => exact ⟨0, 0, none, 0, Nat.zero_le _, rfl, rfl, by omega, Lib.hid rfl, OwnB.none_ _ _ _, hBc⟩
    case round =>
      obtain ⟨m, s, A', c', hm, rfl, rfl, hs, HS, h2, hB⟩ := hrel
      by_cases hmn : m < n
      · obtain ⟨b, p, rfl, hbl, hc⟩ := ho.mem (by omega)
        obtain ⟨q1, q2⟩ := hc m hmn
        have hok := ho.at_ hmn
        have hm1 := hmem _ (List.mem_map.2 ⟨_, getD_mem (by omega), rfl⟩ : (os.getD m zeroO).v ∈ os.map Od.v)
        have hft := flatT_take (l := os.map Od.v) (i := m) (by simp; omega)
        have hfl := flatT_take_le (os.map Od.v) (m + 1)
        rw [getV] at hft
        obtain ⟨o, hoo⟩ : ∃ o, o = os.getD m zeroO := ⟨_, rfl⟩
        rw [← hoo] at q1 q2 hok hm1 hft
        have c1 := (hB.cell (p := ⟨b, p + m * 2, none⟩) hbl).trans q1
        have c2 := (hB.cell (p := ⟨b, p + m * 2 + 1, none⟩) hbl).trans q2
        clear q1 q2 hc hoo
        obtain ⟨kk, DA, dn, dc, d⟩ := o
        obtain ⟨hk, hdn, hbs⟩ := hok
        dsimp only [Od.v] at c1 c2 hk hdn hbs hm1 hft
        obtain ⟨-, hd255⟩ := hm1
        rw [hbs.len] at hd255
        have HBS := Lib.hid hbs
        rw [partT_v kk d dn hbs.len hd255] at hft
        have HFT := Lib.hid hft
        rw [hft] at hfl
        simp only [List.length_append, List.length_cons, List.length_nil] at hfl
        rw [hbs.len, ← HS.out] at hfl
        have hs1 : s + 2 + dn ≤ 256 := by omega
        have HO := Lib.hid ho
        have hsz := hB.size
        have hlt2 := h2.lt
        have hl1 := Low.alloc wr (.cells #[.int .i64 kk, .slice DA dn dc] 160)
        have hl2 := Low.alloc (wr.alloc (.cells #[.int .i64 kk, .slice DA dn dc] 160)) (.cells #[.int .u8 (kk % 256), .int .u8 (dn : Int)] 5)
        have hown0 := h2.below (Low.trans hl1 hl2)
        have hsrc := two_src (wr.alloc (.cells #[.int .i64 kk, .slice DA dn dc] 160)) (kk % 256) (dn : Int) (by omega) (by omega)
        rw [World.size_alloc] at hsrc
        have hbp : BlkV ((wr.alloc (.cells #[.int .i64 kk, .slice DA dn dc] 160)).alloc (.cells #[.int .u8 (kk % 256), .int .u8 (dn : Int)] 5)) 160 wr.heap.size [.int .i64 kk, .slice DA dn dc] := (BlkV.new wr 160 [.int .i64 kk, .slice DA dn dc]).alloc _
        have HBP := Lib.hid hbp
        have HBE := Lib.hid (hB.trans ((Low.trans hl1 hl2).mono hsz))
        have HS1 := Lib.hid hs1
        have hne : some wr.heap.size ≠ (Value.slice A' s c').ownBlock := fun e => by have := (hlt2 _ e.symm).2; omega
        have HNE := Lib.hid hne
        clear h2 hft hbs hfl hmem ho hl1 hl2 hbp hB hs1 hne
        go_wp2_with (at_builtin; refine wpList_append_bs rfl _ _ 22 rfl w.heap.size 5 i0 Tryz.underlying22 hi hz0 hz1 hz2 A' s c' (flatT ((os.map Od.v).take m)) rfl hown0 _ 2 2 (wr.heap.size + 1 + 1) [kk % 256, (dn : Int)] rfl hsrc (by omega) (by simp only [World.size_alloc]; omega) ?_; intro A2 c3 w1 hown hgr hob; refine Hid.out ?_)
        refine Lib.hid ?_
        have hbp1 : BlkV w1 160 wr.heap.size [.int .i64 kk, .slice DA dn dc] := (hgr.block _ HBP.out.lt HNE.out).trans HBP.out
        have g1 : w1.cell? ⟨wr.heap.size, 1, none⟩ = some (.slice DA dn dc) := by rw [hbp1.cell 1]; rfl
        have hb1 := HBE.out.grown hgr HBE.out.size fun x e => (hlt2 x e).1
        have hdat := HBS.out.below hb1
        have hlt3 := hown.lt
        have hsz1 := hb1.size
        clear hgr hob hown0 hsrc hbp1 c1 c2
        go_wp2_with (at_builtin; refine wpList_append_bs rfl _ _ 22 rfl w.heap.size 5 i0 Tryz.underlying22 hi hz0 hz1 hz2 A2 (s + 2) c3 (flatT ((os.map Od.v).take m) ++ [kk % 256, (dn : Int)]) rfl hown DA dn dc w.heap.size d rfl hdat (by have := HS1.out; omega) hsz1 ?_; intro A4 c4 w2 hown4 hgr hob; refine Hid.out ?_)
        refine Lib.hid ?_
        have hb2 := hb1.grown hgr hsz1 fun x e => (hlt3 x e).1
        have HOW := Lib.hid hown4
        clear hgr hob hown hdat g1 hown4
        go_wp2_with fail
        go_roundw
        case rel =>
          refine ⟨m + 1, s + 2 + dn, A4, c4, by omega, by go_num, rfl, HS1.out, Lib.hid ?_, ?_, hb2⟩
          · rw [HFT.out, List.length_append, ← HS.out, List.length_append, HBS.out.len]
            simp only [List.length_cons, List.length_nil]
            omega
          · rw [HFT.out, ← List.append_assoc]
            exact HOW.out
        case measure => simp [intOf]; omega
      · obtain rfl : m = n := by omega
        have hall : (os.map Od.v).take m = os.map Od.v := List.take_of_length_le (by simp [hlen])
        rw [hall] at h2 HS
        generalize flatT (os.map Od.v) = ys at *
        have hys := h2.len
        have hBsz := hB.size
        have hlt2 := h2.lt
        by_cases hov : 0 < s % 8
        · have hf8 := fill_pad hov
          have HF := Lib.hid hf8
          have HOV := Lib.hid hov
          have hov2 : 0 < (s : Int) % 8 := by omega
          have HO2 := Lib.hid h2
          clear hf8 hov h2
          go_wp2_with fail
          refine (tlpad_any _ wr (by unfold i64ok; omega)).mono ?_
          rintro e w1 ⟨A1, c1, rfl, hown1, hB1⟩
          rw [HF.out] at hown1 ⊢
          have hown0 := HO2.out.below hB1
          have hsrc := hown1.bs (Nat.le_refl _)
          have hfl := nilT_len (fillT s)
          have hflt := fillT_lt s
          have HB1 := Lib.hid (hB.trans (hB1.mono hBsz))
          have HPU := Lib.hid (show putT (os.map Od.v) = ys ++ nilT (fillT s) by rw [HPUT.out, hys])
          generalize nilT (fillT s) = zs at *
          obtain ⟨z, hz⟩ : ∃ z, z = zs.length := ⟨_, rfl⟩
          have hz8 : z < 8 := by omega
          rw [← hz] at hsrc ⊢
          have HZ := Lib.hid hz
          clear hown1 hB1 hB hz hfl hflt
          go_wp2_with (at_builtin; refine wpList_append_bs rfl _ _ 22 rfl w.heap.size 5 i0 Tryz.underlying22 hi hz0 hz1 hz2 A' s c' ys rfl hown0 A1 z c1 w1.heap.size zs rfl hsrc (by omega) HB1.out.size ?_; intro A3 c3 w3 hown3 hgr hob; refine Hid.out ?_)
          refine Lib.hid ?_
          have hb3 := HB1.out.grown hgr HB1.out.size fun x e => (hlt2 x e).1
          have HOW := Lib.hid hown3
          clear hgr hob hown3 hown0 hsrc
          go_wp2_with fail
          go_ret2
          exact GivesPB.of HPU.out HCAN.out HOW.out hb3
        · have hov2 : (s : Int) % 8 = 0 := by omega
          have HPU := Lib.hid (show putT (os.map Od.v) = ys by
            rw [HPUT.out, hys, show fillT s = 0 by unfold fillT; omega]
            simp [nilT])
          have HOW := Lib.hid h2
          clear h2 hov
          go_wp2_with fail
          go_ret2
          exact GivesPB.of HPU.out HCAN.out HOW.out hB
  · have HP := Lib.hid (putT_none hcan)
    generalize canT (os.map Od.v) = x at *
    have hx : (x != 0) = true := by simpa using hcan
    go_wp2_with fail
    go_ret2
    rw [HP.out]
    exact ⟨none, 0, rfl, OwnB.none_ _ _ _, hBc⟩
end Go.Proofs.YtdpbhhoabnmbpaaGreat

namespace Go.Proofs.YtdpbhhoabnmbpaaGreat
open Go.RowKit
set_option linter.unusedVariables false

end Go.Proofs.YtdpbhhoabnmbpaaGreat

namespace Go.Proofs.YtdpbhhoabnmbpaaGreat
open Go.RowKit
set_option linter.unusedVariables false

section
variable {P : Program} {a : Act} {w : World} {Q : Exit → Act → World → Prop}
/-- a scope whose one label is come to from above, too: the way from the label on is walked once -/
theorem wp_scope_head {c B : Code} (l : Nat) (J : Act → World → Prop) (μ : Act → World → Nat) (hf : findLabel c l = some (.seq .skip B)) (head : ∀ Q' : Exit → Act → World → Prop, (∀ a w, J a w → B.wp P Q' a w) → c.wp P Q' a w)
    (pass : ∀ a w, J a w → B.wp P (Exit.jump l (fun a' w' => J a' w' ∧ μ a' w' < μ a w) Q) a w) : (Code.scope c).wp P Q a w :=
  wp_scope_jumps l J μ hf (head _ fun a1 w1 hJ => Code.wp_mono (fun e a2 w2 h => by
    cases e with
    | goto l' => exact ⟨h.1, h.2.1⟩
    | normal => exact h
    | exit id => exact h
    | ret => exact h
    | panic ch => exact h
    | outgrown => exact h) (pass a1 w1 hJ)) (fun a1 w1 hJ => wp_seq (wp_skip (pass a1 w1 hJ)))
end

theorem slcT_from (b o n c s : Nat) (q : Int) (hc : n ≤ c) (hq : q = s) (h2 : s ≤ n) :
    ∃ o', (∀ u, (Instr.sliceAt 22 (.slice (some ⟨b, o, none⟩) n c) (some (.int .i64 q)) none none).run Tryz.prog u = .ok (.slice (some ⟨b, o', none⟩) (n - s) (c - s)) u) ∧ (0 < n - s → o' = o + s) := by
  subst hq
  have i2 : (s : Int) ≤ n := by omega
  have i4 : (n : Int) ≤ c := by omega
  have i3 : (s : Int) ≤ c := by omega
  by_cases h : c = s
  · obtain rfl : n = s := by omega
    subst h
    exact ⟨o, fun u => by go_simp, fun h => by omega⟩
  · exact ⟨o + s, fun u => by go_simp, fun _ => rfl⟩

theorem info_tlv : (Tryz.prog.info? 160).map (fun i => (i.zero, i.size, i.bytes)) = some (some zeroOV, 2, 32) := by kernel_rfl

theorem Od.off.own {t : TypeId} {w' : World} {X : Option Nat} {base n c : Nat} {k : Int} {A : Option Addr} {ys : List Int} (hk : i64ok k) (hn : n ≤ 140737488355328) (h : OwnB t w' base A n c ys) (hX : ∀ x, X = some x → x < base) : Od.off w' X ⟨k, A, n, c, ys⟩ :=
  ⟨hk, hn, h.len, h.2, fun h0 => by
    obtain ⟨g, cap, hv, hb, hlt⟩ := World.ownsRow.form h.1 h0
    have hA : A = some ⟨g, 0, none⟩ := by injection hv
    obtain ⟨b, o, e, _, hc⟩ := (h.bs (Nat.le_refl _)).mem h0
    rw [hA] at e
    injection e with e
    injection e with e1 e2 _
    subst e1 e2
    exact ⟨g, 0, hA, hlt, fun e => by have := hX g e.symm; omega, hc⟩⟩
theorem Od.from_.own {t : TypeId} {w' : World} {lo base n c : Nat} {k : Int} {A : Option Addr} {ys : List Int} (h : OwnB t w' base A n c ys) (hl : lo ≤ base) : Od.from_ lo ⟨k, A, n, c, ys⟩ := fun h0 => by
  obtain ⟨g, cap, hv, hb, _⟩ := World.ownsRow.form h.1 h0
  have hA : A = some ⟨g, 0, none⟩ := by injection hv
  exact ⟨g, 0, hA, by omega⟩

theorem parseT_zero {f : Nat} {xs : List Int} (h : xs ≠ []) (h0 : xs.getD 0 0 = 0) : parseT (f + 1) xs = parseT f (xs.drop 1) := by rw [parseT, if_neg h, if_pos h0]
theorem parseT_short {f : Nat} {xs : List Int} (h : xs ≠ []) (h0 : xs.getD 0 0 ≠ 0) (hs : shortT xs) : parseT (f + 1) xs = ([], 3) := by rw [parseT, if_neg h, if_neg h0, if_pos hs]
theorem parseT_next {f : Nat} {xs : List Int} (h : xs ≠ []) (h0 : xs.getD 0 0 ≠ 0) (hs : ¬ shortT xs) : parseT (f + 1) xs = joinO (keepT xs) (parseT f (xs.drop (2 + (xs.getD 1 0).toNat))) := by rw [parseT, if_neg h, if_neg h0, if_neg hs]

set_option maxHeartbeats 800000 in
set_option maxRecDepth 100000 in
theorem behind_no (A : Option Addr) (n c : Nat) (xs : List Int) (w : World) (hn : n ≤ 140737488355328) (hc : n ≤ c) (hc2 : c ≤ 9223372036854775807) (h0 : 0 < n) (hb : Bs w w.heap.size A n xs) (hs : shortT xs) :
    Calls Tryz.prog 102 #[.slice A n c] w fun e w' => e = .returned (.tuple #[.slice none 0 0, .bool false]) ∧ w' = w := by
  obtain ⟨b, o, rfl, hbl, hcc⟩ := hb.mem h0
  unfold shortT at hs
  rw [hb.len] at hs
  have hn2 := hb.nonneg 1
  by_cases h2 : n < 2
  · clear hb hcc hs
    go_enter Tryz.func102, Tryz.ntmps102
    go_wp2_with fail
    go_ret2
    exact ⟨rfl, rfl⟩
  · have c1 := hcc 1 (by omega)
    have hs2 : (n : Int) - 2 < xs.getD 1 0 := by omega
    obtain ⟨o', hr, -⟩ := slcT_from b o n c 2 2 hc rfl (by omega)
    have HR := Lib.hid hr
    generalize xs.getD 1 0 = x1 at *
    have hs3 : ((n - 2 : Nat) : Int) < x1 := by omega
    clear hb hcc hs hr
    go_enter Tryz.func102, Tryz.ntmps102
    go_wp2_with (refine slc_wp rfl _ _ _ _ _ rfl _ (HR.out _) ?_; refine Hid.out ?_)
    refine Lib.hid ?_
    go_wp2_with fail
    go_ret2
    exact ⟨rfl, rfl⟩

set_option maxHeartbeats 800000 in
set_option maxRecDepth 100000 in
theorem behind_yes (A : Option Addr) (n c : Nat) (xs : List Int) (w : World) (hn : n ≤ 140737488355328) (hc : n ≤ c) (hc2 : c ≤ 9223372036854775807) (h0 : 0 < n) (hb : Bs w w.heap.size A n xs) (hs : ¬ shortT xs) (s : Nat) (hs1 : xs.getD 1 0 = (s : Nat)) :
    Calls Tryz.prog 102 #[.slice A n c] w fun e w' => (∃ A', e = .returned (.tuple #[.slice A' s (c - 2), .bool true]) ∧ Bs w w.heap.size A' s ((xs.drop 2).take s)) ∧ w' = w := by
  obtain ⟨b, o, rfl, hbl, hcc⟩ := hb.mem h0
  unfold shortT at hs
  rw [hb.len, hs1] at hs
  have h2 : 2 ≤ n := by omega
  have c1 := hcc 1 (by omega)
  rw [hs1] at c1
  obtain ⟨o', hr, ho'⟩ := slcT_from b o n c 2 2 hc rfl h2
  have HR := Lib.hid hr
  have HB := Lib.hid ((hb.cutFrom (A' := some ⟨b, o', none⟩) h2 fun h => by rw [ho' h]).cutUpto (m := s) (by omega))
  have hs3 : (s : Int) ≤ ((n - 2 : Nat) : Int) := by omega
  have HU := Lib.hid (slc_upto b o' (n - 2) (c - 2) s s (by omega) rfl (by omega))
  clear hb hcc hs hr hs1
  go_enter Tryz.func102, Tryz.ntmps102
  go_wp2_with (refine slc_wp rfl _ _ _ _ _ rfl _ (HR.out _) ?_; refine Hid.out ?_)
  refine Lib.hid ?_
  go_wp2_with (refine slc_wp rfl _ _ _ _ _ rfl _ (HU.out _) ?_; refine Hid.out ?_)
  refine Lib.hid ?_
  go_wp2_with fail
  go_ret2
  exact ⟨⟨_, rfl, HB.out⟩, rfl⟩

/-- where the parsing stands -/
def ParT (w : World) (R : List Ob × Int) (v0 v4 : Value) (wr : World) : Prop :=
  ∃ A n c xs f LA q lc os, v0 = .slice A n c ∧ v4 = .slice LA q lc ∧ Bs wr w.heap.size A n xs ∧ n ≤ c ∧ c ≤ 9223372036854775807 ∧ q + n ≤ 4294967296 ∧ n < f ∧ OwnO 160 wr w.heap.size LA q lc os ∧ (∀ o ∈ os, o.off wr (Value.slice LA q lc).ownBlock) ∧ Hid (R = joinO (os.map Od.v) (parseT f xs)) ∧ Below w.heap.size w wr ∧ Hid (∀ o ∈ os, o.from_ w.heap.size)

set_option maxRecDepth 100000 in
set_option maxHeartbeats 3200000 in
theorem tlparse_any (A : Option Addr) (n c : Nat) (xs : List Int) (w : World) (hn : n ≤ 4294967296) (hc : n ≤ c) (hc2 : c ≤ 9223372036854775807) (hb : Bs w w.heap.size A n xs) :
    Calls Tryz.prog 82 #[.slice A n c] w (GivesO w (parseTL xs)) := by
  obtain ⟨i0, hi, hz0, hz1, hz2⟩ := info_parts info_tlv
  have HX := Lib.hid (show parseTL xs = joinO (List.map Od.v []) (parseT (n + 1) xs) by
    unfold parseTL
    rw [hb.len]
    exact (joinO_nil _ (parseT_err_nil _ xs)).symm)
  generalize parseTL xs = R at *
  have hrel0 : ParT w R (.slice A n c) (.slice none 0 0) w := ⟨A, n, c, xs, n + 1, none, 0, 0, [], rfl, rfl, hb, hc, hc2, by omega, by omega, OwnO.none_ _ _ _, (fun o h => by cases h), HX, Below.refl _ _, Lib.hid (fun o h => by cases h)⟩
  have HREL := Lib.hid hrel0
  clear hb HX hrel0
  go_enter Tryz.func82, Tryz.ntmps82
  go_wp2_with fail
  refine wp_scope_head 0 (fun a' w' => ∃ (v0 v4 u1 u5 u6 u7 u8 u9 u10 u11 u12 u13 u14 u15 u16 u17 u18 u19 u20 u21 u22 u23 u24 u25 u26 u27 u28 u29 u30 u31 u32 u33 u34 u35 u36 u37 u38 u39 u40 : Value), a' = { tmps := #[v0, u1, .slice none 0 0, .int .i64 0, v4, u5, u6, u7, u8, u9, u10, u11, u12, u13, u14, u15, u16, u17, u18, u19, u20, u21, u22, u23, u24, u25, u26, u27, u28, u29, u30, u31, u32, u33, u34, u35, u36, u37, u38, u39, u40], defers := [] } ∧ ParT w R v0 v4 w') (fun a' _ => valLen (a'.tmps.getD 0 undef)) rfl ?ghead ?gpass
  case ghead =>
    intro Q' h
    go_wp2_with fail
    go_step3
    rename_i K hK
    exact hK _ _ (h _ _ ⟨_, _, _, _, _, _, _, _, _, _, _, _, _, _, _, _, _, _, _, _, _, _, _, _, _, _, _, _, _, _, _, _, _, _, _, _, _, _, _, rfl, HREL.out⟩)
  case gpass =>
    rintro a1 wr ⟨v0, v4, u1, u5, u6, u7, u8, u9, u10, u11, u12, u13, u14, u15, u16, u17, u18, u19, u20, u21, u22, u23, u24, u25, u26, u27, u28, u29, u30, u31, u32, u33, u34, u35, u36, u37, u38, u39, u40, rfl, hrel⟩
    obtain ⟨A, n, c, xs, f, LA, q, lc, os, rfl, rfl, hb, hc, hc2, hq, hf, hown, hoff, HR, hB, HF⟩ := hrel
    by_cases h0 : 0 < n
    · obtain ⟨f, rfl⟩ : ∃ f', f = f' + 1 := ⟨f - 1, by omega⟩
      have hsz := hB.size
      have hxne : xs ≠ [] := fun e => by have := hb.len; rw [e] at this; simp at this; omega
      have hbm := hb.more hsz
      have hn1 := hb.nonneg 0
      have hn2 := hb.nonneg 1
      obtain ⟨b, o, rfl, hbl, hcc⟩ := hb.mem h0
      have c1 : wr.cell? ⟨b, o, none⟩ = some (.int .u8 (xs.getD 0 0)) := hcc 0 h0
      have hne0 : ((n : Int) == 0) = false := by simp; omega
      have HOWN := Lib.hid hown
      have HOFF := Lib.hid hoff
      have HB := Lib.hid hb
      by_cases hz : xs.getD 0 0 = 0
      · have HR2 := Lib.hid (HR.out.trans (by rw [parseT_zero hxne hz]))
        rw [hz] at c1
        obtain ⟨o', hr, ho'⟩ := slcT_from b o n c 1 1 hc rfl (by omega)
        have HS := Lib.hid hr
        have HC := Lib.hid (hb.cutFrom (A' := some ⟨b, o', none⟩) (s := 1) (by omega) fun h => by rw [ho' h])
        clear HR hown hoff hb hbm hcc hn1 hn2 hz hxne hr ho'
        go_wp2_with (refine slc_wp rfl _ _ _ _ _ rfl _ (HS.out _) ?_; refine Hid.out ?_)
        refine Lib.hid ?_
        go_wp2_with fail
        go_step3
        refine ⟨rfl, ⟨_, _, _, _, _, _, _, _, _, _, _, _, _, _, _, _, _, _, _, _, _, _, _, _, _, _, _, _, _, _, _, _, _, _, _, _, _, _, _, rfl, ⟨_, n - 1, c - 1, xs.drop 1, f, LA, q, lc, os, rfl, rfl, HC.out, by omega, by omega, by omega, by omega, HOWN.out, HOFF.out, HR2, hB, HF⟩⟩, ?_⟩
        simp only [valLen]
        show n - 1 < n
        omega
      · have hzb : (xs.getD 0 0 == 0) = false := by simpa using hz
        by_cases hs : shortT xs
        · have HR2 := Lib.hid (show R = ([], 3) by rw [HR.out, parseT_short hxne hz hs]; simp [joinO])
          have HBN := Lib.hid (behind_no (some ⟨b, o, none⟩) n c xs wr (by omega) hc hc2 h0 hbm hs)
          generalize xs.getD 0 0 = x0 at *
          clear HR hown hoff hb hbm hcc hn2 hz hxne hs
          go_wp2_with fail
          refine HBN.out.mono ?_
          rintro e w' ⟨rfl, rfl⟩
          go_wp2_with fail
          simp only [Exit.jump]
          go_ret2
          exact GivesO.err 3 HR2.out hB
        · obtain ⟨s, hs1⟩ : ∃ s : Nat, xs.getD 1 0 = (s : Nat) := ⟨(xs.getD 1 0).toNat, by omega⟩
          have hs9 := hs
          unfold shortT at hs9
          rw [hb.len, hs1] at hs9
          have hsn : 2 + s ≤ n := by omega
          have hs255 : s < 256 := by omega
          have HBY := Lib.hid (behind_yes (some ⟨b, o, none⟩) n c xs wr (by omega) hc hc2 h0 hbm hs s hs1)
          have HR1 := Lib.hid (HR.out.trans (by rw [parseT_next hxne hz hs, hs1, Int.toNat_natCast]))
          obtain ⟨o', hr, ho'⟩ := slcT_from b o n c (2 + s) ((2 : Int) + s) hc (by omega) hsn
          have HS := Lib.hid hr
          have HC := Lib.hid (hb.cutFrom (A' := some ⟨b, o', none⟩) (s := 2 + s) hsn fun h => by rw [ho' h])
          have hkp : keepT xs = if xs.getD 0 0 = 4 then [] else [(xs.getD 0 0, (xs.drop 2).take s)] := by unfold keepT; rw [hs1, Int.toNat_natCast]
          have HKP := Lib.hid hkp
          generalize xs.getD 0 0 = x0 at *
          clear HR hown hoff hb hbm hcc hn2 hs1 hs hs9 hr ho' hxne hkp
          go_wp2_with fail
          refine HBY.out.mono ?_
          rintro e w' ⟨⟨AD, rfl, hbd⟩, hww⟩
          obtain rfl : wr = w' := hww.symm
          have HBD := Lib.hid hbd
          clear hbd
          go_wp2_with (refine slc_wp rfl _ _ _ _ _ rfl _ (HS.out _) ?_; refine Hid.out ?_)
          refine Lib.hid ?_
          by_cases h4 : x0 = 4
          · subst h4
            have HR2 := Lib.hid (show R = joinO (os.map Od.v) (parseT f (xs.drop (2 + s))) by
              have := HR1.out
              rw [HKP.out, if_pos rfl, joinO_join, List.append_nil] at this
              exact this)
            go_wp2_with fail
            go_step3
            refine ⟨rfl, ⟨_, _, _, _, _, _, _, _, _, _, _, _, _, _, _, _, _, _, _, _, _, _, _, _, _, _, _, _, _, _, _, _, _, _, _, _, _, _, _, rfl, ⟨_, n - (2 + s), c - (2 + s), xs.drop (2 + s), f, LA, q, lc, os, rfl, rfl, HC.out, by omega, by omega, by omega, by omega, HOWN.out, HOFF.out, HR2, hB, HF⟩⟩, ?_⟩
            simp only [valLen]
            show n - (2 + s) < n
            omega
          · have h4b : (x0 != 4) = true := by simpa using h4
            have HR2 := Lib.hid (show R = joinO (os.map Od.v ++ [(x0, (xs.drop 2).take s)]) (parseT f (xs.drop (2 + s))) by
              have := HR1.out
              rw [HKP.out, if_neg h4, joinO_join] at this
              exact this)
            have HK := Lib.hid (And.intro h4 hz)
            have hltO := HOWN.out.lt
            clear h4 hz
            go_wp2_with fail
            refine (clone_any AD s (c - 2) ((xs.drop 2).take s) wr (by omega) HBD.out).mono ?_
            rintro e w1 ⟨A3, c3, rfl, hown3, hB3⟩
            have hds : ((xs.drop 2).take s).length = s := HBD.out.len
            rw [hds] at hown3 ⊢
            have hi64 : i64ok x0 := by unfold i64ok; omega
            have hoff3 := Od.off.own (k := x0) (X := (Value.slice LA q lc).ownBlock) hi64 (by omega) hown3 (fun x e => (hltO x e).2)
            have HF3 := Lib.hid (Od.from_.own (k := x0) hown3 hsz)
            generalize (xs.drop 2).take s = ys at *
            have hl1 := Low.alloc w1 (.cells #[.int .i64 x0, .slice A3 s c3] 160)
            have hown1 := HOWN.out.below (Low.trans hB3 hl1)
            have hsrc := Os.one w1 160 ⟨x0, A3, s, c3, ys⟩ (B := w1.heap.size + 1) hoff3.ok (by omega)
            have HO3 : Hid (∀ o ∈ os, o.off _ (Value.slice LA q lc).ownBlock) := Lib.hid fun o h => (HOFF.out o h).below (Low.trans hB3 hl1)
            have HO4 := Lib.hid (hoff3.below hl1)
            have HLR := Lib.hid ((Low.trans hB3 hl1).mono hsz)
            have HB3 := Lib.hid (hB.trans HLR.out)
            clear hown3 hoff3 hl1 hB3 hds hi64
            go_wp2_with (at_builtin; refine wpList_append_os rfl _ _ 28 rfl w.heap.size 160 i0 Tryz.underlying28 hi hz0 hz1 hz2 LA q lc os rfl hown1 _ 1 1 (w1.heap.size + 1) [⟨x0, A3, s, c3, ys⟩] rfl hsrc (by omega) HB3.out.size ?_; intro A2 c2 w2 hown2 hgr hob; refine Hid.out ?_)
            refine Lib.hid ?_
            have hB4 : Below w.heap.size w w2 := HB3.out.grown hgr HB3.out.size fun x e => (hltO x e).1
            have hBr : Below w.heap.size wr w2 := HLR.out.grown hgr HB3.out.size fun x e => (hltO x e).1
            have HCC := Lib.hid (HC.out.below hBr)
            have HO5 : Hid (∀ o ∈ os ++ [⟨x0, A3, s, c3, ys⟩], Od.off w2 (Value.slice A2 (q + 1) c2).ownBlock o) := Lib.hid fun o h => by
              rcases List.mem_append.1 h with h | h
              · exact (HO3.out o h).grown hgr hob
              · obtain rfl : o = ⟨x0, A3, s, c3, ys⟩ := by simpa using h
                exact HO4.out.grown hgr hob
            have HF4 : Hid (∀ o ∈ os ++ [⟨x0, A3, s, c3, ys⟩], Od.from_ w.heap.size o) := Lib.hid fun o h => by
              rcases List.mem_append.1 h with h | h
              · exact HF.out o h
              · obtain rfl : o = ⟨x0, A3, s, c3, ys⟩ := by simpa using h
                exact HF3.out
            have HOWN2 := Lib.hid hown2
            clear hown2 hgr hob hsrc hown1 hBr
            go_wp2_with fail
            go_step3
            refine ⟨rfl, ⟨_, _, _, _, _, _, _, _, _, _, _, _, _, _, _, _, _, _, _, _, _, _, _, _, _, _, _, _, _, _, _, _, _, _, _, _, _, _, _, rfl, ⟨_, n - (2 + s), c - (2 + s), xs.drop (2 + s), f, A2, q + 1, c2, os ++ [⟨x0, A3, s, c3, ys⟩], rfl, rfl, HCC.out, by omega, by omega, by omega, by omega, HOWN2.out, HO5.out, Lib.hid ?_, hB4, HF4⟩⟩, ?_⟩
            · rw [HR2.out, List.map_append]
              rfl
            · simp only [valLen]
              show n - (2 + s) < n
              omega
    · obtain rfl : n = 0 := by omega
      obtain rfl : xs = [] := List.eq_nil_of_length_eq_zero hb.len
      have HRR := Lib.hid (show R = (os.map Od.v, 0) by
        rw [HR.out]
        cases f with
        | zero => omega
        | succ f => simp [parseT, joinO])
      have hlen := hown.len
      have HOWN := Lib.hid hown
      have HOFF := Lib.hid hoff
      clear HR hown hoff hb
      go_wp2_with fail
      simp only [Exit.jump]
      go_ret2
      rw [HRR.out]
      refine ⟨LA, lc, os, ?_, rfl, ?_, hB, by simpa [hlen] using OFrom.own HOWN.out (Nat.le_refl _) HF.out⟩
      · simp [hlen]
      · simpa [hlen] using HOWN.out.lies (Nat.le_refl _) fun o h => (HOFF.out o h).ok
end Go.Proofs.YtdpbhhoabnmbpaaGreat

namespace Go.Proofs.YtdpbhhoabnmbpaaGreat
open Go.RowKit
set_option linter.unusedVariables false

end Go.Proofs.YtdpbhhoabnmbpaaGreat

namespace Go.Proofs.YtdpbhhoabnmbpaaGreat
open Go.RowKit
set_option linter.unusedVariables false

end Go.Proofs.YtdpbhhoabnmbpaaGreat

namespace Go.Proofs.YtdpbhhoabnmbpaaGreat
open Go.RowKit
set_option linter.unusedVariables false

end Go.Proofs.YtdpbhhoabnmbpaaGreat
