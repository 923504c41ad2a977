/- The page's words on the parts of routing headers, as functions of lists: whether they can be, their bytes, bytes that are nothing, the parts of bytes; what was put is parsed as what it was. No program here. -/
import Derived.Test.YtnfiijbnfmcpjaaTpB
namespace Go.Proofs.Ytnfiijbnfmcpjaa
open Go.RowKit
set_option linter.unusedVariables false

/-- m bytes that are nothing, up to 257 -/
def nilT : Nat → List Int
  | 0 => []
  | 1 => [0]
  | k + 2 => [4, (k : Int)] ++ List.replicate k 0
def padT (n : Int) : List Int := nilT (min n.toNat 257)
theorem nilT_len : ∀ m, (nilT m).length = m
  | 0 => rfl
  | 1 => rfl
  | k + 2 => by simp [nilT]
theorem nilT_all {m : Nat} (h : m ≤ 257) : AllB (nilT m) := by
  match m with
  | 0 => exact .nil
  | 1 => exact .cons (by omega) (by omega) .nil
  | k + 2 => exact (AllB.cons (by omega) (by omega) (.cons (by omega) (by omega) .nil)).append (zeros_all k)
theorem padT_len (n : Int) : (padT n).length = min n.toNat 257 := nilT_len _
theorem padT_len_le (n : Int) : (padT n).length ≤ 257 := by rw [padT_len]; omega
theorem padT_all (n : Int) : AllB (padT n) := nilT_all (by omega)

def badT (k : Int) : Prop := k < 1 ∨ 255 < k ∨ k = 4
instance (k : Int) : Decidable (badT k) := by unfold badT; infer_instance
/-- part by part -/
def chkT : List Ob → Int
  | [] => 0
  | o :: l => if badT o.1 then 2 else if 255 < o.2.length then 4 else chkT l
def sizeT (o : Ob) : Nat := 2 + o.2.length
def sumT (l : List Ob) : Nat := (l.map sizeT).sum
def canT (l : List Ob) : Int := if chkT l = 0 then (if 256 < sumT l then 8 else 0) else chkT l
def partT (o : Ob) : List Int := [o.1 % 256, (o.2.length : Int) % 256] ++ o.2
def flatT (l : List Ob) : List Int := l.flatMap partT
def fillT (n : Nat) : Nat := (8 - n % 8) % 8
def putT (l : List Ob) : List Int := if canT l = 0 then flatT l ++ nilT (fillT (flatT l).length) else []

theorem chkT_err : ∀ l : List Ob, chkT l = 0 ∨ chkT l = 2 ∨ chkT l = 4
  | [] => .inl rfl
  | o :: l => by
    unfold chkT
    split
    · exact .inr (.inl rfl)
    · split
      · exact .inr (.inr rfl)
      · exact chkT_err l
theorem canT_err (l : List Ob) : 0 ≤ canT l ∧ canT l ≤ 8 := by
  unfold canT
  rcases chkT_err l with h | h | h <;> rw [h] <;> repeat' split
  all_goals omega
theorem chkT_cons {o : Ob} {l : List Ob} (h : chkT (o :: l) = 0) : ¬ badT o.1 ∧ o.2.length ≤ 255 ∧ chkT l = 0 := by
  unfold chkT at h
  split at h
  · omega
  · split at h
    · omega
    · rename_i h1 h2
      exact ⟨h1, by omega, h⟩
theorem chkT_mem : ∀ {l : List Ob}, chkT l = 0 → ∀ o ∈ l, ¬ badT o.1 ∧ o.2.length ≤ 255
  | [], _, o, h => by cases h
  | a :: l, hl, o, h => by
    have hc := chkT_cons hl
    rcases List.mem_cons.1 h with rfl | h
    · exact ⟨hc.1, hc.2.1⟩
    · exact chkT_mem hc.2.2 o h
theorem canT_zero {l : List Ob} (h : canT l = 0) : chkT l = 0 ∧ sumT l ≤ 256 := by
  unfold canT at h
  split at h
  · rename_i h1
    split at h
    · omega
    · exact ⟨h1, by omega⟩
  · rename_i h1
    exact absurd h h1
theorem partT_len (o : Ob) : (partT o).length = sizeT o := by simp [partT, sizeT]; omega
theorem flatT_len : ∀ l : List Ob, (flatT l).length = sumT l
  | [] => rfl
  | o :: l => by
    have ih := flatT_len l
    have hp := partT_len o
    unfold flatT sumT at ih ⊢
    simp only [List.flatMap_cons, List.map_cons, List.sum_cons, List.length_append] at ih ⊢
    omega
theorem partT_all {o : Ob} (h : AllB o.2) : AllB (partT o) := (AllB.cons (by omega) (by omega) (.cons (by omega) (by omega) .nil)).append h
theorem fillT_lt (n : Nat) : fillT n < 8 := by unfold fillT; omega
theorem fillT_mod (n : Nat) : (n + fillT n) % 8 = 0 := by unfold fillT; omega
theorem putT_len {l : List Ob} (h : canT l = 0) : (putT l).length ≤ 256 ∧ (putT l).length % 8 = 0 := by
  obtain ⟨h1, h2⟩ := canT_zero h
  have hl := flatT_len l
  unfold putT
  rw [if_pos h, List.length_append, nilT_len, hl]
  have := fillT_lt (sumT l)
  have := fillT_mod (sumT l)
  exact ⟨by omega, by omega⟩
theorem putT_none {l : List Ob} (h : canT l ≠ 0) : putT l = [] := by unfold putT; rw [if_neg h]
theorem putT_len_le (l : List Ob) : (putT l).length ≤ 256 := by
  by_cases h : canT l = 0
  · exact (putT_len h).1
  · rw [putT_none h]; simp
theorem flatT_all {l : List Ob} (h : ∀ o ∈ l, AllB o.2) : AllB (flatT l) := fun x hx => by
  unfold flatT at hx
  rw [List.mem_flatMap] at hx
  obtain ⟨o, ho, hx⟩ := hx
  exact partT_all (h o ho) x hx
theorem flatT_take {l : List Ob} {i : Nat} (h : i < l.length) : flatT (l.take (i + 1)) = flatT (l.take i) ++ partT (l.getD i zeroB) := by
  unfold flatT
  rw [List.take_succ_eq_append_getElem h, List.flatMap_append]
  simp [List.getD, h]
theorem flatT_take_le (l : List Ob) (i : Nat) : (flatT (l.take i)).length ≤ (flatT l).length := by
  have h : flatT l = flatT (l.take i) ++ flatT (l.drop i) := by unfold flatT; rw [← List.flatMap_append, List.take_append_drop]
  rw [h, List.length_append]; omega
theorem sumT_take {l : List Ob} {i : Nat} (h : i < l.length) : sumT (l.take (i + 1)) = sumT (l.take i) + sizeT (l.getD i zeroB) := by
  unfold sumT
  rw [List.take_succ_eq_append_getElem h, List.map_append, List.sum_append]
  simp [List.getD, h]
theorem chkT_drop {l : List Ob} {i : Nat} (h : i < l.length) : chkT (l.drop i) = if badT (l.getD i zeroB).1 then 2 else if 255 < (l.getD i zeroB).2.length then 4 else chkT (l.drop (i + 1)) := by
  have e : l.drop i = l.getD i zeroB :: l.drop (i + 1) := by
    rw [List.drop_eq_getElem_cons h]
    simp [List.getD, h]
  rw [e]
  rfl

/-- the part that bytes, not empty and not beginning with 0, begin with: none, if it is nothing -/
def keepT (xs : List Int) : List Ob := if xs.getD 0 0 = 4 then [] else [(xs.getD 0 0, (xs.drop 2).take (xs.getD 1 0).toNat)]
def shortT (xs : List Int) : Prop := xs.length < 2 ∨ (xs.length : Int) - 2 < xs.getD 1 0
instance (xs : List Int) : Decidable (shortT xs) := by unfold shortT; infer_instance
/-- the parts of bytes, in at most f - 1 steps -/
def parseT : Nat → List Int → List Ob × Int
  | 0, _ => ([], 0)
  | f + 1, xs =>
    if xs = [] then ([], 0)
    else if xs.getD 0 0 = 0 then parseT f (xs.drop 1)
    else if shortT xs then ([], 3)
    else joinO (keepT xs) (parseT f (xs.drop (2 + (xs.getD 1 0).toNat)))
def parseTL (xs : List Int) : List Ob × Int := parseT (xs.length + 1) xs

theorem keepT_len (xs : List Int) : (keepT xs).length ≤ 1 := by unfold keepT; split <;> simp
theorem parseT_err : ∀ (f : Nat) (xs : List Int), (parseT f xs).2 = 0 ∨ ((parseT f xs).2 = 3 ∧ (parseT f xs).1 = [])
  | 0, xs => .inl rfl
  | f + 1, xs => by
    have i1 := parseT_err f (xs.drop 1)
    have i2 := parseT_err f (xs.drop (2 + (xs.getD 1 0).toNat))
    unfold parseT
    split
    · exact .inl rfl
    · split
      · exact i1
      · split
        · exact .inr ⟨rfl, rfl⟩
        · unfold joinO
          split
          · exact .inl rfl
          · rename_i h
            rcases i2 with i2 | i2
            · exact absurd i2 h
            · exact .inr ⟨i2.1, rfl⟩
theorem parseT_err_nil (f : Nat) (xs : List Int) (h : (parseT f xs).2 ≠ 0) : (parseT f xs).1 = [] := by
  rcases parseT_err f xs with e | e
  · exact absurd e h
  · exact e.2
theorem parseT_range (f : Nat) (xs : List Int) : 0 ≤ (parseT f xs).2 ∧ (parseT f xs).2 ≤ 3 := by
  rcases parseT_err f xs with e | e
  · omega
  · omega
theorem parseT_len : ∀ (f : Nat) (xs : List Int), (parseT f xs).1.length ≤ xs.length
  | 0, xs => by simp [parseT]
  | f + 1, xs => by
    have i1 := parseT_len f (xs.drop 1)
    have i2 := parseT_len f (xs.drop (2 + (xs.getD 1 0).toNat))
    have hk := keepT_len xs
    rw [List.length_drop] at i1 i2
    unfold parseT
    split
    · simp
    · rename_i h0
      have := List.length_pos_iff.2 h0
      split
      · omega
      · split
        · simp
        · unfold joinO
          split
          · simp only [List.length_append]; omega
          · simp

/-! what was put is parsed as what it was -/
/-- bytes say these parts -/
def Says (xs : List Int) (l : List Ob) : Prop := ∀ f, xs.length < f → parseT f xs = (l, 0)
theorem says_nil : Says [] [] := fun f h => by
  cases f with
  | zero => omega
  | succ f => rfl
theorem says_pad {xs : List Int} {l : List Ob} (h : Says xs l) : ∀ m, m ≤ 257 → Says (nilT m ++ xs) l
  | 0, _ => h
  | 1, _ => fun f hf => by
    cases f with
    | zero => omega
    | succ f =>
      have e : nilT 1 ++ xs = 0 :: xs := rfl
      rw [e] at hf ⊢
      unfold parseT
      rw [if_neg (by simp), if_pos (by simp)]
      exact h f (by simpa using hf)
  | k + 2, hk => fun f hf => by
    cases f with
    | zero => omega
    | succ f =>
      have e : nilT (k + 2) ++ xs = 4 :: (k : Int) :: (List.replicate k 0 ++ xs) := by simp [nilT]
      rw [e] at hf ⊢
      unfold parseT
      rw [if_neg (by simp), if_neg (by simp)]
      have hs : ¬ shortT (4 :: (k : Int) :: (List.replicate k 0 ++ xs)) := by
        unfold shortT
        simp only [List.length_cons, List.length_append, List.length_replicate, List.getD_cons_succ, List.getD_cons_zero]
        omega
      have hd : (4 :: (k : Int) :: (List.replicate k 0 ++ xs)).drop (2 + k) = xs := by
        rw [Nat.add_comm]
        simp
      have hg : ((4 :: (k : Int) :: (List.replicate k 0 ++ xs)).getD 1 0).toNat = k := by simp
      rw [if_neg hs, hg, hd, h f (by simp at hf; omega)]
      simp [keepT, joinO]
theorem says_part {xs : List Int} {l : List Ob} {o : Ob} (h : Says xs l) (hb : ¬ badT o.1) (hl : o.2.length ≤ 255) : Says (partT o ++ xs) (o :: l) := fun f hf => by
  obtain ⟨k, d⟩ := o
  unfold badT at hb
  dsimp only at hb hl
  cases f with
  | zero => omega
  | succ f =>
    have e : partT (k, d) ++ xs = k :: (d.length : Int) :: (d ++ xs) := by
      have e1 : k % 256 = k := by omega
      have e2 : (d.length : Int) % 256 = d.length := by omega
      simp [partT, e1, e2]
    rw [e] at hf ⊢
    unfold parseT
    rw [if_neg (by simp), if_neg (by simp; omega)]
    have hs : ¬ shortT (k :: (d.length : Int) :: (d ++ xs)) := by
      unfold shortT
      simp only [List.length_cons, List.length_append, List.getD_cons_succ, List.getD_cons_zero]
      omega
    have hd : (k :: (d.length : Int) :: (d ++ xs)).drop (2 + d.length) = xs := by
      rw [Nat.add_comm]
      simp
    have hg : ((k :: (d.length : Int) :: (d ++ xs)).getD 1 0).toNat = d.length := by simp
    rw [if_neg hs, hg, hd, h f (by simp at hf; omega)]
    have hk : keepT (k :: (d.length : Int) :: (d ++ xs)) = [(k, d)] := by
      unfold keepT
      rw [if_neg (by simp; omega), hg]
      simp
    rw [hk]
    simp [joinO]
theorem says_flat {xs : List Int} {l : List Ob} (h : Says xs l) : ∀ {k : List Ob}, chkT k = 0 → Says (flatT k ++ xs) (k ++ l)
  | [], _ => h
  | o :: k, hc => by
    obtain ⟨h1, h2, h3⟩ := chkT_cons hc
    have e : flatT (o :: k) ++ xs = partT o ++ (flatT k ++ xs) := by simp [flatT]
    rw [e]
    exact says_part (says_flat h h3) h1 h2
theorem parse_putT {l : List Ob} (h : canT l = 0) (n m : Int) : parseTL (padT n ++ putT l ++ padT m) = (l, 0) := by
  obtain ⟨h1, h2⟩ := canT_zero h
  have e : padT n ++ putT l ++ padT m = nilT (min n.toNat 257) ++ (flatT l ++ (nilT (fillT (flatT l).length) ++ (nilT (min m.toNat 257) ++ []))) := by
    unfold putT padT
    rw [if_pos h]
    simp
  have hs : Says (padT n ++ putT l ++ padT m) l := by
    rw [e]
    have := says_pad (says_flat (says_pad (says_pad says_nil (min m.toNat 257) (by omega)) (fillT (flatT l).length) (by have := fillT_lt (flatT l).length; omega)) h1) (min n.toNat 257) (by omega)
    simpa using this
  exact hs _ (Nat.lt_succ_self _)
theorem putT_all {l : List Ob} (h : ∀ o ∈ l, AllB o.2) : AllB (putT l) := by
  unfold putT
  split
  · exact (flatT_all h).append (nilT_all (by have := fillT_lt (flatT l).length; omega))
  · exact AllB.nil
end Go.Proofs.Ytnfiijbnfmcpjaa
