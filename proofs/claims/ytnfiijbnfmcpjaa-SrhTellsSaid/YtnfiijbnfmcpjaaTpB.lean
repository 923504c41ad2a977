/- The page's words on options, as functions of lists: whether they can be, their bytes, the options of bytes; what was put is parsed as what it was. No program here. -/
import Derived.Test.YtnfiijbnfmcpjaaTpA
import Derived.Test.YtnfiijbnfmcpjaaOctB
namespace Go.Proofs.Ytnfiijbnfmcpjaa
open Go.RowKit
set_option linter.unusedVariables false

/-- how long the data of a kind must be; below 0: any -/
def longR (k : Int) : Int := if k = 1 ∨ k = 4 then 0 else if k = 2 then 2 else if k = 3 then 1 else if k = 8 then 8 else -1
def fitsO (k : Int) (n : Nat) : Bool := decide (longR k < 0) || decide (longR k = n)
theorem longR_range (k : Int) : -1 ≤ longR k ∧ longR k ≤ 8 := by
  unfold longR
  repeat' split
  all_goals omega
/-- option by option -/
def chkO : List Ob → Int
  | [] => 0
  | o :: l => if o.1 < 1 ∨ 255 < o.1 then 2 else if fitsO o.1 o.2.length = false then 5 else chkO l
def sizeO (o : Ob) : Nat := if o.1 = 1 then 1 else 2 + o.2.length
def sumO (l : List Ob) : Nat := (l.map sizeO).sum
def canO (l : List Ob) : Int := if chkO l = 0 then (if 40 < sumO l then 8 else 0) else chkO l
/-- what stands ahead of an option's data -/
def headO (o : Ob) : List Int := if o.1 = 1 then [1] else [o.1 % 256, (2 + (o.2.length : Int)) % 256]
def flatO (l : List Ob) : List Int := l.flatMap fun o => headO o ++ o.2
def padN (n : Nat) : Nat := (4 - n % 4) % 4
def padO (xs : List Int) : List Int := xs ++ List.replicate (padN xs.length) 0
def putO (l : List Ob) : List Int := if canO l = 0 then padO (flatO l) else []

theorem chkO_err : ∀ l : List Ob, chkO l = 0 ∨ chkO l = 2 ∨ chkO l = 5
  | [] => .inl rfl
  | o :: l => by
    unfold chkO
    split
    · exact .inr (.inl rfl)
    · split
      · exact .inr (.inr rfl)
      · exact chkO_err l
theorem canO_err (l : List Ob) : 0 ≤ canO l ∧ canO l ≤ 8 := by
  unfold canO
  rcases chkO_err l with h | h | h <;> rw [h] <;> repeat' split
  all_goals omega
theorem chkO_cons {o : Ob} {l : List Ob} (h : chkO (o :: l) = 0) : 1 ≤ o.1 ∧ o.1 ≤ 255 ∧ fitsO o.1 o.2.length = true ∧ chkO l = 0 := by
  unfold chkO at h
  split at h
  · omega
  · split at h
    · omega
    · rename_i h1 h2
      exact ⟨by omega, by omega, by simpa using h2, h⟩
theorem chkO_mem : ∀ {l : List Ob}, chkO l = 0 → ∀ o ∈ l, 1 ≤ o.1 ∧ o.1 ≤ 255 ∧ fitsO o.1 o.2.length = true
  | [], _, o, h => by cases h
  | a :: l, hl, o, h => by
    have hc := chkO_cons hl
    rcases List.mem_cons.1 h with rfl | h
    · exact ⟨hc.1, hc.2.1, hc.2.2.1⟩
    · exact chkO_mem hc.2.2.2 o h
theorem canO_zero {l : List Ob} (h : canO l = 0) : chkO l = 0 ∧ sumO l ≤ 40 := by
  unfold canO at h
  split at h
  · rename_i h1
    split at h
    · omega
    · exact ⟨h1, by omega⟩
  · rename_i h1
    exact absurd h h1
theorem fits_nop {n : Nat} (h : fitsO 1 n = true) : n = 0 := by
  simp only [fitsO, longR] at h
  simp at h
  omega
theorem head_len (o : Ob) : (headO o).length = if o.1 = 1 then 1 else 2 := by unfold headO; split <;> rfl
theorem part_len {o : Ob} (h : fitsO o.1 o.2.length = true) : (headO o).length + o.2.length = sizeO o := by
  rw [head_len]
  unfold sizeO
  split
  · rename_i e
    rw [e] at h
    have := fits_nop h
    omega
  · rfl
theorem flat_len : ∀ {l : List Ob}, chkO l = 0 → (flatO l).length = sumO l
  | [], _ => rfl
  | o :: l, h => by
    have hc := chkO_cons h
    have ih := flat_len hc.2.2.2
    have hp := part_len hc.2.2.1
    unfold flatO sumO at ih ⊢
    simp only [List.flatMap_cons, List.map_cons, List.sum_cons, List.length_append] at ih ⊢
    omega
theorem pad_mod (n : Nat) : (n + padN n) % 4 = 0 := by unfold padN; omega
theorem pad_lt (n : Nat) : padN n < 4 := by unfold padN; omega
theorem padO_len (xs : List Int) : (padO xs).length = xs.length + padN xs.length := by simp [padO]
theorem head_all (o : Ob) : AllB (headO o) := by
  unfold headO
  split
  · exact .cons (by omega) (by omega) .nil
  · exact .cons (by omega) (by omega) (.cons (by omega) (by omega) .nil)
theorem zeros_all (n : Nat) : AllB (List.replicate n 0) := fun x hx => by
  rw [List.eq_of_mem_replicate hx]; omega

/-- the option, no byte 0, that bytes begin with; how many bytes it has; or why there is none -/
def takeO (xs : List Int) : Ob × Nat × Int :=
  if xs.getD 0 0 = 1 then ((1, []), 1, 0)
  else if xs.length < 2 then (zeroB, 0, 3)
  else if xs.getD 1 0 < 2 then (zeroB, 0, 5)
  else if (xs.length : Int) < xs.getD 1 0 then (zeroB, 0, 3)
  else if fitsO (xs.getD 0 0) ((xs.getD 1 0).toNat - 2) = false then (zeroB, 0, 5)
  else ((xs.getD 0 0, (xs.drop 2).take ((xs.getD 1 0).toNat - 2)), (xs.getD 1 0).toNat, 0)
def joinO (os : List Ob) (r : List Ob × Int) : List Ob × Int := if r.2 = 0 then (os ++ r.1, 0) else ([], r.2)
/-- the options of bytes, at most f - 1 of them -/
def parseO : Nat → List Int → List Ob × Int
  | 0, _ => ([], 0)
  | f + 1, xs =>
    if xs = [] then ([], 0)
    else if xs.getD 0 0 = 0 then (if zerosB xs = true then ([], 0) else ([], 5))
    else if (takeO xs).2.2 = 0 then joinO [(takeO xs).1] (parseO f (xs.drop (takeO xs).2.1))
    else ([], (takeO xs).2.2)
def parseL (xs : List Int) : List Ob × Int := if 40 < xs.length then ([], 4) else parseO 41 xs

theorem joinO_nil (r : List Ob × Int) (h : r.2 ≠ 0 → r.1 = []) : joinO [] r = r := by
  unfold joinO
  split
  · rename_i e; rw [← e]; simp
  · rename_i e; rw [← h e]
theorem joinO_join (a b : List Ob) (r : List Ob × Int) : joinO a (joinO b r) = joinO (a ++ b) r := by
  unfold joinO
  by_cases h : r.2 = 0
  · simp [h]
  · simp [h]
theorem parseO_err_nil : ∀ (f : Nat) (xs : List Int), (parseO f xs).2 ≠ 0 → (parseO f xs).1 = []
  | 0, xs, h => absurd rfl h
  | f + 1, xs, h => by
    unfold parseO at h ⊢
    split
    · rfl
    · split
      · split <;> rfl
      · split
        · unfold joinO
          rename_i h1 h2 h3
          rw [if_neg h1, if_neg h2, if_pos h3] at h
          unfold joinO at h
          split
          · rename_i h4
            rw [if_pos h4] at h
            exact absurd rfl h
          · rfl
        · rfl
theorem takeO_err (xs : List Int) : (takeO xs).2.2 = 0 ∨ (takeO xs).2.2 = 3 ∨ (takeO xs).2.2 = 5 := by
  unfold takeO
  repeat' split
  all_goals simp
theorem takeO_size {xs : List Int} (h : (takeO xs).2.2 = 0) (hn : 0 < xs.length) : 1 ≤ (takeO xs).2.1 ∧ (takeO xs).2.1 ≤ xs.length := by
  unfold takeO at h ⊢
  split
  · exact ⟨Nat.le_refl _, hn⟩
  · rename_i h1
    rw [if_neg h1] at h
    split
    · rename_i h2; rw [if_pos h2] at h; simp at h
    · rename_i h2
      rw [if_neg h2] at h
      split
      · rename_i h3; rw [if_pos h3] at h; simp at h
      · rename_i h3
        rw [if_neg h3] at h
        split
        · rename_i h4; rw [if_pos h4] at h; simp at h
        · rename_i h4
          rw [if_neg h4] at h
          split
          · rename_i h5; rw [if_pos h5] at h; simp at h
          · dsimp only
            omega
theorem parseO_err : ∀ (f : Nat) (xs : List Int), 0 ≤ (parseO f xs).2 ∧ (parseO f xs).2 ≤ 8
  | 0, xs => by simp [parseO]
  | f + 1, xs => by
    have ih := parseO_err f (xs.drop (takeO xs).2.1)
    have ht := takeO_err xs
    unfold parseO
    repeat' split
    all_goals try unfold joinO
    all_goals repeat' split
    all_goals dsimp only
    all_goals omega
theorem parseL_err (xs : List Int) : 0 ≤ (parseL xs).2 ∧ (parseL xs).2 ≤ 8 := by
  unfold parseL
  split
  · simp
  · exact parseO_err 41 xs
theorem parseO_len : ∀ (f : Nat) (xs : List Int), (parseO f xs).1.length ≤ f
  | 0, xs => by simp [parseO]
  | f + 1, xs => by
    have ih := parseO_len f (xs.drop (takeO xs).2.1)
    unfold parseO
    repeat' split
    all_goals try unfold joinO
    all_goals repeat' split
    all_goals simp
    all_goals omega
theorem parseL_len (xs : List Int) : (parseL xs).1.length ≤ 41 := by
  unfold parseL
  split
  · simp
  · exact parseO_len 41 xs

/-! what is parsed can be put again, in no more bytes -/
theorem takeO_fine {xs : List Int} (ha : AllB xs) (h0 : xs.getD 0 0 ≠ 0) (h : (takeO xs).2.2 = 0) : 1 ≤ (takeO xs).1.1 ∧ (takeO xs).1.1 ≤ 255 ∧ fitsO (takeO xs).1.1 (takeO xs).1.2.length = true ∧ sizeO (takeO xs).1 = (takeO xs).2.1 := by
  have hb := ha.getD 0
  have hb1 := ha.getD 1
  unfold takeO at h ⊢
  split
  · simp [fitsO, longR, sizeO]
  · rename_i h1
    rw [if_neg h1] at h
    split
    · rename_i h2; rw [if_pos h2] at h; simp at h
    · rename_i h2
      rw [if_neg h2] at h
      split
      · rename_i h3; rw [if_pos h3] at h; simp at h
      · rename_i h3
        rw [if_neg h3] at h
        split
        · rename_i h4; rw [if_pos h4] at h; simp at h
        · rename_i h4
          rw [if_neg h4] at h
          split
          · rename_i h5; rw [if_pos h5] at h; simp at h
          · rename_i h5
            have hl : ((xs.drop 2).take ((xs.getD 1 0).toNat - 2)).length = (xs.getD 1 0).toNat - 2 := by rw [List.length_take, List.length_drop]; omega
            refine ⟨by show 1 ≤ xs.getD 0 0; omega, by show xs.getD 0 0 ≤ 255; omega, ?_, ?_⟩
            · show fitsO (xs.getD 0 0) _ = true
              rw [hl]; simpa using h5
            · unfold sizeO
              rw [if_neg h1, hl]
              show 2 + ((xs.getD 1 0).toNat - 2) = (xs.getD 1 0).toNat
              omega
theorem parseO_fine : ∀ (f : Nat) (xs : List Int), AllB xs → (parseO f xs).2 = 0 → chkO (parseO f xs).1 = 0 ∧ sumO (parseO f xs).1 ≤ xs.length
  | 0, xs, _, _ => ⟨rfl, Nat.zero_le _⟩
  | f + 1, xs, ha, h => by
    have ih := parseO_fine f (xs.drop (takeO xs).2.1) (ha.drop _)
    unfold parseO at h ⊢
    split
    · exact ⟨rfl, Nat.zero_le _⟩
    · rename_i h1
      rw [if_neg h1] at h
      split
      · split <;> exact ⟨rfl, Nat.zero_le _⟩
      · rename_i h2
        rw [if_neg h2] at h
        split
        · rename_i h3
          rw [if_pos h3] at h
          unfold joinO at h ⊢
          split
          · rename_i h4
            obtain ⟨i1, i2⟩ := ih h4
            obtain ⟨t1, t2, t3, t4⟩ := takeO_fine ha h2 h3
            have hn : 0 < xs.length := List.length_pos_iff.2 h1
            have hs := takeO_size h3 hn
            have e : [(takeO xs).1] ++ (parseO f (xs.drop (takeO xs).2.1)).1 = (takeO xs).1 :: (parseO f (xs.drop (takeO xs).2.1)).1 := rfl
            refine ⟨?_, ?_⟩
            · dsimp only
              rw [e]
              unfold chkO
              rw [if_neg (by omega), if_neg (by rw [t3]; simp)]
              exact i1
            · dsimp only
              rw [e]
              unfold sumO at i2 ⊢
              rw [List.map_cons, List.sum_cons, t4]
              rw [List.length_drop] at i2
              omega
          · rename_i h4
            rw [if_neg h4] at h
            exact absurd h h4
        · rename_i h3
          rw [if_neg h3] at h
          exact absurd h h3
theorem parseL_fine {xs : List Int} (ha : AllB xs) (h : (parseL xs).2 = 0) : canO (parseL xs).1 = 0 ∧ sumO (parseL xs).1 ≤ xs.length := by
  unfold parseL at h ⊢
  split
  · rename_i h1
    rw [if_pos h1] at h
    simp at h
  · rename_i h1
    rw [if_neg h1] at h
    obtain ⟨c1, c2⟩ := parseO_fine 41 xs ha h
    refine ⟨?_, c2⟩
    unfold canO
    rw [if_pos c1, if_neg (by omega)]

/-! what was put is parsed as what it was -/
theorem takeO_put {o : Ob} {rest : List Int} (h1 : 1 ≤ o.1) (h2 : o.1 ≤ 255) (h3 : fitsO o.1 o.2.length = true) (h4 : o.2.length ≤ 253) : takeO (headO o ++ o.2 ++ rest) = (o, sizeO o, 0) := by
  obtain ⟨k, d⟩ := o
  dsimp only at h1 h2 h3 h4 ⊢
  by_cases hk : k = 1
  · subst hk
    have hd := fits_nop h3
    obtain rfl : d = [] := List.eq_nil_of_length_eq_zero hd
    simp [headO, takeO, sizeO]
  · have e1 : k % 256 = k := by omega
    have e2 : (2 + (d.length : Int)) % 256 = 2 + d.length := by omega
    have hh : headO (k, d) ++ d ++ rest = k :: (2 + (d.length : Int)) :: (d ++ rest) := by simp [headO, hk, e1, e2]
    rw [hh]
    unfold takeO
    have et : (2 + (d.length : Int)).toNat - 2 = d.length := by omega
    have el : (k :: (2 + (d.length : Int)) :: (d ++ rest)).length = 2 + d.length + rest.length := by simp; omega
    rw [el]
    simp only [List.getD_cons_zero, List.getD_cons_succ]
    rw [if_neg hk, if_neg (by omega), if_neg (by omega), if_neg (by omega), et, if_neg (by rw [h3]; simp)]
    have e5 : (2 + (d.length : Int)).toNat = 2 + d.length := by omega
    simp [sizeO, hk, e5]
theorem parseO_put : ∀ (l : List Ob) (f z : Nat), chkO l = 0 → sumO l ≤ 40 → sumO l + z < f → parseO f (flatO l ++ List.replicate z 0) = (l, 0)
  | [], 0, z, _, _, h => by omega
  | [], f + 1, z, _, _, h => by
    unfold parseO
    cases z with
    | zero => simp [flatO]
    | succ z =>
      have e : flatO [] ++ List.replicate (z + 1) (0 : Int) = List.replicate (z + 1) 0 := rfl
      rw [e, if_neg (by simp), if_pos (by simp), if_pos (by simp [zerosB])]
  | o :: l, 0, z, _, _, h => by omega
  | o :: l, f + 1, z, hc, hs, h => by
    obtain ⟨c1, c2, c3, c4⟩ := chkO_cons hc
    have hs2 : sumO (o :: l) = sizeO o + sumO l := by simp [sumO]
    have hsz : 1 ≤ sizeO o := by unfold sizeO; split <;> omega
    have hd : o.2.length ≤ 253 := by
      have := part_len c3
      omega
    have hf : flatO (o :: l) ++ List.replicate z 0 = headO o ++ o.2 ++ (flatO l ++ List.replicate z 0) := by simp [flatO]
    have ht := takeO_put (rest := flatO l ++ List.replicate z 0) c1 c2 c3 hd
    have hpl := part_len c3
    have ih := parseO_put l f z c4 (by omega) (by omega)
    rw [hf]
    unfold parseO
    have hne : headO o ++ o.2 ++ (flatO l ++ List.replicate z 0) ≠ [] := by
      intro e
      have := congrArg List.length e
      simp only [List.length_append, List.length_nil] at this
      omega
    have h0 : (headO o ++ o.2 ++ (flatO l ++ List.replicate z 0)).getD 0 0 ≠ 0 := by
      unfold headO
      split
      · simp
      · simp
        omega
    rw [if_neg hne, if_neg h0, ht, if_pos rfl]
    dsimp only
    rw [← hpl, ← List.length_append, List.drop_left, ih]
    simp [joinO]
theorem parse_put {l : List Ob} (h : canO l = 0) : parseL (putO l) = (l, 0) ∧ (putO l).length ≤ 40 ∧ (putO l).length % 4 = 0 := by
  obtain ⟨h1, h2⟩ := canO_zero h
  have hl := flat_len h1
  have hp : (putO l).length = sumO l + padN (sumO l) := by unfold putO; rw [if_pos h, padO_len, hl]
  have h40 : sumO l + padN (sumO l) ≤ 40 := by unfold padN; omega
  refine ⟨?_, by omega, by rw [hp]; exact pad_mod _⟩
  unfold parseL
  rw [if_neg (by omega)]
  unfold putO padO
  rw [if_pos h, hl]
  exact parseO_put l 41 _ h1 h2 (by omega)
theorem putO_all {l : List Ob} (h : ∀ o ∈ l, AllB o.2) : AllB (putO l) := by
  unfold putO
  split
  · unfold padO
    refine AllB.append ?_ (zeros_all _)
    intro x hx
    unfold flatO at hx
    rw [List.mem_flatMap] at hx
    obtain ⟨o, ho, hx⟩ := hx
    exact ((head_all o).append (h o ho)) x hx
  · exact AllB.nil
theorem putO_len {l : List Ob} (h : canO l = 0) : (putO l).length ≤ sumO l + 3 := by
  obtain ⟨h1, h2⟩ := canO_zero h
  have hl := flat_len h1
  have := pad_lt (sumO l)
  unfold putO
  rw [if_pos h, padO_len, hl]
  omega
end Go.Proofs.Ytnfiijbnfmcpjaa
