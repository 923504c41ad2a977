/- Stage 21: cells with keys, as the page says them, as functions of numbers. No program here; no condition. -/
import Derived.Test.YthbboiolhejmmaaNums
set_option maxRecDepth 100000
namespace Go.Proofs.Ythbboiolhejmmaa
set_option linter.unusedVariables false

/-- the pairs that lie in cells -/
def pairsS (cs : List (Option (Int × Int))) : List (Int × Int) := cs.filterMap id
theorem pairsS_mem {cs : List (Option (Int × Int))} {p : Int × Int} : p ∈ pairsS cs ↔ ∃ i : Nat, cs[i]? = some (some p) := by
  unfold pairsS
  rw [List.mem_filterMap]
  constructor
  · rintro ⟨a, ha, rfl⟩
    obtain ⟨i, hi, e⟩ := List.mem_iff_getElem.1 ha
    exact ⟨i, by rw [List.getElem?_eq_getElem hi, e]⟩
  · rintro ⟨i, hi⟩
    exact ⟨some p, List.mem_of_getElem? hi, rfl⟩
/-- how far a cell is from another one, going up and round -/
def farS (n h i : Nat) : Nat := (i + n - h) % n
theorem farS_at {n h i : Nat} (hh : h < n) (hi : i < n) : (h + farS n h i) % n = i := by
  unfold farS
  by_cases e : h ≤ i
  · rw [show i + n - h = (i - h) + n by omega, Nat.add_mod_right, Nat.mod_eq_of_lt (show i - h < n by omega), show h + (i - h) = i by omega, Nat.mod_eq_of_lt hi]
  · rw [Nat.mod_eq_of_lt (show i + n - h < n by omega), show h + (i + n - h) = i + n by omega, Nat.add_mod_right, Nat.mod_eq_of_lt hi]
theorem farS_lt {n h i : Nat} (hn : 0 < n) : farS n h i < n := Nat.mod_lt _ hn
/-- ahead of the cell itself no other one is it -/
theorem farS_ne {n h i j : Nat} (hh : h < n) (hi : i < n) (hj : j < farS n h i) : (h + j) % n ≠ i := by
  have hl := farS_lt (n := n) (h := h) (i := i) (by omega)
  have e := farS_at hh hi
  intro e2
  rw [← e] at e2
  by_cases c1 : h + farS n h i < n
  · rw [Nat.mod_eq_of_lt (by omega), Nat.mod_eq_of_lt c1] at e2
    omega
  · by_cases c2 : h + j < n
    · rw [Nat.mod_eq_of_lt c2, Nat.mod_eq_sub_mod (by omega), Nat.mod_eq_of_lt (by omega)] at e2
      omega
    · rw [Nat.mod_eq_sub_mod (show n ≤ h + j by omega), Nat.mod_eq_of_lt (show h + j - n < n by omega), Nat.mod_eq_sub_mod (show n ≤ h + farS n h i by omega), Nat.mod_eq_of_lt (show h + farS n h i - n < n by omega)] at e2
      omega
theorem farS_step {n h i j : Nat} (hh : h < n) (hi : i < n) (hj : j ≤ farS n h i) : farS n ((h + j) % n) i = farS n h i - j := by
  have hl := farS_lt (n := n) (h := h) (i := i) (by omega)
  have e := farS_at hh hi
  generalize farS n h i = d at *
  unfold farS
  by_cases c1 : h + d < n
  · rw [Nat.mod_eq_of_lt c1] at e
    rw [Nat.mod_eq_of_lt (show h + j < n by omega), show i + n - (h + j) = (d - j) + n by omega, Nat.add_mod_right, Nat.mod_eq_of_lt (by omega)]
  · rw [Nat.mod_eq_sub_mod (by omega), Nat.mod_eq_of_lt (by omega)] at e
    by_cases c2 : h + j < n
    · rw [Nat.mod_eq_of_lt c2, show i + n - (h + j) = d - j by omega, Nat.mod_eq_of_lt (by omega)]
    · rw [Nat.mod_eq_sub_mod (show n ≤ h + j by omega), Nat.mod_eq_of_lt (show h + j - n < n by omega), show i + n - (h + j - n) = (d - j) + n by omega, Nat.add_mod_right, Nat.mod_eq_of_lt (by omega)]
/-- what cells are like: no key twice, each reached from its home -/
structure StS (n : Nat) (home : Int → Nat) (cs : List (Option (Int × Int))) : Prop where
  len : cs.length = n
  ok : ∀ (i : Nat) (p : Int × Int), cs[i]? = some (some p) → (-9223372036854775808 ≤ p.1 ∧ p.1 ≤ 9223372036854775807) ∧ (-9223372036854775808 ≤ p.2 ∧ p.2 ≤ 9223372036854775807)
  one : ∀ (a b : Nat) (p q : Int × Int), cs[a]? = some (some p) → cs[b]? = some (some q) → p.1 = q.1 → a = b
  reach : ∀ (i : Nat) (p : Int × Int), cs[i]? = some (some p) → ∀ j, j < farS n (home p.1) i → ∃ q, cs[(home p.1 + j) % n]? = some (some q)
theorem pairsS_keys : ∀ {cs : List (Option (Int × Int))}, (∀ (a b : Nat) (p q : Int × Int), cs[a]? = some (some p) → cs[b]? = some (some q) → p.1 = q.1 → a = b) → ((pairsS cs).map (·.1)).Nodup
  | [], _ => List.nodup_nil
  | c :: r, h => by
    have ih : ((pairsS r).map (·.1)).Nodup := pairsS_keys fun a b p q ha hb e => by
      have := h (a + 1) (b + 1) p q (by simpa using ha) (by simpa using hb) e
      omega
    cases c with
    | none => exact ih
    | some p =>
      show ((p :: pairsS r).map (·.1)).Nodup
      rw [List.map_cons, List.nodup_cons]
      refine ⟨fun hm => ?_, ih⟩
      obtain ⟨q, hq, e⟩ := List.mem_map.1 hm
      obtain ⟨i, hi⟩ := pairsS_mem.1 hq
      have := h 0 (i + 1) p q rfl (by simpa using hi) e.symm
      omega
theorem StS.keys {n : Nat} {home : Int → Nat} {cs : List (Option (Int × Int))} (h : StS n home cs) : ((pairsS cs).map (·.1)).Nodup := pairsS_keys h.one
theorem pairsS_len (cs : List (Option (Int × Int))) : (pairsS cs).length ≤ cs.length := List.length_filterMap_le _ _
theorem pairsS_free (n : Nat) : pairsS (List.replicate n none) = [] := by
  unfold pairsS
  induction n with
  | zero => rfl
  | succ n ih => rw [List.replicate_succ, List.filterMap_cons]; exact ih
theorem StS.free (n : Nat) (home : Int → Nat) : StS n home (List.replicate n none) := by
  have hno : ∀ (i : Nat) (p : Int × Int), (List.replicate n (none : Option (Int × Int)))[i]? = some (some p) → False := fun i p h => by
    have := List.mem_of_getElem? h
    have := (List.mem_replicate.1 this).2
    cases this
  exact ⟨List.length_replicate, fun i p h => (hno i p h).elim, fun a b p q h => (hno a p h).elim, fun i p h => (hno i p h).elim⟩

/-- is a key there -/
def hasS (l : List (Int × Int)) (k : Int) : Bool := l.any fun p => p.1 == k
theorem hasS_iff {l : List (Int × Int)} {k : Int} : hasS l k = true ↔ ∃ v, (k, v) ∈ l := by
  unfold hasS
  rw [List.any_eq_true]
  constructor
  · rintro ⟨p, hp, e⟩
    have e : p.1 = k := by simpa using e
    exact ⟨p.2, by rw [← e]; exact hp⟩
  · rintro ⟨v, hv⟩
    exact ⟨_, hv, by simp⟩
theorem hasS_perm {l s : List (Int × Int)} (h : l.Perm s) (k : Int) : hasS l k = hasS s k := by
  rw [Bool.eq_iff_iff, hasS_iff, hasS_iff]
  exact ⟨fun ⟨v, hv⟩ => ⟨v, h.mem_iff.1 hv⟩, fun ⟨v, hv⟩ => ⟨v, h.mem_iff.2 hv⟩⟩
/-- without a key -/
def outS (l : List (Int × Int)) (k : Int) : List (Int × Int) := l.filter fun p => p.1 != k
theorem outS_perm {l s : List (Int × Int)} (h : l.Perm s) (k : Int) : (outS l k).Perm (outS s k) := h.filter _
theorem outS_no {l : List (Int × Int)} {k : Int} (h : hasS l k = false) : outS l k = l := by
  unfold outS
  rw [List.filter_eq_self]
  intro p hp
  have : ¬ p.1 = k := fun e => by
    have h2 : hasS l k = true := hasS_iff.2 ⟨p.2, by rw [← e]; exact hp⟩
    rw [h] at h2
    cases h2
  simpa using this
/-- .. at its place -/
theorem outS_at : ∀ {l : List (Int × Int)} {k : Int} {i : Nat}, (l.map (·.1)).Nodup → i < l.length → (l.getD i (0, 0)).1 = k → outS l k = l.take i ++ l.drop (i + 1)
  | [], _, _, _, h, _ => absurd h (by simp)
  | p :: r, k, 0, hn, _, h => by
    rw [List.map_cons, List.nodup_cons] at hn
    have e : p.1 = k := h
    have hr : hasS r k = false := by
      cases hc : hasS r k
      · rfl
      · obtain ⟨x, hx⟩ := hasS_iff.1 hc
        exact absurd (List.mem_map.2 ⟨_, hx, e.symm⟩) hn.1
    show (p :: r).filter _ = _
    rw [List.filter_cons, if_neg (by simp [e])]
    exact outS_no hr
  | p :: r, k, i + 1, hn, hi, h => by
    rw [List.map_cons, List.nodup_cons] at hn
    have h : (r.getD i (0, 0)).1 = k := h
    have hi : i < r.length := by simpa using hi
    have e : ¬ p.1 = k := fun e => hn.1 (List.mem_map.2 ⟨r.getD i (0, 0), by simp [List.getD, hi], by rw [h, e]⟩)
    show (p :: r).filter _ = _
    rw [List.filter_cons, if_pos (by simp [e])]
    have ih := outS_at (k := k) hn.2 hi h
    unfold outS at ih
    rw [ih]
    rfl
/-- the page's Put, and whether it was put -/
def mayS (l : List (Int × Int)) (n : Nat) (k : Int) : Bool := hasS l k || decide (l.length < n)
def setS (l : List (Int × Int)) (k v : Int) : List (Int × Int) := l.map fun p => if p.1 = k then (k, v) else p
def putSl (l : List (Int × Int)) (n : Nat) (k v : Int) : List (Int × Int) := if hasS l k = true then setS l k v else if l.length < n then l ++ [(k, v)] else l
theorem setS_no : ∀ {l : List (Int × Int)} {k v : Int}, hasS l k = false → setS l k v = l
  | [], _, _, _ => rfl
  | p :: r, k, v, h => by
    have h1 : (p.1 == k) = false ∧ hasS r k = false := by
      unfold hasS at h ⊢
      rw [List.any_cons] at h
      simpa using h
    have h2 : ¬ p.1 = k := by simpa using h1.1
    show (if p.1 = k then (k, v) else p) :: setS r k v = p :: r
    rw [if_neg h2, setS_no h1.2]
theorem setS_perm : ∀ {l : List (Int × Int)} {k v : Int}, (l.map (·.1)).Nodup → hasS l k = true → (setS l k v).Perm ((k, v) :: outS l k)
  | [], _, _, _, h => by cases h
  | p :: r, k, v, hn, h => by
    rw [List.map_cons, List.nodup_cons] at hn
    by_cases e : p.1 = k
    · have hr : hasS r k = false := by
        cases hc : hasS r k
        · rfl
        · obtain ⟨x, hx⟩ := hasS_iff.1 hc
          exact absurd (List.mem_map.2 ⟨_, hx, e.symm⟩) hn.1
      have e1 : outS (p :: r) k = r := by
        show (p :: r).filter _ = r
        rw [List.filter_cons, if_neg (by simp [e])]
        exact outS_no hr
      show ((if p.1 = k then (k, v) else p) :: setS r k v).Perm _
      rw [if_pos e, setS_no hr, e1]
    · have hr : hasS r k = true := by
        unfold hasS at h ⊢
        rw [List.any_cons] at h
        have e2 : (p.1 == k) = false := by simpa using e
        rw [e2] at h
        simpa using h
      have e1 : outS (p :: r) k = p :: outS r k := by
        show (p :: r).filter _ = _
        rw [List.filter_cons, if_pos (by simp [e])]
        rfl
      show ((if p.1 = k then (k, v) else p) :: setS r k v).Perm _
      rw [if_neg e, e1]
      exact ((setS_perm hn.2 hr).cons p).trans (List.Perm.swap _ _ _)
theorem putSl_perm {l : List (Int × Int)} {n : Nat} {k v : Int} (hn : (l.map (·.1)).Nodup) (hm : mayS l n k = true) : (putSl l n k v).Perm ((k, v) :: outS l k) := by
  unfold putSl
  cases hc : hasS l k
  · unfold mayS at hm
    rw [hc] at hm
    have h2 : l.length < n := by simpa using hm
    rw [if_neg (by simp), if_pos h2, outS_no hc]
    exact List.perm_append_comm
  · rw [if_pos rfl]
    exact setS_perm hn hc
theorem putSl_not {l : List (Int × Int)} {n : Nat} {k v : Int} (hm : mayS l n k = false) : putSl l n k v = l := by
  unfold mayS at hm
  have h1 : hasS l k = false ∧ ¬ l.length < n := by simpa using hm
  unfold putSl
  rw [h1.1, if_neg (by simp), if_neg h1.2]
theorem keys_of_perm {l s : List (Int × Int)} (h : l.Perm s) (hn : (s.map (·.1)).Nodup) : (l.map (·.1)).Nodup := (h.map (·.1)).nodup_iff.2 hn
theorem keys_out {l : List (Int × Int)} (k : Int) (hn : (l.map (·.1)).Nodup) : ((outS l k).map (·.1)).Nodup := List.Sublist.nodup (List.Sublist.map _ List.filter_sublist) hn
theorem keys_put {l : List (Int × Int)} {k v : Int} (hn : (l.map (·.1)).Nodup) : (((k, v) :: outS l k).map (·.1)).Nodup := by
  rw [List.map_cons, List.nodup_cons]
  refine ⟨fun h => ?_, keys_out k hn⟩
  obtain ⟨q, hq, e⟩ := List.mem_map.1 h
  have := (List.mem_filter.1 hq).2
  have e : q.1 = k := e
  simp [e] at this
theorem mayS_perm {l s : List (Int × Int)} (h : l.Perm s) (n : Nat) (k : Int) : mayS l n k = mayS s n k := by unfold mayS; rw [hasS_perm h, h.length_eq]
/-- what stands by a key is one -/
theorem one_of_keys {l : List (Int × Int)} (hn : (l.map (·.1)).Nodup) {k v v' : Int} (h : (k, v) ∈ l) (h' : (k, v') ∈ l) : v = v' := by
  obtain ⟨i, hi, ei⟩ := List.mem_iff_getElem.1 h
  obtain ⟨j, hj, ej⟩ := List.mem_iff_getElem.1 h'
  have e : i = j := by
    refine (List.getElem_inj (xs := l.map (·.1)) (h₀ := by simpa using hi) (h₁ := by simpa using hj) hn).1 ?_
    simp [ei, ej]
  subst e
  rw [ei] at ej
  injection ej
end Go.Proofs.Ythbboiolhejmmaa
