/- Stage 17: members as the page says them: right, their weights together, by their nodes rising, the sequence of their turns; the table. No program here; no condition. -/
import Derived.Test.YtogmfhofdjiihaaMgB
set_option maxRecDepth 100000
namespace Go.Proofs.Ytogmfhofdjiihaa
set_option linter.unusedVariables false

/-- a member -/
structure Mbr where
  n : Int
  w : Int
def zeroMbr : Mbr := ⟨0, 0⟩
def badM (x : Mbr) : Bool := decide (x.n < 1 ∨ 65535 < x.n ∨ x.w < 0 ∨ 4 < x.w)
def twiceM (l : List Mbr) (i : Nat) : Bool := (l.take i).any fun y => y.n == (l.getD i zeroMbr).n
/-- what is wrong with the i-th one -/
def wrongM (l : List Mbr) (i : Nat) : Int := if badM (l.getD i zeroMbr) then 2 else if twiceM l i then 9 else 0
/-- the first thing that is wrong -/
def rightM (l : List Mbr) : Int := (((List.range l.length).map (wrongM l)).find? (fun e => e != 0)).getD (if 16 < l.length then 8 else 0)
theorem rightM_first (l : List Mbr) (i : Nat) (hi : i < l.length) (h : ∀ j, j < i → wrongM l j = 0) (hw : wrongM l i ≠ 0) : rightM l = wrongM l i := by
  unfold rightM
  have e : List.range l.length = List.range i ++ i :: (List.range' (i + 1) (l.length - (i + 1))) := by
    rw [List.range_eq_range', List.range_eq_range', ← List.range'_succ, show l.length - (i + 1) + 1 = l.length - i by omega]
    have := @List.range'_append 0 i (l.length - i) 1
    simpa [show i + (l.length - i) = l.length by omega] using this.symm
  rw [e, List.map_append, List.find?_append]
  have h1 : ((List.range i).map (wrongM l)).find? (fun e => e != 0) = none := by
    rw [List.find?_eq_none]
    intro x hx
    obtain ⟨j, hj, rfl⟩ := List.mem_map.1 hx
    simp [h j (List.mem_range.1 hj)]
  rw [h1]
  simp [hw]
theorem rightM_last (l : List Mbr) (h : ∀ j, j < l.length → wrongM l j = 0) : rightM l = if 16 < l.length then 8 else 0 := by
  unfold rightM
  have h1 : ((List.range l.length).map (wrongM l)).find? (fun e => e != 0) = none := by
    rw [List.find?_eq_none]
    intro x hx
    obtain ⟨j, hj, rfl⟩ := List.mem_map.1 hx
    simp [h j (List.mem_range.1 hj)]
  rw [h1]
  rfl
/-- members that are right -/
structure RightM (l : List Mbr) : Prop where
  ok : ∀ x ∈ l, 1 ≤ x.n ∧ x.n ≤ 65535 ∧ 0 ≤ x.w ∧ x.w ≤ 4
  once : (l.map Mbr.n).Nodup
  few : l.length ≤ 16
theorem wrongM_none (l : List Mbr) (h : rightM l = 0) : l.length ≤ 16 ∧ ∀ j, j < l.length → wrongM l j = 0 := by
  by_cases ha : ∀ j, j < l.length → wrongM l j = 0
  · rw [rightM_last l ha] at h
    refine ⟨?_, ha⟩
    by_cases h16 : 16 < l.length
    · rw [if_pos h16] at h
      omega
    · omega
  · exfalso
    have : ∃ i, i < l.length ∧ wrongM l i ≠ 0 ∧ ∀ j, j < i → wrongM l j = 0 := by
      have h1 : ∃ i, i < l.length ∧ wrongM l i ≠ 0 := by
        apply Classical.byContradiction
        intro hc
        exact ha fun j hj => Classical.byContradiction fun h2 => hc ⟨j, hj, h2⟩
      obtain ⟨i, hi, hw⟩ := h1
      have key : ∀ n i, i ≤ n → i < l.length → wrongM l i ≠ 0 → ∃ i, i < l.length ∧ wrongM l i ≠ 0 ∧ ∀ j, j < i → wrongM l j = 0 := by
        intro n
        induction n with
        | zero =>
          intro i h0 hi hw
          exact ⟨i, hi, hw, fun j hj => by omega⟩
        | succ n ih =>
          intro i h0 hi hw
          by_cases hc : ∀ j, j < i → wrongM l j = 0
          · exact ⟨i, hi, hw, hc⟩
          · have : ∃ j, j < i ∧ wrongM l j ≠ 0 := by
              apply Classical.byContradiction
              intro hc2
              exact hc fun j hj => Classical.byContradiction fun h2 => hc2 ⟨j, hj, h2⟩
            obtain ⟨j, hj, hwj⟩ := this
            exact ih j (by omega) (by omega) hwj
      exact key i i (Nat.le_refl _) hi hw
    obtain ⟨i, hi, hw, hj⟩ := this
    rw [rightM_first l i hi hj hw] at h
    exact hw h
theorem getD_memM (l : List Mbr) (i : Nat) (h : i < l.length) : l.getD i zeroMbr = l[i] := by simp [List.getD, h]
theorem rightM_right {l : List Mbr} (h : rightM l = 0) : RightM l := by
  obtain ⟨h16, hw⟩ := wrongM_none l h
  refine ⟨fun x hx => ?_, ?_, h16⟩
  · obtain ⟨i, hi, rfl⟩ := List.mem_iff_getElem.1 hx
    have h1 := hw i hi
    unfold wrongM at h1
    rw [getD_memM l i hi] at h1
    by_cases hb : badM l[i] = true
    · rw [if_pos hb] at h1
      omega
    · have h2 : ¬ (l[i].n < 1 ∨ 65535 < l[i].n ∨ l[i].w < 0 ∨ 4 < l[i].w) := fun h3 => hb (decide_eq_true h3)
      omega
  · refine List.pairwise_iff_getElem.2 fun i j hi hj hij => ?_
    have hj' : j < l.length := by simpa using hj
    have hi' : i < l.length := by simpa using hi
    have h1 := hw j hj'
    unfold wrongM at h1
    have h2 : twiceM l j = false := by
      by_cases hb : badM (l.getD j zeroMbr) = true
      · rw [if_pos hb] at h1
        omega
      · rw [if_neg hb] at h1
        by_cases ht : twiceM l j = true
        · rw [if_pos ht] at h1
          omega
        · simpa using ht
    unfold twiceM at h2
    rw [List.any_eq_false] at h2
    have h3 := h2 l[i] (List.mem_take_iff_getElem.2 ⟨i, by omega, rfl⟩)
    rw [getD_memM l j hj'] at h3
    simpa using h3

def totalM (l : List Mbr) : Int := if rightM l = 0 then (l.map Mbr.w).sum else 0
/-- put among members that rise -/
def insM (x : Mbr) (l : List Mbr) : List Mbr := l.takeWhile (fun y => decide (y.n < x.n)) ++ x :: l.dropWhile (fun y => decide (y.n < x.n))
def sortM (l : List Mbr) : List Mbr := l.foldl (fun out x => insM x out) []
theorem insM_mem {x y : Mbr} {l : List Mbr} : y ∈ insM x l ↔ y = x ∨ y ∈ l := by
  unfold insM
  rw [List.mem_append, List.mem_cons]
  constructor
  · rintro (h | h | h)
    · exact .inr ((List.takeWhile_sublist _).mem h)
    · exact .inl h
    · exact .inr ((List.dropWhile_sublist _).mem h)
  · rintro (h | h)
    · exact .inr (.inl h)
    · rw [← List.takeWhile_append_dropWhile (p := fun y => decide (y.n < x.n)) (l := l), List.mem_append] at h
      rcases h with h | h
      · exact .inl h
      · exact .inr (.inr h)
theorem insM_len (x : Mbr) (l : List Mbr) : (insM x l).length = l.length + 1 := by
  unfold insM
  rw [List.length_append, List.length_cons]
  have := congrArg List.length (List.takeWhile_append_dropWhile (p := fun y => decide (y.n < x.n)) (l := l))
  rw [List.length_append] at this
  omega
/-- members by their nodes, rising -/
def RiseM (l : List Mbr) : Prop := l.Pairwise fun x y => x.n < y.n
theorem drop_riseM (x : Mbr) : ∀ (l : List Mbr), RiseM l → (∀ y ∈ l, y.n ≠ x.n) → ∀ y ∈ l.dropWhile (fun y => decide (y.n < x.n)), x.n < y.n
  | [], _, _, y, hy => by simp at hy
  | z :: r, h, hn, y, hy => by
    by_cases hz : z.n < x.n
    · rw [List.dropWhile_cons_of_pos (by simpa using hz)] at hy
      exact drop_riseM x r (List.pairwise_cons.1 h).2 (fun y hy => hn y (List.mem_cons_of_mem _ hy)) y hy
    · rw [List.dropWhile_cons_of_neg (by simpa using hz)] at hy
      have h1 := hn z List.mem_cons_self
      rcases List.mem_cons.1 hy with rfl | hy
      · omega
      · have := (List.pairwise_cons.1 h).1 y hy
        omega
theorem take_riseM (x : Mbr) : ∀ (l : List Mbr), ∀ y ∈ l.takeWhile (fun y => decide (y.n < x.n)), y.n < x.n
  | [], y, hy => by simp at hy
  | z :: r, y, hy => by
    by_cases hz : z.n < x.n
    · rw [List.takeWhile_cons_of_pos (by simpa using hz)] at hy
      rcases List.mem_cons.1 hy with rfl | hy
      · exact hz
      · exact take_riseM x r y hy
    · rw [List.takeWhile_cons_of_neg (by simpa using hz)] at hy
      cases hy
theorem insM_rise {x : Mbr} {l : List Mbr} (h : RiseM l) (hn : ∀ y ∈ l, y.n ≠ x.n) : RiseM (insM x l) := by
  unfold insM RiseM
  have ht := take_riseM x l
  have hd := drop_riseM x l h hn
  rw [List.pairwise_append, List.pairwise_cons]
  refine ⟨h.sublist (List.takeWhile_sublist _), ⟨hd, h.sublist (List.dropWhile_sublist _)⟩, fun a ha b hb => ?_⟩
  have h1 := ht a ha
  rcases List.mem_cons.1 hb with rfl | hb
  · exact h1
  · have := hd b hb
    omega
theorem sortM_fold : ∀ (l out : List Mbr), RiseM out → (l.map Mbr.n).Nodup → (∀ x ∈ l, ∀ y ∈ out, y.n ≠ x.n) →
    RiseM (l.foldl (fun out x => insM x out) out) ∧ (∀ y, y ∈ l.foldl (fun out x => insM x out) out ↔ y ∈ l ∨ y ∈ out) ∧ (l.foldl (fun out x => insM x out) out).length = l.length + out.length
  | [], out, h, _, _ => ⟨h, fun y => by simp, by simp⟩
  | x :: r, out, h, hd, ho => by
    rw [List.map_cons, List.nodup_cons] at hd
    obtain ⟨h1, h2, h3⟩ := sortM_fold r (insM x out) (insM_rise h (ho x List.mem_cons_self)) hd.2 (fun z hz y hy => by
      rcases insM_mem.1 hy with rfl | hy
      · exact fun e => hd.1 (List.mem_map.2 ⟨z, hz, e.symm⟩)
      · exact ho z (List.mem_cons_of_mem _ hz) y hy)
    refine ⟨h1, fun y => ?_, ?_⟩
    · rw [List.foldl_cons, h2 y, insM_mem, List.mem_cons]
      constructor
      · rintro (h | h | h)
        · exact .inl (.inr h)
        · exact .inl (.inl h)
        · exact .inr h
      · rintro ((h | h) | h)
        · exact .inr (.inl h)
        · exact .inl h
        · exact .inr (.inr h)
    · rw [List.foldl_cons, h3, insM_len, List.length_cons]
      omega
theorem sortM_sorts {l : List Mbr} (hd : (l.map Mbr.n).Nodup) : RiseM (sortM l) ∧ (∀ y, y ∈ sortM l ↔ y ∈ l) ∧ (sortM l).length = l.length := by
  obtain ⟨h1, h2, h3⟩ := sortM_fold l [] List.Pairwise.nil hd (fun _ _ _ h => by cases h)
  exact ⟨h1, fun y => (h2 y).trans (by simp), h3.trans (by simp)⟩
/-- two lists that rise and have the same members are one -/
theorem rise_one : ∀ (l k : List Mbr), RiseM l → RiseM k → (∀ y, y ∈ l ↔ y ∈ k) → l = k
  | [], [], _, _, _ => rfl
  | [], y :: k, _, _, h => by have := (h y).2 List.mem_cons_self; cases this
  | x :: l, [], _, _, h => by have := (h x).1 List.mem_cons_self; cases this
  | x :: l, y :: k, hl, hk, h => by
    obtain ⟨hl1, hl2⟩ := List.pairwise_cons.1 hl
    obtain ⟨hk1, hk2⟩ := List.pairwise_cons.1 hk
    have hxy : x = y := by
      rcases List.mem_cons.1 ((h x).1 List.mem_cons_self) with e | h1
      · exact e
      · rcases List.mem_cons.1 ((h y).2 List.mem_cons_self) with e | h2
        · exact e.symm
        · have h3 := hk1 x h1
          have h4 := hl1 y h2
          omega
    subst hxy
    rw [rise_one l k hl2 hk2 fun z => ?_]
    constructor
    · intro hz
      rcases List.mem_cons.1 ((h z).1 (List.mem_cons_of_mem _ hz)) with e | h1
      · have := hl1 z hz
        rw [e] at this
        omega
      · exact h1
    · intro hz
      rcases List.mem_cons.1 ((h z).2 (List.mem_cons_of_mem _ hz)) with e | h1
      · have := hk1 z hz
        rw [e] at this
        omega
      · exact h1
/-- the turns of one sweep -/
def seqM (l : List Mbr) : List Int := l.flatMap fun x => List.replicate x.w.toNat x.n
theorem seqM_cons (x : Mbr) (l : List Mbr) : seqM (x :: l) = List.replicate x.w.toNat x.n ++ seqM l := by simp [seqM]
theorem seqM_mem {n : Int} {l : List Mbr} (h : n ∈ seqM l) : ∃ x ∈ l, x.n = n := by
  obtain ⟨x, hx, h1⟩ := List.mem_flatMap.1 h
  exact ⟨x, hx, (List.eq_of_mem_replicate h1).symm⟩
theorem seqM_count : ∀ {l : List Mbr}, (l.map Mbr.n).Nodup → ∀ x ∈ l, (seqM l).count x.n = x.w.toNat
  | [], _, x, h => by cases h
  | y :: r, hd, x, hx => by
    rw [List.map_cons, List.nodup_cons] at hd
    rw [seqM_cons, List.count_append]
    rcases List.mem_cons.1 hx with rfl | hx
    · have h0 : (seqM r).count x.n = 0 := List.count_eq_zero.2 fun h => by
        obtain ⟨z, hz, e⟩ := seqM_mem h
        exact hd.1 (List.mem_map.2 ⟨z, hz, e⟩)
      rw [h0, List.count_replicate_self, Nat.add_zero]
    · have h1 : y.n ≠ x.n := fun e => hd.1 (List.mem_map.2 ⟨x, hx, e.symm⟩)
      rw [seqM_count hd.2 x hx, List.count_eq_zero.2 (fun h => h1 (List.eq_of_mem_replicate h).symm), Nat.zero_add]
theorem seqM_len : ∀ {l : List Mbr}, (∀ x ∈ l, 0 ≤ x.w) → ((seqM l).length : Int) = (l.map Mbr.w).sum
  | [], _ => rfl
  | y :: r, h => by
    have h1 := h y List.mem_cons_self
    rw [seqM_cons, List.length_append, List.length_replicate, List.map_cons, List.sum_cons, ← seqM_len fun x hx => h x (List.mem_cons_of_mem _ hx)]
    omega
end Go.Proofs.Ytogmfhofdjiihaa
